/- VlW | OnP | WoW | OneW | OneX | OneY | OneZ | FrmP -/
import Derived.Test.YtldjiieckddhkaaGreatDoorMg31
import Derived.BigQuiet
import Derived.Test.YtldjiieckddhkaaGreatDoorMg23
import Derived.Test.YtldjiieckddhkaaGreatDoorMg1
import Derived.Deep.Slices
import Derived.LaidLaws
import Derived.SizedLaws
namespace Go.Proofs.YtldjiieckddhkaaGreatDoor
open Go.RowKit Go.Sort Go.Lib
def valQ (x : List Pt) (t : Int) : Int × Int :=
  if checkP x ≠ 0 then (0, checkP x) else if nmsL x ≠ [] then (0, 90)
  else if (foldAll [] x t).2 ≠ 0 then (0, (foldAll [] x t).2) else if 1 < (foldAll [] x t).1.length then (0, 41) else (((foldAll [] x t).1.headD (numP 0 0)).n, 0)
theorem nmsS_nil (x : List Pt) : (nmsS x).length = 0 ↔ nmsL x = [] := by
  unfold nmsS
  constructor
  · intro h
    cases hl : nmsL x with
    | nil => rfl
    | cons a r =>
      rw [hl] at h
      have hm : ((a :: r).mergeSort fun a b => decide (a ≤ b)).length = r.length + 1 := by rw [List.length_mergeSort]; rfl
      cases hs : ((a :: r).mergeSort fun a b => decide (a ≤ b)) with
      | nil => rw [hs] at hm; cases hm
      | cons b q =>
        rw [hs] at h
        unfold compact compactUpTo at h
        rw [List.length_map] at h
        have h0 : 0 ∈ (List.range (b :: q).length).filter (keeps (b :: q).toArray) := List.mem_filter.2 ⟨List.mem_range.2 (by simp), keeps_lt_one _ 0 (by omega)⟩
        rw [List.eq_nil_of_length_eq_zero h] at h0
        cases h0
  · intro h
    rw [h, List.mergeSort_nil]
    rfl
theorem fold_pos {vs : List Vr} {x : List Pt} {t : Int} (h : (foldAll vs x t).2 = 0) : 1 ≤ (foldAll vs x t).1.length := by
  unfold foldAll at h ⊢
  by_cases h0 : (resolveP vs x t).2 = 0
  · rw [if_neg (fun h => h h0)] at h ⊢
    obtain ⟨e, r, he1, he2, hr, hr1, hx5, hvo⟩ := res_is h0
    show 1 ≤ (foldP (resolveP vs x t).1).length
    rw [hr1, foldP_flat hr.wel]
    exact flat_pos _
  · rw [if_pos h0] at h
    exact absurd h h0
theorem map_one {o : List Pv} {q : Pt} (h : o.map ptV = [q]) : ∃ y, o = [y] ∧ ptV y = q := by
  match o, h with
  | [y], h => exact ⟨y, rfl, by simpa using h⟩
set_option maxRecDepth 100000 in
set_option maxHeartbeats 1600000 in
theorem value_any (v : Value) (x : List Pv) (t : Int) (w : World) (hX : PLst w v x) (hxl : x.length ≤ 4398046510976) (hs : StrOk x) (hg : Glo w) :
    Calls Tryz.prog 16 #[v, .int .i64 t] w fun e w' => e = .returned (.tuple #[.int .i64 (valQ (x.map ptV) t).1, .int .i64 (valQ (x.map ptV) t).2]) ∧ Below w.heap.size w w' := by
  have m1 := names_any v x w hX hxl hg
  have m2 : Hid (∀ W, Below w.heap.size w W → Calls Tryz.prog 11 #[.slice none 0 0, v, .int .i64 t] W (FoldOut [] (x.map ptV) t W)) := fun W hb =>
    fold_any (.slice none 0 0) v [] x t W ⟨none, 0, 0, 0, rfl, fun h => absurd h (Nat.lt_irrefl 0), fun i x hx => by cases hx⟩ (by decide) (fun a n cp h => by injection h with _ h1 h2; omega) (hX.below hb (Nat.le_refl _)) hxl hs (hg.below hb hg.lt)
  unfold FoldOut at m2
  unfold NamesOut at m1
  have HV : Hid (valQ (x.map ptV) t = if checkP (x.map ptV) ≠ 0 then (0, checkP (x.map ptV)) else if nmsL (x.map ptV) ≠ [] then (0, 90) else if (foldAll [] (x.map ptV) t).2 ≠ 0 then (0, (foldAll [] (x.map ptV) t).2) else if 1 < (foldAll [] (x.map ptV) t).1.length then (0, 41) else (((foldAll [] (x.map ptV) t).1.headD (numP 0 0)).n, 0)) := rfl
  have HN := hide (nmsS_nil (x.map ptV))
  have HP := hide (fold_pos (vs := []) (x := x.map ptV) (t := t))
  generalize valQ (x.map ptV) t = V at *
  generalize foldAll [] (x.map ptV) t = FA at *
  generalize nmsS (x.map ptV) = NS at *
  generalize nmsL (x.map ptV) = NL at *
  generalize checkP (x.map ptV) = C at *
  obtain ⟨FA1, FA2⟩ := FA
  obtain ⟨a, b, off, cap, rfl, -⟩ := hX
  dsimp only at m2 HP
  generalize x.length = XL at *
  by_cases hc : C = 0
  · subst hc
    by_cases hn : NL = []
    · have hn0 := HN.out.2 hn
      by_cases hf : FA2 = 0
      · subst hf
        have hpos := HP.out rfl
        by_cases hl : 1 < FA1.length
        · have HVV : Hid (V = (0, 41)) := by show _ = _; rw [HV.out, if_neg (fun h => h rfl), if_neg (fun h => h hn), if_neg (fun h => h rfl), if_pos hl]
          clear HV HN HP hn hs hg hxl
          go_enter Tryz.func16, Tryz.ntmps16
          go_wp2_with (first | (go_at_call 22; refine m1.mono ?_; rintro e w1 ⟨h1 | ⟨_, nv, rfl, hown⟩, hb1⟩; exact absurd rfl h1.1; (obtain ⟨na, nc, rfl, _⟩ := own_form3 hown); rw [hn0]) | (go_at_call 11; refine (m2.out _ hb1).mono ?_; rintro e w2 ⟨⟨v2, o, rfl, ho, hP2⟩, hb2⟩; obtain ⟨pa, pb, poff, pcap, rfl, -⟩ := hP2; have hlo : (1 : Int) < (o.length : Int) := (by rw [← ho, List.length_map] at hl; omega)))
          go_ret2
          exact ⟨by rw [HVV.out]; rfl, hb1.trans (hb2.mono hb1.size)⟩
        · obtain ⟨q, hq⟩ : ∃ q, FA1 = [q] := by
            match FA1, hpos, hl with
            | [q], _, _ => exact ⟨q, rfl⟩
            | _ :: _ :: _, _, hl => exact absurd (by simp) hl
          have HVV : Hid (V = (q.n, 0)) := by show _ = _; rw [HV.out, if_neg (fun h => h rfl), if_neg (fun h => h hn), if_neg (fun h => h rfl), if_neg hl, hq]; rfl
          subst hq
          clear HV HN HP hn hs hg hxl hl hpos
          go_enter Tryz.func16, Tryz.ntmps16
          go_wp2_with (first | (go_at_call 22; refine m1.mono ?_; rintro e w1 ⟨h1 | ⟨_, nv, rfl, hown⟩, hb1⟩; exact absurd rfl h1.1; (obtain ⟨na, nc, rfl, _⟩ := own_form3 hown); rw [hn0]) | (go_at_call 11; refine (m2.out _ hb1).mono ?_; rintro e w2 ⟨⟨v2, o, rfl, ho, hP2⟩, hb2⟩; obtain ⟨y, hy1, hy2⟩ := map_one ho; subst hy1; obtain ⟨pa, pb, poff, pcap, rfl, hpA, hpI⟩ := hP2; obtain ⟨-, rfl⟩ := hpA (Nat.zero_lt_succ _); obtain ⟨-, c1, -⟩ := hpI 0 y rfl; simp only [List.length_cons, List.length_nil]; simp only [Nat.zero_mul, Nat.add_zero] at c1))
          go_ret2
          exact ⟨by rw [HVV.out, ← hy2]; rfl, hb1.trans (hb2.mono hb1.size)⟩
      · have HVV : Hid (V = (0, FA2)) := by show _ = _; rw [HV.out, if_neg (fun h => h rfl), if_neg (fun h => h hn), if_pos hf]
        clear HV HN HP hn hs hg hxl
        go_enter Tryz.func16, Tryz.ntmps16
        go_wp2_with (first | (go_at_call 22; refine m1.mono ?_; rintro e w1 ⟨h1 | ⟨_, nv, rfl, hown⟩, hb1⟩; exact absurd rfl h1.1; (obtain ⟨na, nc, rfl, _⟩ := own_form3 hown); rw [hn0]) | (go_at_call 11; refine (m2.out _ hb1).mono ?_; rintro e w2 ⟨⟨v2, o, rfl, ho, hP2⟩, hb2⟩; obtain ⟨pa, pb, poff, pcap, rfl, -⟩ := hP2))
        go_ret2
        exact ⟨by rw [HVV.out]; rfl, hb1.trans (hb2.mono hb1.size)⟩
    · have HVV : Hid (V = (0, 90)) := by show _ = _; rw [HV.out, if_neg (fun h => h rfl), if_pos hn]
      have hn1 : (0 : Int) < (NS.length : Int) := by
        have : ¬ NS.length = 0 := fun h => hn (HN.out.1 h)
        omega
      clear HV HN HP hn hs hg hxl
      generalize hLN : NS.length = LN at *
      go_enter Tryz.func16, Tryz.ntmps16
      go_wp2_with (first | (go_at_call 22; refine m1.mono ?_; rintro e w1 ⟨h1 | ⟨_, nv, rfl, hown⟩, hb1⟩; exact absurd rfl h1.1; (obtain ⟨na, nc, rfl, _⟩ := own_form3 hown)))
      go_ret2
      exact ⟨by rw [HVV.out]; rfl, hb1⟩
  · have HVV : Hid (V = (0, C)) := by show _ = _; rw [HV.out, if_pos hc]
    clear HV HN HP hs hg hxl
    go_enter Tryz.func16, Tryz.ntmps16
    go_wp2_with (first | (go_at_call 22; refine m1.mono ?_; rintro e w1 ⟨⟨_, rfl⟩ | h1, hb1⟩; rotate_left; exact absurd h1.1 hc))
    go_ret2
    exact ⟨by rw [HVV.out]; rfl, hb1⟩
end Go.Proofs.YtldjiieckddhkaaGreatDoor
namespace Go.Proofs.YtldjiieckddhkaaGreatDoor
def opQ (k : Int) : Pt := ⟨5, [], [], k, 0⟩
theorem k3 {k : Kd} (h : kFits k 3 = 0) : k.typ = 0 ∨ k = kT 3 := by
  rcases kFits_inv h with ⟨_, h⟩ | ⟨h, _⟩
  · exact .inr h
  · exact .inl h
end Go.Proofs.YtldjiieckddhkaaGreatDoor
namespace Go.Proofs.YtldjiieckddhkaaGreatDoor
open Go.RowKit
def exV : List Vv := [⟨⟨#[78]⟩, 2, 0, 0, 0⟩, ⟨⟨#[68]⟩, 3, 0, 0, 0⟩]
def nmQ (k : Int) : Pv := ⟨1, k, 0, ⟨#[]⟩, ⟨#[]⟩⟩
def oqV (k : Int) : Pv := ⟨5, k, 0, ⟨#[]⟩, ⟨#[]⟩⟩
def exA : List Pv := [⟨2, 0, 0, ⟨#[78]⟩, ⟨#[]⟩⟩, nmQ 1, oqV 1]
def exB : List Pv := [nmQ 2, nmQ 3, oqV 3, ⟨6, 0, 3, ⟨#[]⟩, ⟨#[]⟩⟩, ⟨2, 0, 0, ⟨#[68]⟩, ⟨#[]⟩⟩, oqV 1]
def exC : List Pv := [nmQ 7, nmQ 0, oqV 4]
def exD : List Pv := [nmQ 1, nmQ 2, oqV 1, nmQ 4, oqV 11]
theorem exA_is : resolveP (exV.map vrV) (exA.map ptV) 2 = ([varP [78], numP 1 2, opQ 1], 0) := by kernel_rfl
theorem exB_is : foldAll (exV.map vrV) (exB.map ptV) 3 = ([numP 6 3, varP [68], opQ 1], 0) := by kernel_rfl
theorem exC_is : valQ (exC.map ptV) 2 = (0, 41) := by kernel_rfl
theorem exD_is : valQ (exD.map ptV) 1 = (1, 0) := by kernel_rfl
theorem ex_str : StrOk exA ∧ StrOk exB ∧ StrOk exC ∧ StrOk exD := by
  refine ⟨?_, ?_, ?_, ?_⟩ <;>
  · intro y hy
    simp only [exA, exB, exC, exD, List.mem_cons, List.not_mem_nil, or_false] at hy
    rcases hy with rfl | rfl | rfl | rfl | rfl | rfl <;> exact ⟨by decide, by decide⟩
theorem vlst_lit (w : World) : VLst (w.alloc (.cells #[.string ⟨#[78]⟩, .int .i64 2, .int .i64 0, .int .i64 0, .int .i64 0, .string ⟨#[68]⟩, .int .i64 3, .int .i64 0, .int .i64 0, .int .i64 0] 50)) (.slice (some ⟨w.heap.size, 0, none⟩) 2 2) exV := by
  refine ⟨_, w.heap.size, 0, 2, rfl, fun _ => ⟨by simp, rfl⟩, fun i x hx => ?_⟩
  have hb := heap_alloc_new w (.cells #[.string ⟨#[78]⟩, .int .i64 2, .int .i64 0, .int .i64 0, .int .i64 0, .string ⟨#[68]⟩, .int .i64 3, .int .i64 0, .int .i64 0, .int .i64 0] 50)
  have hi : i < 2 := (List.getElem?_eq_some_iff.1 hx).1
  obtain rfl | rfl : i = 0 ∨ i = 1 := by omega
  · obtain rfl := Option.some.inj hx
    refine ⟨?_, ?_, ?_, ?_, ?_⟩ <;> (rw [Lib.cell_of_heap hb]; rfl)
  · obtain rfl := Option.some.inj hx
    refine ⟨?_, ?_, ?_, ?_, ?_⟩ <;> (rw [Lib.cell_of_heap hb]; rfl)
theorem map_three {o : List Pv} {a b c : Pt} (h : o.map ptV = [a, b, c]) : ∃ x y z, o = [x, y, z] ∧ ptV x = a ∧ ptV y = b ∧ ptV z = c := by
  match o, h with
  | [x, y, z], h =>
    simp only [List.map_cons, List.map_nil, List.cons.injEq, and_true] at h
    exact ⟨x, y, z, rfl, h.1, h.2.1, h.2.2⟩
theorem num_pv {y : Pv} {n t : Int} (h : ptV y = numP n t) : y = ⟨1, n, t, ⟨#[]⟩, ⟨#[]⟩⟩ := by
  obtain ⟨k, m, u, s, f⟩ := y
  have h1 := congrArg Pt.kind h
  have h2 := congrArg Pt.n h
  have h3 := congrArg Pt.t h
  have h4 := congrArg Pt.s h
  have h5 := congrArg Pt.f h
  dsimp only [ptV, numP] at h1 h2 h3 h4 h5
  subst h1 h2 h3
  rw [of_list s [] h4, of_list f [] h5]
theorem part_cells {W : World} {v : Value} {x y z : Pv} (h : PLst W v [x, y, z]) : ∃ g o c, v = .slice (some ⟨g, o, none⟩) 3 c ∧ g < W.heap.size ∧ (W.cell? ⟨g, o, none⟩ = some (.int .i64 x.k) ∧ W.cell? ⟨g, o + 1, none⟩ = some (.int .i64 x.n) ∧ W.cell? ⟨g, o + 2, none⟩ = some (.int .i64 x.t) ∧ W.cell? ⟨g, o + 3, none⟩ = some (.string x.s) ∧ W.cell? ⟨g, o + 4, none⟩ = some (.string x.f)) ∧
    (W.cell? ⟨g, o + 5, none⟩ = some (.int .i64 y.k) ∧ W.cell? ⟨g, o + 5 + 1, none⟩ = some (.int .i64 y.n) ∧ W.cell? ⟨g, o + 5 + 2, none⟩ = some (.int .i64 y.t) ∧ W.cell? ⟨g, o + 5 + 3, none⟩ = some (.string y.s) ∧ W.cell? ⟨g, o + 5 + 4, none⟩ = some (.string y.f)) := by
  obtain ⟨a, b, off, cap, rfl, hA, hI⟩ := h
  obtain ⟨hb, rfl⟩ := hA (Nat.zero_lt_succ _)
  obtain ⟨h0, h1, h2, h3, h4⟩ := hI 0 x rfl
  obtain ⟨g0, g1, g2, g3, g4⟩ := hI 1 y rfl
  simp only [Nat.zero_mul, Nat.one_mul, Nat.add_zero] at h0 h1 h2 h3 h4 g0 g1 g2 g3 g4
  exact ⟨b, off, cap, rfl, hb, ⟨h0, h1, h2, h3, h4⟩, ⟨g0, g1, g2, g3, g4⟩⟩
set_option maxRecDepth 100000 in
set_option maxHeartbeats 6400000 in
theorem works_any (w : World) (hg : Glo w) : Calls Tryz.prog 15 #[] w fun e w' => e = .returned (.bool true) ∧ Below w.heap.size w w' := by
  obtain ⟨sA, sB, sC, sD⟩ := ex_str
  have mn := fun k W => n_any k W
  have mo := fun k W => op_any k W
  have hb0 : Below w.heap.size w (w.alloc (.cells #[.string ⟨#[78]⟩, .int .i64 2, .int .i64 0, .int .i64 0, .int .i64 0, .string ⟨#[68]⟩, .int .i64 3, .int .i64 0, .int .i64 0, .int .i64 0] 50)) := (Below.refl _ _).alloc (Nat.le_refl _) _
  have z0 : w.heap.size ≤ (w.alloc (.cells #[.string ⟨#[78]⟩, .int .i64 2, .int .i64 0, .int .i64 0, .int .i64 0, .string ⟨#[68]⟩, .int .i64 3, .int .i64 0, .int .i64 0, .int .i64 0] 50)).heap.size := by simp
  have hcap : CapOk (.slice (some ⟨w.heap.size, 0, none⟩) 2 2) := fun a n cp h => by injection h with _ h1 h2; omega
  have m1 : Hid (∀ W c, Below (w.alloc (.cells #[.string ⟨#[78]⟩, .int .i64 2, .int .i64 0, .int .i64 0, .int .i64 0, .string ⟨#[68]⟩, .int .i64 3, .int .i64 0, .int .i64 0, .int .i64 0] 50)).heap.size (w.alloc (.cells #[.string ⟨#[78]⟩, .int .i64 2, .int .i64 0, .int .i64 0, .int .i64 0, .string ⟨#[68]⟩, .int .i64 3, .int .i64 0, .int .i64 0, .int .i64 0] 50)) W → PLst W c exA → Calls Tryz.prog 9 #[.slice (some ⟨w.heap.size, 0, none⟩) 2 2, c, .int .i64 2] W fun e w' => (∃ g o c2, e = .returned (.tuple #[.slice (some ⟨g, o, none⟩) 3 c2, .int .i64 0]) ∧ Hid (g < w'.heap.size ∧ w'.cell? ⟨g, o + 5, none⟩ = some (.int .i64 1) ∧ w'.cell? ⟨g, o + 5 + 1, none⟩ = some (.int .i64 1) ∧ w'.cell? ⟨g, o + 5 + 2, none⟩ = some (.int .i64 2) ∧ w'.cell? ⟨g, o + 5 + 3, none⟩ = some (.string ⟨#[]⟩) ∧ w'.cell? ⟨g, o + 5 + 4, none⟩ = some (.string ⟨#[]⟩))) ∧ Below W.heap.size W w') := fun W c hb hP => by
    refine (resolve_any _ c exV exA 2 W ((vlst_lit w).below hb (Nat.le_refl _)) (by decide) hcap hP (by decide) sA (hg.below (hb0.trans (hb.mono z0)) hg.lt)).mono ?_
    unfold ResOut
    rw [exA_is]
    rintro e w' ⟨⟨v, o, rfl, ho, hL, -⟩, hb1⟩
    obtain ⟨x, y, z, rfl, -, hy, -⟩ := map_three ho
    obtain ⟨g, q, c2, rfl, hg2, -, hc⟩ := part_cells hL
    rw [num_pv hy] at hc
    exact ⟨⟨g, q, c2, rfl, hg2, hc⟩, hb1⟩
  have m2 : Hid (∀ W c, Below (w.alloc (.cells #[.string ⟨#[78]⟩, .int .i64 2, .int .i64 0, .int .i64 0, .int .i64 0, .string ⟨#[68]⟩, .int .i64 3, .int .i64 0, .int .i64 0, .int .i64 0] 50)).heap.size (w.alloc (.cells #[.string ⟨#[78]⟩, .int .i64 2, .int .i64 0, .int .i64 0, .int .i64 0, .string ⟨#[68]⟩, .int .i64 3, .int .i64 0, .int .i64 0, .int .i64 0] 50)) W → PLst W c exB → Calls Tryz.prog 11 #[.slice (some ⟨w.heap.size, 0, none⟩) 2 2, c, .int .i64 3] W fun e w' => (∃ g o c2, e = .returned (.tuple #[.slice (some ⟨g, o, none⟩) 3 c2, .int .i64 0]) ∧ Hid (g < w'.heap.size ∧ w'.cell? ⟨g, o, none⟩ = some (.int .i64 1) ∧ w'.cell? ⟨g, o + 1, none⟩ = some (.int .i64 6) ∧ w'.cell? ⟨g, o + 2, none⟩ = some (.int .i64 3) ∧ w'.cell? ⟨g, o + 3, none⟩ = some (.string ⟨#[]⟩) ∧ w'.cell? ⟨g, o + 4, none⟩ = some (.string ⟨#[]⟩))) ∧ Below W.heap.size W w') := fun W c hb hP => by
    refine (fold_any _ c exV exB 3 W ((vlst_lit w).below hb (Nat.le_refl _)) (by decide) hcap hP (by decide) sB (hg.below (hb0.trans (hb.mono z0)) hg.lt)).mono ?_
    unfold FoldOut
    rw [exB_is]
    rintro e w' ⟨⟨v, o, rfl, ho, hL⟩, hb1⟩
    obtain ⟨x, y, z, rfl, hx, -, -⟩ := map_three ho
    obtain ⟨g, q, c2, rfl, hg2, hc, -⟩ := part_cells hL
    rw [num_pv hx] at hc
    exact ⟨⟨g, q, c2, rfl, hg2, hc⟩, hb1⟩
  have m3 : Hid (∀ W c, Below (w.alloc (.cells #[.string ⟨#[78]⟩, .int .i64 2, .int .i64 0, .int .i64 0, .int .i64 0, .string ⟨#[68]⟩, .int .i64 3, .int .i64 0, .int .i64 0, .int .i64 0] 50)).heap.size (w.alloc (.cells #[.string ⟨#[78]⟩, .int .i64 2, .int .i64 0, .int .i64 0, .int .i64 0, .string ⟨#[68]⟩, .int .i64 3, .int .i64 0, .int .i64 0, .int .i64 0] 50)) W → PLst W c exC → Calls Tryz.prog 16 #[c, .int .i64 2] W fun e w' => e = .returned (.tuple #[.int .i64 0, .int .i64 41]) ∧ Below W.heap.size W w') := fun W c hb hP => by
    have := value_any c exC 2 W hP (by decide) sC (hg.below (hb0.trans (hb.mono z0)) hg.lt)
    rw [exC_is] at this
    exact this
  have m4 : Hid (∀ W c, Below (w.alloc (.cells #[.string ⟨#[78]⟩, .int .i64 2, .int .i64 0, .int .i64 0, .int .i64 0, .string ⟨#[68]⟩, .int .i64 3, .int .i64 0, .int .i64 0, .int .i64 0] 50)).heap.size (w.alloc (.cells #[.string ⟨#[78]⟩, .int .i64 2, .int .i64 0, .int .i64 0, .int .i64 0, .string ⟨#[68]⟩, .int .i64 3, .int .i64 0, .int .i64 0, .int .i64 0] 50)) W → PLst W c exD → Calls Tryz.prog 16 #[c, .int .i64 1] W fun e w' => e = .returned (.tuple #[.int .i64 1, .int .i64 0]) ∧ Below W.heap.size W w') := fun W c hb hP => by
    have := value_any c exD 1 W hP (by decide) sD (hg.below (hb0.trans (hb.mono z0)) hg.lt)
    rw [exD_is] at this
    exact this
  have HB0 := hide hb0
  have hbx : Below (w.alloc (.cells #[.string ⟨#[78]⟩, .int .i64 2, .int .i64 0, .int .i64 0, .int .i64 0, .string ⟨#[68]⟩, .int .i64 3, .int .i64 0, .int .i64 0, .int .i64 0] 50)).heap.size (w.alloc (.cells #[.string ⟨#[78]⟩, .int .i64 2, .int .i64 0, .int .i64 0, .int .i64 0, .string ⟨#[68]⟩, .int .i64 3, .int .i64 0, .int .i64 0, .int .i64 0] 50)) (w.alloc (.cells #[.string ⟨#[78]⟩, .int .i64 2, .int .i64 0, .int .i64 0, .int .i64 0, .string ⟨#[68]⟩, .int .i64 3, .int .i64 0, .int .i64 0, .int .i64 0] 50)) := Below.refl _ _
  clear sA sB sC sD hcap hg hb0
  go_enter Tryz.func15, Tryz.ntmps15
  go_wp2_with (first | (go_at_call 16; have hAgain := hb16; clear hAgain; (show Calls Tryz.prog 16 #[_, .int .i64 1] _ _); refine (m4.out _ _ (hbx.alloc hbx.size _) (plst_block (o := exD) (rest := []) (heap_alloc_new _ _) rfl rfl)).mono ?_; rintro e w17 ⟨rfl, hb17⟩; replace hbx := (hbx.alloc hbx.size _).trans (hb17.mono (hbx.alloc hbx.size _).size); replace hby := (hby.alloc hby.size _).trans (hb17.mono (hby.alloc hby.size _).size); replace hbz := (hbz.alloc hbz.size _).trans (hb17.mono (hbz.alloc hbz.size _).size); obtain ⟨i0, i1, i2, i3, i4, i5⟩ := H9.out; obtain ⟨j0, j1, j2, j3, j4, j5⟩ := H11.out; replace i1 := (hby.cell i0).trans i1; replace j1 := (hbz.cell j0).trans j1; replace i2 := (hby.cell i0).trans i2; replace j2 := (hbz.cell j0).trans j2; replace i3 := (hby.cell i0).trans i3; replace j3 := (hbz.cell j0).trans j3; replace i4 := (hby.cell i0).trans i4; replace j4 := (hbz.cell j0).trans j4; replace i5 := (hby.cell i0).trans i5; replace j5 := (hbz.cell j0).trans j5; replace HB0 := hide (HB0.out.trans (hbx.mono z0)); clear m1 m2 m3 m4 mn mo hby hbz hbx H9 H11 i0 j0) | (go_at_call 29; refine (mn _ _).mono ?_; rintro e wn ⟨rfl, hbn⟩; (first | (replace hbz := hbz.trans (hbn.mono hbz.size)) | skip); (first | (replace hby := hby.trans (hbn.mono hby.size)) | skip); replace hbx := hbx.trans (hbn.mono hbx.size)) | (go_at_call 20; refine (mo _ _).mono ?_; rintro e wo ⟨rfl, hbo⟩; (first | (replace hbz := hbz.trans (hbo.mono hbz.size)) | skip); (first | (replace hby := hby.trans (hbo.mono hby.size)) | skip); replace hbx := hbx.trans (hbo.mono hbx.size)) | (go_at_call 9; refine (m1.out _ _ (hbx.alloc hbx.size _) (plst_block (o := exA) (rest := []) (heap_alloc_new _ _) rfl rfl)).mono ?_; rintro e w9 ⟨⟨g9, o9, c9, rfl, H9⟩, hb9⟩; replace hbx := (hbx.alloc hbx.size _).trans (hb9.mono (hbx.alloc hbx.size _).size); have hby := Below.refl w9.heap.size w9) | (go_at_call 11; refine (m2.out _ _ (hbx.alloc hbx.size _) (plst_block (o := exB) (rest := []) (heap_alloc_new _ _) rfl rfl)).mono ?_; rintro e w11 ⟨⟨g11, o11, c11, rfl, H11⟩, hb11⟩; replace hbx := (hbx.alloc hbx.size _).trans (hb11.mono (hbx.alloc hbx.size _).size); replace hby := (hby.alloc hby.size _).trans (hb11.mono (hby.alloc hby.size _).size); have hbz := Below.refl w11.heap.size w11) | (go_at_call 16; (show Calls Tryz.prog 16 #[_, .int .i64 2] _ _); refine (m3.out _ _ (hbx.alloc hbx.size _) (plst_block (o := exC) (rest := []) (heap_alloc_new _ _) rfl rfl)).mono ?_; rintro e w16 ⟨rfl, hb16⟩; replace hbx := (hbx.alloc hbx.size _).trans (hb16.mono (hbx.alloc hbx.size _).size); replace hby := (hby.alloc hby.size _).trans (hb16.mono (hby.alloc hby.size _).size); replace hbz := (hbz.alloc hbz.size _).trans (hb16.mono (hbz.alloc hbz.size _).size)))
  go_ret
  exact ⟨rfl, HB0.out⟩
end Go.Proofs.YtldjiieckddhkaaGreatDoor
namespace Go.Proofs.YtldjiieckddhkaaGreatDoor
open Go.RowKit
set_option maxRecDepth 100000 in
set_option maxHeartbeats 3200000 in
theorem one_no (vx vy : Value) (x y : List Pv) (k : Int) (w : World) (hX : PLst w vx x) (hxl : x.length ≤ 4398046510976) (hsx : StrOk x) (hY : PLst w vy y) (hyl : y.length ≤ 4398046510976) (hsy : StrOk y) (hg : Glo w)
    (h : (valQ (x.map ptV) 3).2 ≠ 0 ∨ (valQ (y.map ptV) 3).2 ≠ 0) :
    Calls Tryz.prog 6 #[vx, vy, .int .i64 k] w fun e w' => e = .returned (.bool true) ∧ Below w.heap.size w w' := by
  have m0 := works_any w hg
  have mx : Hid (∀ W, Below w.heap.size w W → Calls Tryz.prog 16 #[vx, .int .i64 3] W fun e w' => e = .returned (.tuple #[.int .i64 (valQ (x.map ptV) 3).1, .int .i64 (valQ (x.map ptV) 3).2]) ∧ Below W.heap.size W w') := fun W hb => value_any vx x 3 W (hX.below hb (Nat.le_refl _)) hxl hsx (hg.below hb hg.lt)
  have my : Hid (∀ W, Below w.heap.size w W → Calls Tryz.prog 16 #[vy, .int .i64 3] W fun e w' => e = .returned (.tuple #[.int .i64 (valQ (y.map ptV) 3).1, .int .i64 (valQ (y.map ptV) 3).2]) ∧ Below W.heap.size W w') := fun W hb => value_any vy y 3 W (hY.below hb (Nat.le_refl _)) hyl hsy (hg.below hb hg.lt)
  generalize (valQ (x.map ptV) 3).1 = A at *
  generalize (valQ (x.map ptV) 3).2 = E at *
  generalize (valQ (y.map ptV) 3).1 = B at *
  generalize (valQ (y.map ptV) 3).2 = F at *
  clear hX hY hsx hsy hg hxl hyl
  by_cases hE : E = 0
  · have hF : ¬ F = 0 := h.elim (fun h => absurd hE h) id
    subst hE
    clear h
    go_enter Tryz.func6, Tryz.ntmps6
    go_wp2_with (first | (go_at_call 15; refine m0.mono ?_; rintro e w0 ⟨rfl, hb0⟩) | (go_at_call 16; have hAgain := hbx; clear hAgain; refine (my.out _ (hb0.trans (hbx.mono hb0.size))).mono ?_; rintro e wy ⟨rfl, hby⟩) | (go_at_call 16; refine (mx.out _ hb0).mono ?_; rintro e wx ⟨rfl, hbx⟩))
    go_ret
    exact ⟨rfl, (hb0.trans (hbx.mono hb0.size)).trans (hby.mono (hb0.trans (hbx.mono hb0.size)).size)⟩
  · clear h
    go_enter Tryz.func6, Tryz.ntmps6
    go_wp2_with (first | (go_at_call 15; refine m0.mono ?_; rintro e w0 ⟨rfl, hb0⟩) | (go_at_call 16; have hAgain := hbx; clear hAgain; refine (my.out _ (hb0.trans (hbx.mono hb0.size))).mono ?_; rintro e wy ⟨rfl, hby⟩) | (go_at_call 16; refine (mx.out _ hb0).mono ?_; rintro e wx ⟨rfl, hbx⟩))
    go_ret
    exact ⟨rfl, (hb0.trans (hbx.mono hb0.size)).trans (hby.mono (hb0.trans (hbx.mono hb0.size)).size)⟩
end Go.Proofs.YtldjiieckddhkaaGreatDoor
namespace Go.Proofs.YtldjiieckddhkaaGreatDoor
open Go.RowKit Go.Sort
end Go.Proofs.YtldjiieckddhkaaGreatDoor
namespace Go.Proofs.YtldjiieckddhkaaGreatDoor
open Go.RowKit Go.Sort
end Go.Proofs.YtldjiieckddhkaaGreatDoor
namespace Go.Proofs.YtldjiieckddhkaaGreatDoor
open Go.RowKit Go.Sort
end Go.Proofs.YtldjiieckddhkaaGreatDoor
namespace Go.Proofs.YtldjiieckddhkaaGreatDoor
open Go.ChangeShapes Go.WideShapes Go.ChangeAt Go.RowKit
theorem laidOut : laidOutB Tryz.prog = true := by kernel_rfl
theorem five {α : Type} {l : List α} (h : l.length = 5) : ∃ a b c d e, l = [a, b, c, d, e] := by
  match l, h with
  | [a, b, c, d, e], _ => exact ⟨a, b, c, d, e, rfl⟩
theorem wf_int {n : Int} (hw : (Lit.int .i64 n).wf = true) : -9223372036854775808 ≤ n ∧ n ≤ 9223372036854775807 := by
  have h : (decide (IntKind.i64.min ≤ n) && decide (n ≤ IntKind.i64.max)) = true := hw
  rw [Bool.and_eq_true] at h
  exact ⟨of_decide_eq_true h.1, of_decide_eq_true h.2⟩
def OkP (l : List Pv) : Prop := l.length * 56 ≤ 140737488351232 ∧ ∀ x ∈ l, x.s.size ≤ 140737488351232 ∧ x.f.size ≤ 140737488351232 ∧ (-9223372036854775808 ≤ x.n ∧ x.n ≤ 9223372036854775807)
theorem cells46 : Tryz.prog.cellsOf 38 = 5 := by kernel_rfl
theorem bytes46 : Tryz.prog.bytesOf 38 = 56 := by kernel_rfl
def pvD {H : Type} (y : Pv) : DataW H := .agg [.lit (.int .i64 y.k), .lit (.int .i64 y.n), .lit (.int .i64 y.t), .lit (.string y.s.data.toList), .lit (.string y.f.data.toList)]
theorem open_parts {H : Type} {enc : TypeId × Value → H} {W : World} {fuel len cap : Nat} {a : Option Addr} {x : DataW H × List MemPlace} {cs : List Value} (h : DataW.trod enc Tryz.prog W 0 (fun _ => true) true fuel 23 cs = some x) (hcs0 : cs = [.slice a len cap]) :
    ∃ l : List Pv, l.length = len ∧ len ≤ cap ∧ PLst W (.slice a len cap) l ∧ (∀ y ∈ l, -9223372036854775808 ≤ y.n ∧ y.n ≤ 9223372036854775807) ∧ ((x.1 = .nil ∧ len = 0) ∨ ∃ el sp, x.1 = .slice el sp ∧ el = l.map pvD) := by
  subst hcs0
  rcases Deep.open_slice Tryz.underlying23 h with ⟨hcs, rfl⟩ | ⟨a', len', cap', m, n, D, Pl, hcs, hb, hl, hm, hmm, rfl, hx⟩
  · simp at hcs
    obtain ⟨rfl, rfl, rfl⟩ := hcs
    exact ⟨[], rfl, Nat.le_refl _, ⟨none, 0, 0, 0, rfl, fun h => absurd h (Nat.lt_irrefl 0), fun i x hx => (by cases hx)⟩, fun y hy => (by cases hy), .inl ⟨rfl, rfl⟩⟩
  · simp at hcs
    obtain ⟨rfl, rfl, rfl⟩ := hcs
    simp only [if_true] at hmm
    subst hmm
    rw [cells46] at hx
    have each : ∀ i, i < len → ∃ y : Pv, W.cell? (a'.add (i * 5)) = some (.int .i64 y.k) ∧ W.cell? (a'.add (i * 5 + 1)) = some (.int .i64 y.n) ∧ W.cell? (a'.add (i * 5 + 2)) = some (.int .i64 y.t) ∧ W.cell? (a'.add (i * 5 + 3)) = some (.string y.s) ∧ W.cell? (a'.add (i * 5 + 4)) = some (.string y.f) ∧ (-9223372036854775808 ≤ y.n ∧ y.n ≤ 9223372036854775807) ∧ D i = pvD y := fun i hi => by
      obtain ⟨cs', h1, h2⟩ := hx i (by omega)
      obtain ⟨_, hlen, hcell⟩ := World.cells?_some h1
      obtain ⟨xs, k, hk, hxy, _, hxl, hf⟩ := DataW.trod_struct Tryz.underlying38 h2
      obtain ⟨v0, v1, v2, v3, v4, rfl⟩ := five hlen
      obtain ⟨y0, y1, y2, y3, y4, rfl⟩ := five hxl
      have g0 := hf 0 _ rfl
      have g1 := hf 1 _ rfl
      have g2 := hf 2 _ rfl
      have g3 := hf 3 _ rfl
      have g4 := hf 4 _ rfl
      have g0' : DataW.trod enc Tryz.prog W 0 (fun _ => true) true k 3 [v0] = some y0 := by simpa [cells3] using g0
      have g1' : DataW.trod enc Tryz.prog W 0 (fun _ => true) true k 2 [v1] = some y1 := by simpa [cells2] using g1
      have g2' : DataW.trod enc Tryz.prog W 0 (fun _ => true) true k 3 [v2] = some y2 := by simpa [cells3] using g2
      have g3' : DataW.trod enc Tryz.prog W 0 (fun _ => true) true k 9 [v3] = some y3 := by simpa [cells9] using g3
      have g4' : DataW.trod enc Tryz.prog W 0 (fun _ => true) true k 9 [v4] = some y4 := by simpa [cells9] using g4
      obtain ⟨z0, e0, E0, _⟩ := DataW.trod_int Tryz.underlying3 g0'
      obtain ⟨z1, e1, E1, hw⟩ := DataW.trod_int Tryz.underlying2 g1'
      obtain ⟨z2, e2, E2, _⟩ := DataW.trod_int Tryz.underlying3 g2'
      obtain ⟨s, e3, E3, _⟩ := DataW.trod_string Tryz.underlying9 g3'
      obtain ⟨f, e4, E4, _⟩ := DataW.trod_string Tryz.underlying9 g4'
      have d0 := hcell 0 (by omega)
      have d1 := hcell 1 (by omega)
      have d2 := hcell 2 (by omega)
      have d3 := hcell 3 (by omega)
      have d4 := hcell 4 (by omega)
      rw [Deep.add_add] at d0 d1 d2 d3 d4
      injection e0 with e0
      injection e1 with e1
      injection e2 with e2
      injection e3 with e3
      injection e4 with e4
      subst e0 e1 e2 e3 e4
      refine ⟨⟨z0, z1, z2, s, f⟩, d0, d1, d2, d3, d4, wf_int hw, ?_⟩
      have hd := congrArg Prod.fst hxy
      simp only [List.map_cons, List.map_nil] at hd
      rw [hd, E0, E1, E2, E3, E4]
      rfl
    obtain ⟨f, hf⟩ := @Deep.choose_lt Pv ⟨⟨0, 0, 0, ⟨#[]⟩, ⟨#[]⟩⟩⟩ _ _ each
    refine ⟨(List.range len).map f, by simp, hl, ?_, ?_, .inr ⟨_, _, rfl, ?_⟩⟩
    · by_cases hl0 : len = 0
      · subst hl0
        exact ⟨some a', 0, 0, m, rfl, fun h => absurd h (Nat.lt_irrefl 0), fun i x hx => by cases hx⟩
      · obtain ⟨b, off, spot⟩ := a'
        have hspot : spot = none := by simpa [Addr.add] using World.cell?_spot (hf 0 (by omega)).1
        subst hspot
        have hbW : b < W.heap.size := World.block_lt_of_cell? W _ (by have := (hf 0 (by omega)).1; rwa [Addr.add_mid] at this)
        refine ⟨some ⟨b, off, none⟩, b, off, m, by simp, fun _ => ⟨hbW, rfl⟩, fun i y hy => ?_⟩
        have hi : i < len := by have := (List.getElem?_eq_some_iff.1 hy).1; simpa using this
        have hfy : f i = y := by simpa [hi] using hy
        obtain ⟨q0, q1, q2, q3, q4, _⟩ := hf i hi
        rw [Addr.add_mid] at q0 q1 q2 q3 q4
        rw [hfy] at q0 q1 q2 q3 q4
        exact ⟨q0, by rw [Nat.add_assoc]; exact q1, by rw [Nat.add_assoc]; exact q2, by rw [Nat.add_assoc]; exact q3, by rw [Nat.add_assoc]; exact q4⟩
    · intro y hy
      obtain ⟨i, hi, rfl⟩ := List.mem_map.1 hy
      exact (hf i (List.mem_range.1 hi)).2.2.2.2.2.1
    · rw [List.map_map]
      exact List.map_congr_left fun i hi => (hf i (List.mem_range.1 hi)).2.2.2.2.2.2
theorem weights_all {H : Type} {P : Program} {e : TypeId} : ∀ {ds : List (DataW H)} {d : DataW H}, d ∈ ds → ∀ n ∈ d.weights P e, n ∈ DataW.weightsAll P e ds
  | c :: ds, d, hd, n, hn => by
    simp only [DataW.weightsAll, List.mem_append]
    rcases List.mem_cons.1 hd with rfl | hd
    · exact .inl hn
    · exact .inr (weights_all hd n hn)
set_option maxRecDepth 100000 in
theorem okP_of {H : Type} {ts : List TypeId} {ds : List (DataW H)} {j : Nat} {l : List Pv} {el sp : List (DataW H)} (hsz : (DataW.weightsEach Tryz.prog ts ds).all (· ≤ reachBytes) = true) (ht : ts[j]? = some 23) (hd : ds[j]? = some (.slice el sp)) (he : el = l.map pvD)
    (hn : ∀ y ∈ l, -9223372036854775808 ≤ y.n ∧ y.n ≤ 9223372036854775807) : OkP l := by
  have hr : reachBytes = 140737488351232 := by decide
  have key : ∀ x ∈ l, ∀ n ∈ (pvD (H := H) x).weights Tryz.prog 38, n ≤ 140737488351232 := fun x hx n hm => by
    have h := List.all_eq_true.1 hsz _ (DataW.weights_mem_each ht hd n (by
      simp only [DataW.weights, Tryz.underlying23, List.mem_cons, List.mem_append]
      exact .inr (.inl (weights_all (by rw [he]; exact List.mem_map_of_mem hx) _ hm))))
    rw [hr] at h
    exact of_decide_eq_true h
  refine ⟨?_, fun x hx => ⟨?_, ?_, hn x hx⟩⟩
  · have h := sized_slice hsz ht hd Tryz.underlying23
    rw [bytes46, he, List.length_map, hr] at h
    omega
  · have := key x hx x.s.data.toList.length (by
      simp only [pvD, DataW.weights, Tryz.underlying38]
      refine List.mem_append_right _ (List.mem_append_right _ (List.mem_append_right _ (List.mem_append_left _ ?_)))
      simp only [DataW.weights]
      exact List.mem_singleton.2 rfl)
    rw [Array.length_toList] at this
    exact this
  · have := key x hx x.f.data.toList.length (by
      simp only [pvD, DataW.weights, Tryz.underlying38]
      refine List.mem_append_right _ (List.mem_append_right _ (List.mem_append_right _ (List.mem_append_right _ (List.mem_append_left _ ?_))))
      simp only [DataW.weights]
      exact List.mem_singleton.2 rfl)
    rw [Array.length_toList] at this
    exact this
end Go.Proofs.YtldjiieckddhkaaGreatDoor
