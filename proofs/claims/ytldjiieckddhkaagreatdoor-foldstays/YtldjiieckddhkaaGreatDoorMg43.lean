/- The contract of expr.Names. | The contract of fold.Value. -/
import Derived.Test.YtldjiieckddhkaaGreatDoorCkW
import Derived.Test.YtldjiieckddhkaaGreatDoorMg33
import Derived.Test.YtldjiieckddhkaaGreatDoorMg42
import Derived.Sort.OwnSorted
import Derived.Sort.Grow
import Derived.Lib.OwnBridge
namespace Go.Proofs.YtldjiieckddhkaaGreatDoor
open Go.RowKit Go.Sort Go.Lib
theorem in9 : (Tryz.prog.info? 9).map (fun i => (i.zero, i.size, i.bytes)) = some (some (.string ⟨#[]⟩), 1, 16) := by kernel_rfl
/-- all the names, as they come -/
def nmsL (x : List Pt) : List Bs := (x.map (·.s)).filter fun s => !s.isEmpty
/-- each once, rising -/
def nmsS (x : List Pt) : List Bs := Lib.compact ((nmsL x).mergeSort fun a b => decide (a ≤ b))
theorem name_len {s : Bs} (h : nameB s = true) : s.length ≤ 24 := by
  unfold nameB at h
  rw [Bool.and_eq_true] at h
  have h2 := h.2
  unfold wordB at h2
  cases s with
  | nil => simp
  | cons c r =>
    simp only [Bool.and_eq_true, decide_eq_true_eq] at h2
    exact h2.1
theorem may_s {p : Pt} (h : mayP p = true) : p.s.length ≤ 24 := by
  have key : p.s = [] ∨ nameB p.s = true := by
    unfold mayP at h
    split at h
    · simp at h; exact .inl h.1
    · split at h
      · simp at h; exact .inr h.2.2.2
      · split at h
        · simp at h; exact .inr h.2.2.1
        · split at h
          · simp at h; exact .inl h.1
          · split at h
            · simp at h; exact .inl h.1
            · cases h
  rcases key with h | h
  · rw [h]; simp
  · exact name_len h
theorem nms_take (x : List Pt) (k : Nat) (p : Pt) (h : x[k]? = some p) : nmsL (x.take (k + 1)) = if p.s.isEmpty then nmsL (x.take k) else nmsL (x.take k) ++ [p.s] := by
  unfold nmsL
  rw [List.take_add_one, h, List.map_append, List.filter_append]
  show _ ++ [p.s].filter _ = _
  rw [List.filter_cons]
  cases p.s.isEmpty <;> simp
def NamesOut (base : Nat) (x : List Pt) (e : Ending) (w' : World) : Prop :=
  (checkP x ≠ 0 ∧ e = .returned (.tuple #[.slice none 0 0, .int .i64 (checkP x)])) ∨ (checkP x = 0 ∧ ∃ v, e = .returned (.tuple #[v, .int .i64 0]) ∧ w'.ownsRow base 9 1 v (nmsS x).length ((nmsS x).map encStr))
theorem check_parts {x : List Pt} (h : checkP x = 0) : x.length ≤ 500 ∧ ∀ p ∈ x, mayP p = true := by
  unfold checkP at h
  split at h
  · cases h
  · next h5 =>
    split at h
    · cases h
    · next ha =>
      refine ⟨by omega, fun p hp => ?_⟩
      have ha' : x.all mayP = true := by simpa using ha
      exact List.all_eq_true.1 ha' p hp
theorem one_str (w : World) (s : ByteArray) : ∀ j u, ([Value.string s])[j]? = some u → (w.alloc (.cells #[.string s] 9)).cell? ((⟨w.heap.size, 0, none⟩ : Addr).add j) = some u := fun j u hj => by
  match j, hj with
  | 0, hj => simp at hj; subst hj; simp [Addr.add]
set_option maxRecDepth 100000 in
set_option maxHeartbeats 3200000 in
theorem names_any (v : Value) (x : List Pv) (w : World) (hL : PLst w v x) (hlen : x.length ≤ 4398046510976) (hg : Glo w) : Calls Tryz.prog 22 #[v] w fun e w' => NamesOut w.heap.size (x.map ptV) e w' ∧ Below w.heap.size w w' := by
  have c0 := check_any v x w hL hlen hg
  have HL := hide hL
  obtain ⟨C, hC⟩ : ∃ C, C = checkP (x.map ptV) := ⟨_, rfl⟩
  rw [← hC] at c0
  obtain ⟨a, b, off, cap, rfl, hA, hI⟩ := hL
  by_cases h0 : C = 0
  · obtain ⟨hx5, hmay⟩ := check_parts (hC.symm.trans h0)
    rw [List.length_map] at hx5
    obtain ⟨i0, hi, hz0, hz1, hz2⟩ := info_parts in9
    have HA := hide hA
    have HI := hide hI
    have HM := hide hmay
    have HC0 : Hid (checkP (x.map ptV) = 0) := hC.symm.trans h0
    obtain ⟨N, hN⟩ : ∃ N, N = x.length := ⟨_, rfl⟩
    have HN := hide hN
    rw [← hN] at hx5 c0 ⊢
    have n5 : (N : Int) ≤ 500 := by omega
    subst h0
    clear hA hI hmay hN hC hlen hg HL
    go_enter Tryz.func22, Tryz.ntmps22
    go_wp2_with fail
    refine c0.mono ?_
    rintro e w0 ⟨rfl, hb0⟩
    have B0 := hide hb0
    clear c0 hb0
    go_wp2_with fail
    go_loopw [5, 15] (fun nv i wr => ∃ (k : Nat) (nv' : Value), k ≤ N ∧ i = .int .i64 (k : Int) ∧ nv' = nv ∧ Hid (wr.ownsRow w.heap.size 9 1 nv' (nmsL ((x.map ptV).take k)).length ((nmsL ((x.map ptV).take k)).map encStr) ∧ (nmsL ((x.map ptV).take k)).length ≤ k ∧ Below w.heap.size w wr)) (fun _ i _ => N - (intOf i).toNat)
    case atStart => exact ⟨0, .slice none 0 0, by omega, rfl, rfl, World.ownsRow_nil _ _ _ _, Nat.le_refl _, B0.out⟩
    case round =>
      clear B0
      obtain ⟨k, nv, hk, rfl, rfl, hh⟩ := hrel
      have O := hide hh.out.1
      have hnl := hh.out.2.1
      have HB := hide hh.out.2.2
      clear hh
      by_cases hlt : k < N
      · have j1 : (k : Int) < (N : Int) := by omega
        have j0 : (0 : Int) ≤ (k : Int) := by omega
        obtain ⟨y, hy⟩ : ∃ y, x[k]? = some y := ⟨_, List.getElem?_eq_getElem (by rw [← HN.out]; exact hlt)⟩
        have hy' : (x.map ptV)[k]? = some (ptV y) := by rw [List.getElem?_map, hy]; rfl
        have HTK := hide (nms_take _ k _ hy')
        have hsl := may_s (HM.out _ (List.mem_of_getElem? hy'))
        obtain ⟨hbw, rfl⟩ := HA.out (by rw [← HN.out]; omega)
        obtain ⟨q0, q1, q2, q3, q4⟩ := HI.out k y hy
        have c0 := (HB.out.cell (p := ⟨b, off + k * 5, none⟩) hbw).trans q0
        have c1 := (HB.out.cell (p := ⟨b, off + k * 5 + 1, none⟩) hbw).trans q1
        have c2 := (HB.out.cell (p := ⟨b, off + k * 5 + 2, none⟩) hbw).trans q2
        have c3 := (HB.out.cell (p := ⟨b, off + k * 5 + 3, none⟩) hbw).trans q3
        have c4 := (HB.out.cell (p := ⟨b, off + k * 5 + 4, none⟩) hbw).trans q4
        have hss : (ptV y).s = y.s.data.toList := rfl
        rw [hss] at HTK hsl
        have hsz : y.s.size ≤ 24 := by rw [← text_len]; exact hsl
        have zr := HB.out.size
        have b1 := HB.out.alloc zr (.cells #[.int .i64 y.k, .int .i64 y.n, .int .i64 y.t, .string y.s, .string y.f] 38)
        have o1 := own_on O.out ((Below.refl wr.heap.size wr).alloc (Nat.le_refl _) (.cells #[.int .i64 y.k, .int .i64 y.n, .int .i64 y.t, .string y.s, .string y.f] 38))
        have B1 := hide b1
        have O1 := hide o1
        have m1 := fun W => sclone_any y.s (by omega) W
        have hem : y.s.toList.isEmpty = y.s.data.toList.isEmpty := by rw [ByteArray.toList_eq]
        clear q0 q1 q2 q3 q4 hy hy' hss hsl b1 o1 O HB
        cases hq : y.s.data.toList.isEmpty with
        | true =>
          rw [hq] at hem HTK
          rw [if_pos rfl] at HTK
          clear hq m1
          go_wp2
          go_roundw
          case rel => exact ⟨k + 1, nv, by omega, by go_num, rfl, by rw [HTK.out]; exact O1.out, by rw [HTK.out]; omega, B1.out⟩
          case measure => simp [intOf]; omega
        | false =>
          rw [hq] at hem HTK
          rw [if_neg (by decide)] at HTK
          clear hq
          go_wp2_with fail
          refine (m1 _).mono ?_
          rintro e w2 ⟨rfl, hb2⟩
          have B2 := hide (B1.out.trans (hb2.mono B1.out.size))
          have O2 := hide (own_on O1.out hb2)
          have z2 := B2.out.size
          clear m1 hb2 c0 c1 c2 c3 c4 O1 B1
          go_wp2_with (at_builtin; go_must (refine wpList_append_own _ (by rfl) _ _ 44 (by rfl) w.heap.size 9 i0 (.string ⟨#[]⟩) 1 16 Tryz.underlying44 hi hz0 hz1 hz2 rfl (by decide) nv _ _ (by rfl) (O2.out.alloc _) ⟨w2.heap.size, 0, none⟩ 1 1 [.string y.s] (by rfl) (by rfl) (one_str w2 y.s) (by intro u hu; simp at hu; subst hu; rfl) (by unfold maxLen; omega) (by omega) (by rw [World.size_alloc]; omega) ?_; intro nv3 w3 hown3 hgrow3 _))
          have B3 := hide ((B2.out.alloc z2 _).grown hgrow3 (by rw [World.size_alloc]; omega) (fun r hr => (O2.out.lt r hr).1))
          have O3 : Hid (w3.ownsRow w.heap.size 9 1 nv3 (nmsL ((x.map ptV).take (k + 1))).length ((nmsL ((x.map ptV).take (k + 1))).map encStr)) := by
            show World.ownsRow _ _ _ _ _ _ _
            rw [HTK.out, List.length_append, List.map_append]
            rw [show [y.s.data.toList].map encStr = [.string y.s] from by show [Value.string ⟨y.s.data.toList.toArray⟩] = _; rw [text_back]]
            exact hown3
          clear hown3 hgrow3 O2 B2
          go_wp2
          go_roundw
          case rel => exact ⟨k + 1, nv3, by omega, by go_num, rfl, O3.out, by rw [HTK.out, List.length_append]; simp; omega, B3.out⟩
          case measure => simp [intOf]; omega
      · obtain rfl : k = N := by omega
        have htk : (x.map ptV).take k = x.map ptV := List.take_of_length_le (by rw [List.length_map, ← HN.out]; exact Nat.le_refl _)
        have ho := O.out
        rw [htk] at ho hnl
        clear htk O
        have HSS : Hid (nmsS (x.map ptV) = Lib.compact ((nmsL (x.map ptV)).mergeSort fun a b => decide (a ≤ b))) := rfl
        obtain ⟨ss, hss⟩ : ∃ ss, ss = nmsL (x.map ptV) := ⟨_, rfl⟩
        rw [← hss] at ho hnl HSS
        clear hss
        by_cases hnil : nv = .slice none 0 0
        · subst hnil
          have hs0 : ss = [] := by
            rcases ho.2 with ⟨_, h⟩ | ⟨_, _, _, h, _⟩
            · exact List.eq_nil_of_length_eq_zero h
            · cases h
          subst hs0
          have HS0 : Hid (nmsS (x.map ptV) = []) := by show _ = _; rw [HSS.out, List.mergeSort_nil]; rfl
          have d1 := fun W => Tryz.slices_Sort_string_none none 0 W
          have d2 := fun W => Tryz.slices_Compact_string_empty none 0 W
          clear ho hnl HSS
          go_wp2_with fail
          refine (d1 _).mono ?_
          rintro e w2 ⟨rfl, hw2⟩
          subst hw2
          go_wp2_with fail
          refine (d2 _).mono ?_
          rintro e w3 ⟨rfl, hw3⟩
          subst hw3
          clear d1 d2
          go_wp2
          go_ret2
          refine ⟨.inr ⟨HC0.out, .slice none 0 0, rfl, ?_⟩, HB.out⟩
          rw [HS0.out]
          exact World.ownsRow_nil _ _ _ _
        · obtain ⟨g, cap2, rfl, hbg, hgl, hncap, hcm, _, hH⟩ := Lib.holds_of_ownsRow ho hnil
          have d1 := Tryz.slices_Sort_string g 0 cap2 ss wr hH hgl (by omega)
          obtain ⟨ts, hts⟩ : ∃ ts, ts = ss.mergeSort fun a b => decide (a ≤ b) := ⟨_, rfl⟩
          have hl2 : ts.length = ss.length := by rw [hts]; exact List.length_mergeSort ss
          rw [← hts] at d1 HSS
          have HX := hide (And.intro ho (And.intro hbg (And.intro hgl (And.intro hncap hH))))
          obtain ⟨n, hn⟩ : ∃ n, n = ss.length := ⟨_, rfl⟩
          have HNN := hide hn
          rw [← hn] at d1 hl2 hnl hncap ⊢
          have HL2 := hide hl2
          clear ho hH hnil hts hn hl2 hbg hgl hcm
          go_wp2_with fail
          refine d1.mono ?_
          rintro e w2 ⟨rfl, nn, os, rfl⟩
          have hH2 : Holds encStr (grow (putRow encStr (Sort.ahead wr nn) g 0 ts.toArray) os) g 0 ts.toArray :=
            holds_grow encStr _ os g 0 _ (by simpa [putRow, mapBlock, Sort.ahead] using HX.out.2.2.1) (holds_putRow encStr _ g 0 _ _ (holds_ahead encStr wr nn g 0 _ HX.out.2.2.2.2) (by simp [HL2.out, HNN.out]))
          have d2 := Tryz.slices_Compact_string g 0 cap2 ts _ hH2 (by rw [HL2.out]; omega) (by rw [HL2.out]; exact hncap)
          rw [HL2.out] at d2
          clear d1 hH2
          obtain ⟨W2, hW2⟩ : ∃ W2, W2 = grow (putRow encStr (Sort.ahead wr nn) g 0 ts.toArray) os := ⟨_, rfl⟩
          rw [← hW2] at d2 ⊢
          have HW2 := hide hW2
          clear hW2
          go_wp2_with fail
          refine d2.mono ?_
          rintro e w3 ⟨rfl, q, hw3⟩
          have HW3 := hide hw3
          clear d2 hw3
          go_wp2
          go_ret2
          have hle2 := Lib.compact_length_le ts
          rcases HX.out.1.2 with ⟨hx0, _⟩ | ⟨g', cap', cur, hv, hbase, hb, h1, h2, h3, h4⟩
          · cases hx0
          cases hv
          have hs := ownsRow_sorted (n := nn) (os := os) (ts := ts) (ss := ss) (by rw [HL2.out, HNN.out]) hbase hb h1 h2 h3
          have hc := Lib.ownsRow_putRow (q := q) (k := (Lib.compact ts).length) (ys := Lib.compact ts ++ List.replicate (n - (Lib.compact ts).length) []) hs (by rw [List.length_append, List.length_replicate, ← HNN.out]; have := HL2.out; omega) (by have := HL2.out; have := HNN.out; omega)
          rw [List.take_left] at hc
          refine ⟨.inr ⟨HC0.out, _, rfl, ?_⟩, ?_⟩
          · rw [HSS.out, HW3.out, HW2.out]
            exact hc
          · rw [HW3.out, HW2.out]
            exact Lib.below_putRow (HB.out.grown (grownBy_sorted _) HB.out.size (fun j hj => by cases hj; exact hbase)) hbase
  · have HE : Hid (checkP (x.map ptV) ≠ 0) := by show ¬ _; rw [← hC]; exact h0
    have HC := hide hC
    have h0' : (C == 0) = false := by rw [beq_eq_false_iff_ne]; exact h0
    clear hA hI hC hlen hg h0
    generalize x.length = N at *
    go_enter Tryz.func22, Tryz.ntmps22
    go_wp2_with fail
    refine c0.mono ?_
    rintro e w0 ⟨rfl, hb0⟩
    have B0 := hide hb0
    clear c0 hb0
    go_wp2
    go_ret2
    exact ⟨.inl ⟨HE.out, by rw [← HC.out]; rfl⟩, B0.out⟩
end Go.Proofs.YtldjiieckddhkaaGreatDoor
namespace Go.Proofs.YtldjiieckddhkaaGreatDoor
open Go.RowKit Go.Sort Go.Lib
/-- fold.Value -/
def valQ (x : List Pt) (t : Int) : Int × Int :=
  if checkP x ≠ 0 then (0, checkP x) else if nmsL x ≠ [] then (0, 90)
  else if (foldAll [] x t).2 ≠ 0 then (0, (foldAll [] x t).2) else if 1 < (foldAll [] x t).1.length then (0, 41) else (((foldAll [] x t).1.headD (numP 0 0)).n, 0)
theorem nmsS_nil (x : List Pt) : (nmsS x).length = 0 ↔ nmsL x = [] := by
  unfold nmsS
  constructor
  · intro h
    cases hl : nmsL x with
    | nil => rfl
    | cons a r =>
      rw [hl] at h
      have hm : ((a :: r).mergeSort fun a b => decide (a ≤ b)).length = r.length + 1 := by rw [List.length_mergeSort]; rfl
      cases hs : ((a :: r).mergeSort fun a b => decide (a ≤ b)) with
      | nil => rw [hs] at hm; cases hm
      | cons b q =>
        rw [hs] at h
        unfold compact compactUpTo at h
        rw [List.length_map] at h
        have h0 : 0 ∈ (List.range (b :: q).length).filter (keeps (b :: q).toArray) := List.mem_filter.2 ⟨List.mem_range.2 (by simp), keeps_lt_one _ 0 (by omega)⟩
        rw [List.eq_nil_of_length_eq_zero h] at h0
        cases h0
  · intro h
    rw [h, List.mergeSort_nil]
    rfl
theorem fold_pos {vs : List Vr} {x : List Pt} {t : Int} (h : (foldAll vs x t).2 = 0) : 1 ≤ (foldAll vs x t).1.length := by
  unfold foldAll at h ⊢
  by_cases h0 : (resolveP vs x t).2 = 0
  · rw [if_neg (fun h => h h0)] at h ⊢
    obtain ⟨e, r, he1, he2, hr, hr1, hx5, hvo⟩ := res_is h0
    show 1 ≤ (foldP (resolveP vs x t).1).length
    rw [hr1, foldP_flat hr.wel]
    exact flat_pos _
  · rw [if_pos h0] at h
    exact absurd h h0
theorem map_one {o : List Pv} {q : Pt} (h : o.map ptV = [q]) : ∃ y, o = [y] ∧ ptV y = q := by
  match o, h with
  | [y], h => exact ⟨y, rfl, by simpa using h⟩
set_option maxRecDepth 100000 in
set_option maxHeartbeats 1600000 in
theorem value_any (v : Value) (x : List Pv) (t : Int) (w : World) (hX : PLst w v x) (hxl : x.length ≤ 4398046510976) (hs : StrOk x) (hg : Glo w) :
    Calls Tryz.prog 16 #[v, .int .i64 t] w fun e w' => e = .returned (.tuple #[.int .i64 (valQ (x.map ptV) t).1, .int .i64 (valQ (x.map ptV) t).2]) ∧ Below w.heap.size w w' := by
  have m1 := names_any v x w hX hxl hg
  have m2 : Hid (∀ W, Below w.heap.size w W → Calls Tryz.prog 11 #[.slice none 0 0, v, .int .i64 t] W (FoldOut [] (x.map ptV) t W)) := fun W hb =>
    fold_any (.slice none 0 0) v [] x t W ⟨none, 0, 0, 0, rfl, fun h => absurd h (Nat.lt_irrefl 0), fun i x hx => by cases hx⟩ (by decide) (fun a n cp h => by injection h with _ h1 h2; omega) (hX.below hb (Nat.le_refl _)) hxl hs (hg.below hb hg.lt)
  unfold FoldOut at m2
  unfold NamesOut at m1
  have HV : Hid (valQ (x.map ptV) t = if checkP (x.map ptV) ≠ 0 then (0, checkP (x.map ptV)) else if nmsL (x.map ptV) ≠ [] then (0, 90) else if (foldAll [] (x.map ptV) t).2 ≠ 0 then (0, (foldAll [] (x.map ptV) t).2) else if 1 < (foldAll [] (x.map ptV) t).1.length then (0, 41) else (((foldAll [] (x.map ptV) t).1.headD (numP 0 0)).n, 0)) := rfl
  have HN := hide (nmsS_nil (x.map ptV))
  have HP := hide (fold_pos (vs := []) (x := x.map ptV) (t := t))
  generalize valQ (x.map ptV) t = V at *
  generalize foldAll [] (x.map ptV) t = FA at *
  generalize nmsS (x.map ptV) = NS at *
  generalize nmsL (x.map ptV) = NL at *
  generalize checkP (x.map ptV) = C at *
  obtain ⟨FA1, FA2⟩ := FA
  obtain ⟨a, b, off, cap, rfl, -⟩ := hX
  dsimp only at m2 HP
  generalize x.length = XL at *
  by_cases hc : C = 0
  · subst hc
    by_cases hn : NL = []
    · have hn0 := HN.out.2 hn
      by_cases hf : FA2 = 0
      · subst hf
        have hpos := HP.out rfl
        by_cases hl : 1 < FA1.length
        · have HVV : Hid (V = (0, 41)) := by show _ = _; rw [HV.out, if_neg (fun h => h rfl), if_neg (fun h => h hn), if_neg (fun h => h rfl), if_pos hl]
          clear HV HN HP hn hs hg hxl
          go_enter Tryz.func16, Tryz.ntmps16
          go_wp2_with (first | (go_at_call 22; refine m1.mono ?_; rintro e w1 ⟨h1 | ⟨_, nv, rfl, hown⟩, hb1⟩; exact absurd rfl h1.1; (obtain ⟨na, nc, rfl, _⟩ := own_form3 hown); rw [hn0]) | (go_at_call 11; refine (m2.out _ hb1).mono ?_; rintro e w2 ⟨⟨v2, o, rfl, ho, hP2⟩, hb2⟩; obtain ⟨pa, pb, poff, pcap, rfl, -⟩ := hP2; have hlo : (1 : Int) < (o.length : Int) := (by rw [← ho, List.length_map] at hl; omega)))
          go_ret2
          exact ⟨by rw [HVV.out]; rfl, hb1.trans (hb2.mono hb1.size)⟩
        · obtain ⟨q, hq⟩ : ∃ q, FA1 = [q] := by
            match FA1, hpos, hl with
            | [q], _, _ => exact ⟨q, rfl⟩
            | _ :: _ :: _, _, hl => exact absurd (by simp) hl
          have HVV : Hid (V = (q.n, 0)) := by show _ = _; rw [HV.out, if_neg (fun h => h rfl), if_neg (fun h => h hn), if_neg (fun h => h rfl), if_neg hl, hq]; rfl
          subst hq
          clear HV HN HP hn hs hg hxl hl hpos
          go_enter Tryz.func16, Tryz.ntmps16
          go_wp2_with (first | (go_at_call 22; refine m1.mono ?_; rintro e w1 ⟨h1 | ⟨_, nv, rfl, hown⟩, hb1⟩; exact absurd rfl h1.1; (obtain ⟨na, nc, rfl, _⟩ := own_form3 hown); rw [hn0]) | (go_at_call 11; refine (m2.out _ hb1).mono ?_; rintro e w2 ⟨⟨v2, o, rfl, ho, hP2⟩, hb2⟩; obtain ⟨y, hy1, hy2⟩ := map_one ho; subst hy1; obtain ⟨pa, pb, poff, pcap, rfl, hpA, hpI⟩ := hP2; obtain ⟨-, rfl⟩ := hpA (Nat.zero_lt_succ _); obtain ⟨-, c1, -⟩ := hpI 0 y rfl; simp only [List.length_cons, List.length_nil]; simp only [Nat.zero_mul, Nat.add_zero] at c1))
          go_ret2
          exact ⟨by rw [HVV.out, ← hy2]; rfl, hb1.trans (hb2.mono hb1.size)⟩
      · have HVV : Hid (V = (0, FA2)) := by show _ = _; rw [HV.out, if_neg (fun h => h rfl), if_neg (fun h => h hn), if_pos hf]
        clear HV HN HP hn hs hg hxl
        go_enter Tryz.func16, Tryz.ntmps16
        go_wp2_with (first | (go_at_call 22; refine m1.mono ?_; rintro e w1 ⟨h1 | ⟨_, nv, rfl, hown⟩, hb1⟩; exact absurd rfl h1.1; (obtain ⟨na, nc, rfl, _⟩ := own_form3 hown); rw [hn0]) | (go_at_call 11; refine (m2.out _ hb1).mono ?_; rintro e w2 ⟨⟨v2, o, rfl, ho, hP2⟩, hb2⟩; obtain ⟨pa, pb, poff, pcap, rfl, -⟩ := hP2))
        go_ret2
        exact ⟨by rw [HVV.out]; rfl, hb1.trans (hb2.mono hb1.size)⟩
    · have HVV : Hid (V = (0, 90)) := by show _ = _; rw [HV.out, if_neg (fun h => h rfl), if_pos hn]
      have hn1 : (0 : Int) < (NS.length : Int) := by
        have : ¬ NS.length = 0 := fun h => hn (HN.out.1 h)
        omega
      clear HV HN HP hn hs hg hxl
      generalize hLN : NS.length = LN at *
      go_enter Tryz.func16, Tryz.ntmps16
      go_wp2_with (first | (go_at_call 22; refine m1.mono ?_; rintro e w1 ⟨h1 | ⟨_, nv, rfl, hown⟩, hb1⟩; exact absurd rfl h1.1; (obtain ⟨na, nc, rfl, _⟩ := own_form3 hown)))
      go_ret2
      exact ⟨by rw [HVV.out]; rfl, hb1⟩
  · have HVV : Hid (V = (0, C)) := by show _ = _; rw [HV.out, if_pos hc]
    clear HV HN HP hs hg hxl
    go_enter Tryz.func16, Tryz.ntmps16
    go_wp2_with (first | (go_at_call 22; refine m1.mono ?_; rintro e w1 ⟨⟨_, rfl⟩ | h1, hb1⟩; rotate_left; exact absurd h1.1 hc))
    go_ret2
    exact ⟨by rw [HVV.out]; rfl, hb1⟩
end Go.Proofs.YtldjiieckddhkaaGreatDoor
