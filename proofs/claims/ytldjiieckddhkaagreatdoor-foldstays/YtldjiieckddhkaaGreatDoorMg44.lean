/- FoldOne, plain: two that are put together fold to what the operation makes of theirs. | The contract of the laws' works. | FoldOne: where one of the two has no value. -/
import Derived.Test.YtldjiieckddhkaaGreatDoorMg43
import Derived.BigQuiet
namespace Go.Proofs.YtldjiieckddhkaaGreatDoor
theorem val_one {x : List Pt} {a : Int} (h : valQ x 3 = (a, 0)) : ∃ e k, well e ∧ flat e = x ∧ nmsL x = [] ∧ evT (partK []) e = .ok k ∧ kFits k 3 = 0 ∧ foldE (endE [] e 3) = .leaf (numP a 3) ∧ fit6 3 a = true := by
  have hv : vOk [] := fun v hv => by cases hv
  unfold valQ at h
  split at h
  · rename_i hc; exact absurd (congrArg Prod.snd h) hc
  split at h
  · exact absurd (congrArg Prod.snd h) (show ¬ (90 : Int) = 0 by decide)
  rename_i hn
  split at h
  · rename_i hf; exact absurd (congrArg Prod.snd h) hf
  rename_i hf
  split at h
  · exact absurd (congrArg Prod.snd h) (show ¬ (41 : Int) = 0 by decide)
  rename_i hl
  have hn : nmsL x = [] := Classical.byContradiction hn
  have hf : (foldAll [] x 3).2 = 0 := Classical.byContradiction hf
  have hpos := fold_pos hf
  have ha := congrArg Prod.fst h
  unfold foldAll at hf hl hpos ha
  by_cases h0 : (resolveP [] x 3).2 = 0
  · rw [if_neg (fun h => h h0)] at hf hl hpos ha
    unfold resolveP at h0 hl hpos ha
    by_cases h1 : fitsP [] x 3 = 0
    · rw [if_neg (fun h => h h1)] at hl hpos ha
      obtain ⟨-, -, e, k, he1, he2, -, -, he5, he6⟩ := fits_tree h1
      obtain ⟨r1, r2⟩ := res_tree hv he1 he5 he6
      rw [he2] at r2
      have e3 : foldP (resP [] x 3) = flat (foldE (endE [] e 3)) := by rw [r2, foldP_flat r1.wel]
      have hl1 : (flat (foldE (endE [] e 3))).length = 1 := by
        rw [← e3]
        have h2 : ¬ 1 < (foldP (resP [] x 3)).length := hl
        have h3 : 1 ≤ (foldP (resP [] x 3)).length := hpos
        omega
      obtain ⟨q, hq⟩ := flat_one hl1
      have ft := fold_kind hv r1.wel r1.kind r1.typed
      rw [hq] at ft
      have hk1 : q.kind = 1 := by
        have hp : partK [] q [] = .ok (kT 3) := ft.kind
        have hm := ft.wel.2
        have ht := ft.wel.1
        have hr := may_kind hm
        unfold partK at hp
        by_cases k1 : q.kind = 1
        · exact k1
        · rw [if_neg k1] at hp
          by_cases k2 : q.kind = 2
          · rw [if_pos k2] at hp; cases hp
          · rw [if_neg k2] at hp
            by_cases k3 : q.kind = 3
            · rw [if_pos k3] at hp; cases hp
            · rw [if_neg k3] at hp
              by_cases k4 : q.kind = 4
              · rw [if_pos k4] at hp; cases hp
              · exfalso
                unfold takes at ht
                split at ht
                · cases ht
                · split at ht
                  · cases ht
                  · split at ht
                    · cases ht
                    · omega
      obtain ⟨e4, e5, e6, e7⟩ := leaf_num hk1 ft.kind ft.wel ft.typed
      have e8 : q.t = 3 := by have := congrArg Kd.typ e4; exact this.symm
      rw [e8] at e5 e7
      have ea : q.n = a := by
        have ha : ((foldP (resP [] x 3)).headD (numP 0 0)).n = a := ha
        rw [e3, hq] at ha
        exact ha
      rw [ea] at e5 e7
      exact ⟨e, k, he1, he2, hn, he5, he6, by rw [hq, e7], e5⟩
    · rw [if_pos h1] at h0
      exact absurd h0 h1
  · rw [if_pos h0] at hf
    exact absurd hf h0
theorem give_give (s t : Int) : ∀ e : Ex, giveT s (giveT t e) = giveT s e
  | .leaf p => by
    show Ex.leaf (give1 s (give1 t p)) = .leaf (give1 s p)
    congr 1
    unfold give1
    by_cases h : p.kind = 1
    · rw [if_pos h, if_pos h, if_pos (show p.kind = 1 from h)]
    · rw [if_neg h, if_neg h]
  | .one p e => by show Ex.one p _ = Ex.one p _; rw [give_give s t e]
  | .two p a b => by show Ex.two p _ _ = Ex.two p _ _; rw [give_give s t a, give_give s t b]
/-- an operation, as a part -/
def opQ (k : Int) : Pt := ⟨5, [], [], k, 0⟩
theorem res_18 {k : Int} (h1 : 1 ≤ k) (h2 : k ≤ 8) : Four.resN k 3 = (3, 0) := by
  rw [res_dec ⟨h1, by omega⟩ (by omega)]
  rw [if_neg, if_neg (by omega)]
  simp
theorem k3 {k : Kd} (h : kFits k 3 = 0) : k.typ = 0 ∨ k = kT 3 := by
  rcases kFits_inv h with ⟨_, h⟩ | ⟨h, _⟩
  · exact .inr h
  · exact .inl h
theorem op_fits {k : Int} {l r : Kd} (h1 : 1 ≤ k) (h2 : k ≤ 8) (hl : kFits l 3 = 0) (hr : kFits r 3 = 0) : ∃ z, opK k l r = .ok z ∧ kFits z 3 = 0 ∧ ((l.typ = 0 ∧ r.typ = 0 ∧ z.typ = 0) ∨ (¬ (l.typ = 0 ∧ r.typ = 0) ∧ z.typ = 3)) := by
  by_cases hb : l.typ = 0 ∧ r.typ = 0
  · refine ⟨kWith l r, opK_bare hb.1 hb.2 (res_18 h1 h2), ?_, .inl ⟨hb.1, hb.2, rfl⟩⟩
    rcases kFits_inv hl with ⟨q, _⟩ | ⟨_, _, l1, l2⟩
    · exact absurd hb.1 q
    · rcases kFits_inv hr with ⟨q, _⟩ | ⟨_, _, r1, r2⟩
      · exact absurd hb.2 q
      · unfold kFits kWith
        rw [if_neg (fun h => h.1 rfl), if_neg (by simp), if_neg]
        have hmin : min l.lo r.lo = l.lo ∨ min l.lo r.lo = r.lo := by omega
        have hmax : max l.hi r.hi = l.hi ∨ max l.hi r.hi = r.hi := by omega
        rintro (h | h)
        · rcases hmin with e | e <;> rw [e] at h
          · rw [l1] at h; cases h
          · rw [r1] at h; cases h
        · rcases hmax with e | e <;> rw [e] at h
          · rw [l2] at h; cases h
          · rw [r2] at h; cases h
  · have ht : tyOr l (tyOr r 3) = 3 := by
      unfold tyOr
      rcases k3 hl with e | e
      · rw [if_pos e]
        rcases k3 hr with e2 | e2
        · exact absurd ⟨e, e2⟩ hb
        · rw [e2]; rfl
      · rw [e]; rfl
    refine ⟨kT 3, ?_, kFits_same (by decide), .inr ⟨hb, rfl⟩⟩
    unfold opK
    rw [ht, res_18 h1 h2, if_neg (by decide), if_neg (fun h => hb ⟨h.1, h.2.1⟩), hl, hr, if_neg (by decide), if_neg (by decide)]
theorem check_vals (x : List Pt) : checkP x = 0 ∨ checkP x = 2 ∨ checkP x = 60 := by
  unfold checkP
  repeat' split
  all_goals simp
theorem op_well {k : Int} (h1 : 1 ≤ k) (h2 : k ≤ 8) {a b : Ex} (ha : well a) (hb : well b) : well (.two (opQ k) a b) := by
  refine ⟨?_, ?_, ha, hb⟩
  · unfold takes opQ
    simp
    omega
  · unfold mayP opQ
    simp
    omega
/-- two, resolved for a DINT -/
theorem end_two {k : Int} (h1 : 1 ≤ k) (h2 : k ≤ 8) {a b : Ex} {kx ky : Kd} (ha : evT (partK []) a = .ok kx) (hb : evT (partK []) b = .ok ky) (fa : kFits kx 3 = 0) (fb : kFits ky 3 = 0) :
    endE [] (.two (opQ k) a b) 3 = .two (opQ k) (endE [] a 3) (endE [] b 3) := by
  obtain ⟨z, hz, hz1, hz2⟩ := op_fits h1 h2 fa fb
  have he : evT (partK []) (.two (opQ k) a b) = .ok z := by rw [ev2_mk ha hb]; exact hz
  unfold endE
  rw [kt_ok he, kt_ok ha, kt_ok hb, resE, kt_ok he, kt_ok ha, kt_ok hb]
  have hask : ∀ ps, askT (opQ k) [kx.typ, ky.typ] z.typ ps = if z.typ = 0 then 0 else if maxT [kx.typ, ky.typ] = 0 then 3 else maxT [kx.typ, ky.typ] := fun ps => rfl
  rw [hask, hask]
  rcases hz2 with ⟨e1, e2, e3⟩ | ⟨e1, e3⟩
  · unfold kid
    rw [if_pos e3, if_pos e1, if_pos e2, if_pos e3, if_pos e1, if_pos e2]
    show Ex.two (opQ k) (giveT 3 (giveT 0 _)) (giveT 3 (giveT 0 _)) = _
    rw [give_give, give_give]
  · have hm : maxT [kx.typ, ky.typ] = 3 := by
      show max kx.typ ky.typ = 3
      rcases k3 fa with e | e
      · rcases k3 fb with e' | e'
        · exact absurd ⟨e, e'⟩ e1
        · rw [e, e']; rfl
      · rcases k3 fb with e' | e'
        · rw [e, e']; rfl
        · rw [e, e']; rfl
    have hz0 : ¬ z.typ = 0 := by rw [e3]; decide
    unfold kid
    rw [if_neg hz0, if_neg hz0, hm, if_neg (show ¬ (3 : Int) = 0 by decide)]
theorem nms_app (x y : List Pt) : nmsL (x ++ y) = nmsL x ++ nmsL y := by unfold nmsL; rw [List.map_append, List.filter_append]
/-- two that are put together by an operation fold to what it makes of theirs -/
theorem val_two {x y : List Pt} {a b k : Int} (hx : valQ x 3 = (a, 0)) (hy : valQ y 3 = (b, 0)) (h1 : 1 ≤ k) (h2 : k ≤ 8) :
    fit6 3 a = true ∧ (((valQ (x ++ (y ++ [opQ k])) 3).1 = 0 ∧ (valQ (x ++ (y ++ [opQ k])) 3).2 ≠ 0 ∧ (valQ (x ++ (y ++ [opQ k])) 3).2 ≠ 41) ∨ valQ (x ++ (y ++ [opQ k])) 3 = Four.twoN k 3 a b) := by
  have hv : vOk [] := fun v hv => by cases hv
  obtain ⟨ex, kx, x1, x2, x3, x4, x5, x6, x7⟩ := val_one hx
  obtain ⟨ey, ky, y1, y2, y3, y4, y5, y6, y7⟩ := val_one hy
  refine ⟨x7, ?_⟩
  by_cases hc : checkP (x ++ (y ++ [opQ k])) = 0
  · right
    have hflat : flat (.two (opQ k) ex ey) = x ++ (y ++ [opQ k]) := by
      show flat ex ++ (flat ey ++ [opQ k]) = _
      rw [x2, y2]
    have hw := op_well h1 h2 x1 y1
    obtain ⟨z, hz, hz1, hz2⟩ := op_fits h1 h2 x5 y5
    have he : evT (partK []) (.two (opQ k) ex ey) = .ok z := by rw [ev2_mk x4 y4]; exact hz
    have hn : nmsL (x ++ (y ++ [opQ k])) = [] := by rw [nms_app, nms_app, x3, y3]; rfl
    have hfit : fitsP [] (x ++ (y ++ [opQ k])) 3 = 0 := by
      unfold fitsP askP
      rw [if_neg (show ¬ mayV [] ≠ 0 from fun h => h rfl), if_neg (fun h => h hc)]
      unfold kindP
      rw [← hflat, run_tree _ hw, he]
      show (match (if z.typ = 0 ∧ kFits z 3 ≠ 0 then (Except.error 1 : Except Int Kd) else Except.ok z) with | .error e => e | .ok k => kFits k 3) = 0
      rw [if_neg (fun h => h.2 hz1)]
      exact hz1
    obtain ⟨r1, r2⟩ := res_tree hv hw he hz1
    rw [hflat, end_two h1 h2 x4 y4 x5 y5] at r2
    rw [end_two h1 h2 x4 y4 x5 y5] at r1
    have hres : resolveP [] (x ++ (y ++ [opQ k])) 3 = (flat (.two (opQ k) (endE [] ex 3) (endE [] ey 3)), 0) := by
      unfold resolveP
      rw [if_neg (fun h => h hfit), r2]
    have hfold : foldAll [] (x ++ (y ++ [opQ k])) 3 = (flat (foldE (.two (opQ k) (endE [] ex 3) (endE [] ey 3))), 0) := by
      unfold foldAll
      rw [hres, if_neg (fun h => h rfl), foldP_flat r1.wel]
    have hfe : foldE (.two (opQ k) (endE [] ex 3) (endE [] ey 3)) = (match reckP (opQ k) [numP a 3, numP b 3] with
      | some q => .leaf q
      | none => .two (opQ k) (.leaf (numP a 3)) (.leaf (numP b 3))) := by
      rw [foldE, x6, y6]
      rfl
    have hre : reckP (opQ k) [numP a 3, numP b 3] = if (Four.twoN k 3 a b).2 = 0 then some (numP (Four.twoN k 3 a b).1 (Four.resN k 3).1) else none := rfl
    have hval : valQ (x ++ (y ++ [opQ k])) 3 = if 1 < (flat (foldE (.two (opQ k) (endE [] ex 3) (endE [] ey 3)))).length then (0, 41) else (((flat (foldE (.two (opQ k) (endE [] ex 3) (endE [] ey 3)))).headD (numP 0 0)).n, 0) := by
      unfold valQ
      rw [if_neg (fun h => h hc), if_neg (fun h => h hn), hfold, if_neg (fun h => h rfl)]
    rw [hval, hfe, hre]
    by_cases h0 : (Four.twoN k 3 a b).2 = 0
    · rw [if_pos h0]
      show ((Four.twoN k 3 a b).1, (0 : Int)) = _
      rw [← h0]
    · rw [if_neg h0]
      show ((0 : Int), (41 : Int)) = _
      have hh : Four.has2 k 3 = true := by
        have : k = 1 ∨ k = 2 ∨ k = 3 ∨ k = 4 ∨ k = 5 ∨ k = 6 ∨ k = 7 ∨ k = 8 := by omega
        rcases this with rfl | rfl | rfl | rfl | rfl | rfl | rfl | rfl <;> decide
      unfold Four.twoN at h0 ⊢
      rw [hh, if_neg (by decide), fit_same, fit_same, x7, y7, if_neg (by decide)] at h0 ⊢
      split
      · rfl
      · rename_i hq
        rw [if_neg hq] at h0
        exfalso
        apply h0
        split <;> rfl
  · left
    have hval : valQ (x ++ (y ++ [opQ k])) 3 = (0, checkP (x ++ (y ++ [opQ k]))) := by unfold valQ; rw [if_pos hc]
    rw [hval]
    refine ⟨rfl, hc, ?_⟩
    rcases check_vals (x ++ (y ++ [opQ k])) with e | e | e <;> rw [e] <;> decide
end Go.Proofs.YtldjiieckddhkaaGreatDoor
namespace Go.Proofs.YtldjiieckddhkaaGreatDoor
open Go.RowKit
def exV : List Vv := [⟨⟨#[78]⟩, 2, 0, 0, 0⟩, ⟨⟨#[68]⟩, 3, 0, 0, 0⟩]
def nmQ (k : Int) : Pv := ⟨1, k, 0, ⟨#[]⟩, ⟨#[]⟩⟩
def oqV (k : Int) : Pv := ⟨5, k, 0, ⟨#[]⟩, ⟨#[]⟩⟩
def exA : List Pv := [⟨2, 0, 0, ⟨#[78]⟩, ⟨#[]⟩⟩, nmQ 1, oqV 1]
def exB : List Pv := [nmQ 2, nmQ 3, oqV 3, ⟨6, 0, 3, ⟨#[]⟩, ⟨#[]⟩⟩, ⟨2, 0, 0, ⟨#[68]⟩, ⟨#[]⟩⟩, oqV 1]
def exC : List Pv := [nmQ 7, nmQ 0, oqV 4]
def exD : List Pv := [nmQ 1, nmQ 2, oqV 1, nmQ 4, oqV 11]
theorem exA_is : resolveP (exV.map vrV) (exA.map ptV) 2 = ([varP [78], numP 1 2, opQ 1], 0) := by kernel_rfl
theorem exB_is : foldAll (exV.map vrV) (exB.map ptV) 3 = ([numP 6 3, varP [68], opQ 1], 0) := by kernel_rfl
theorem exC_is : valQ (exC.map ptV) 2 = (0, 41) := by kernel_rfl
theorem exD_is : valQ (exD.map ptV) 1 = (1, 0) := by kernel_rfl
theorem ex_str : StrOk exA ∧ StrOk exB ∧ StrOk exC ∧ StrOk exD := by
  refine ⟨?_, ?_, ?_, ?_⟩ <;>
  · intro y hy
    simp only [exA, exB, exC, exD, List.mem_cons, List.not_mem_nil, or_false] at hy
    rcases hy with rfl | rfl | rfl | rfl | rfl | rfl <;> exact ⟨by decide, by decide⟩
theorem vlst_lit (w : World) : VLst (w.alloc (.cells #[.string ⟨#[78]⟩, .int .i64 2, .int .i64 0, .int .i64 0, .int .i64 0, .string ⟨#[68]⟩, .int .i64 3, .int .i64 0, .int .i64 0, .int .i64 0] 50)) (.slice (some ⟨w.heap.size, 0, none⟩) 2 2) exV := by
  refine ⟨_, w.heap.size, 0, 2, rfl, fun _ => ⟨by simp, rfl⟩, fun i x hx => ?_⟩
  have hb := heap_alloc_new w (.cells #[.string ⟨#[78]⟩, .int .i64 2, .int .i64 0, .int .i64 0, .int .i64 0, .string ⟨#[68]⟩, .int .i64 3, .int .i64 0, .int .i64 0, .int .i64 0] 50)
  have hi : i < 2 := (List.getElem?_eq_some_iff.1 hx).1
  obtain rfl | rfl : i = 0 ∨ i = 1 := by omega
  · obtain rfl := Option.some.inj hx
    refine ⟨?_, ?_, ?_, ?_, ?_⟩ <;> (rw [Lib.cell_of_heap hb]; rfl)
  · obtain rfl := Option.some.inj hx
    refine ⟨?_, ?_, ?_, ?_, ?_⟩ <;> (rw [Lib.cell_of_heap hb]; rfl)
theorem map_three {o : List Pv} {a b c : Pt} (h : o.map ptV = [a, b, c]) : ∃ x y z, o = [x, y, z] ∧ ptV x = a ∧ ptV y = b ∧ ptV z = c := by
  match o, h with
  | [x, y, z], h =>
    simp only [List.map_cons, List.map_nil, List.cons.injEq, and_true] at h
    exact ⟨x, y, z, rfl, h.1, h.2.1, h.2.2⟩
theorem num_pv {y : Pv} {n t : Int} (h : ptV y = numP n t) : y = ⟨1, n, t, ⟨#[]⟩, ⟨#[]⟩⟩ := by
  obtain ⟨k, m, u, s, f⟩ := y
  have h1 := congrArg Pt.kind h
  have h2 := congrArg Pt.n h
  have h3 := congrArg Pt.t h
  have h4 := congrArg Pt.s h
  have h5 := congrArg Pt.f h
  dsimp only [ptV, numP] at h1 h2 h3 h4 h5
  subst h1 h2 h3
  rw [of_list s [] h4, of_list f [] h5]
theorem part_cells {W : World} {v : Value} {x y z : Pv} (h : PLst W v [x, y, z]) : ∃ g o c, v = .slice (some ⟨g, o, none⟩) 3 c ∧ g < W.heap.size ∧ (W.cell? ⟨g, o, none⟩ = some (.int .i64 x.k) ∧ W.cell? ⟨g, o + 1, none⟩ = some (.int .i64 x.n) ∧ W.cell? ⟨g, o + 2, none⟩ = some (.int .i64 x.t) ∧ W.cell? ⟨g, o + 3, none⟩ = some (.string x.s) ∧ W.cell? ⟨g, o + 4, none⟩ = some (.string x.f)) ∧
    (W.cell? ⟨g, o + 5, none⟩ = some (.int .i64 y.k) ∧ W.cell? ⟨g, o + 5 + 1, none⟩ = some (.int .i64 y.n) ∧ W.cell? ⟨g, o + 5 + 2, none⟩ = some (.int .i64 y.t) ∧ W.cell? ⟨g, o + 5 + 3, none⟩ = some (.string y.s) ∧ W.cell? ⟨g, o + 5 + 4, none⟩ = some (.string y.f)) := by
  obtain ⟨a, b, off, cap, rfl, hA, hI⟩ := h
  obtain ⟨hb, rfl⟩ := hA (Nat.zero_lt_succ _)
  obtain ⟨h0, h1, h2, h3, h4⟩ := hI 0 x rfl
  obtain ⟨g0, g1, g2, g3, g4⟩ := hI 1 y rfl
  simp only [Nat.zero_mul, Nat.one_mul, Nat.add_zero] at h0 h1 h2 h3 h4 g0 g1 g2 g3 g4
  exact ⟨b, off, cap, rfl, hb, ⟨h0, h1, h2, h3, h4⟩, ⟨g0, g1, g2, g3, g4⟩⟩
set_option maxRecDepth 100000 in
set_option maxHeartbeats 6400000 in
theorem works_any (w : World) (hg : Glo w) : Calls Tryz.prog 15 #[] w fun e w' => e = .returned (.bool true) ∧ Below w.heap.size w w' := by
  obtain ⟨sA, sB, sC, sD⟩ := ex_str
  have mn := fun k W => n_any k W
  have mo := fun k W => op_any k W
  have hb0 : Below w.heap.size w (w.alloc (.cells #[.string ⟨#[78]⟩, .int .i64 2, .int .i64 0, .int .i64 0, .int .i64 0, .string ⟨#[68]⟩, .int .i64 3, .int .i64 0, .int .i64 0, .int .i64 0] 50)) := (Below.refl _ _).alloc (Nat.le_refl _) _
  have z0 : w.heap.size ≤ (w.alloc (.cells #[.string ⟨#[78]⟩, .int .i64 2, .int .i64 0, .int .i64 0, .int .i64 0, .string ⟨#[68]⟩, .int .i64 3, .int .i64 0, .int .i64 0, .int .i64 0] 50)).heap.size := by simp
  have hcap : CapOk (.slice (some ⟨w.heap.size, 0, none⟩) 2 2) := fun a n cp h => by injection h with _ h1 h2; omega
  have m1 : Hid (∀ W c, Below (w.alloc (.cells #[.string ⟨#[78]⟩, .int .i64 2, .int .i64 0, .int .i64 0, .int .i64 0, .string ⟨#[68]⟩, .int .i64 3, .int .i64 0, .int .i64 0, .int .i64 0] 50)).heap.size (w.alloc (.cells #[.string ⟨#[78]⟩, .int .i64 2, .int .i64 0, .int .i64 0, .int .i64 0, .string ⟨#[68]⟩, .int .i64 3, .int .i64 0, .int .i64 0, .int .i64 0] 50)) W → PLst W c exA → Calls Tryz.prog 9 #[.slice (some ⟨w.heap.size, 0, none⟩) 2 2, c, .int .i64 2] W fun e w' => (∃ g o c2, e = .returned (.tuple #[.slice (some ⟨g, o, none⟩) 3 c2, .int .i64 0]) ∧ Hid (g < w'.heap.size ∧ w'.cell? ⟨g, o + 5, none⟩ = some (.int .i64 1) ∧ w'.cell? ⟨g, o + 5 + 1, none⟩ = some (.int .i64 1) ∧ w'.cell? ⟨g, o + 5 + 2, none⟩ = some (.int .i64 2) ∧ w'.cell? ⟨g, o + 5 + 3, none⟩ = some (.string ⟨#[]⟩) ∧ w'.cell? ⟨g, o + 5 + 4, none⟩ = some (.string ⟨#[]⟩))) ∧ Below W.heap.size W w') := fun W c hb hP => by
    refine (resolve_any _ c exV exA 2 W ((vlst_lit w).below hb (Nat.le_refl _)) (by decide) hcap hP (by decide) sA (hg.below (hb0.trans (hb.mono z0)) hg.lt)).mono ?_
    unfold ResOut
    rw [exA_is]
    rintro e w' ⟨⟨v, o, rfl, ho, hL, -⟩, hb1⟩
    obtain ⟨x, y, z, rfl, -, hy, -⟩ := map_three ho
    obtain ⟨g, q, c2, rfl, hg2, -, hc⟩ := part_cells hL
    rw [num_pv hy] at hc
    exact ⟨⟨g, q, c2, rfl, hg2, hc⟩, hb1⟩
  have m2 : Hid (∀ W c, Below (w.alloc (.cells #[.string ⟨#[78]⟩, .int .i64 2, .int .i64 0, .int .i64 0, .int .i64 0, .string ⟨#[68]⟩, .int .i64 3, .int .i64 0, .int .i64 0, .int .i64 0] 50)).heap.size (w.alloc (.cells #[.string ⟨#[78]⟩, .int .i64 2, .int .i64 0, .int .i64 0, .int .i64 0, .string ⟨#[68]⟩, .int .i64 3, .int .i64 0, .int .i64 0, .int .i64 0] 50)) W → PLst W c exB → Calls Tryz.prog 11 #[.slice (some ⟨w.heap.size, 0, none⟩) 2 2, c, .int .i64 3] W fun e w' => (∃ g o c2, e = .returned (.tuple #[.slice (some ⟨g, o, none⟩) 3 c2, .int .i64 0]) ∧ Hid (g < w'.heap.size ∧ w'.cell? ⟨g, o, none⟩ = some (.int .i64 1) ∧ w'.cell? ⟨g, o + 1, none⟩ = some (.int .i64 6) ∧ w'.cell? ⟨g, o + 2, none⟩ = some (.int .i64 3) ∧ w'.cell? ⟨g, o + 3, none⟩ = some (.string ⟨#[]⟩) ∧ w'.cell? ⟨g, o + 4, none⟩ = some (.string ⟨#[]⟩))) ∧ Below W.heap.size W w') := fun W c hb hP => by
    refine (fold_any _ c exV exB 3 W ((vlst_lit w).below hb (Nat.le_refl _)) (by decide) hcap hP (by decide) sB (hg.below (hb0.trans (hb.mono z0)) hg.lt)).mono ?_
    unfold FoldOut
    rw [exB_is]
    rintro e w' ⟨⟨v, o, rfl, ho, hL⟩, hb1⟩
    obtain ⟨x, y, z, rfl, hx, -, -⟩ := map_three ho
    obtain ⟨g, q, c2, rfl, hg2, hc, -⟩ := part_cells hL
    rw [num_pv hx] at hc
    exact ⟨⟨g, q, c2, rfl, hg2, hc⟩, hb1⟩
  have m3 : Hid (∀ W c, Below (w.alloc (.cells #[.string ⟨#[78]⟩, .int .i64 2, .int .i64 0, .int .i64 0, .int .i64 0, .string ⟨#[68]⟩, .int .i64 3, .int .i64 0, .int .i64 0, .int .i64 0] 50)).heap.size (w.alloc (.cells #[.string ⟨#[78]⟩, .int .i64 2, .int .i64 0, .int .i64 0, .int .i64 0, .string ⟨#[68]⟩, .int .i64 3, .int .i64 0, .int .i64 0, .int .i64 0] 50)) W → PLst W c exC → Calls Tryz.prog 16 #[c, .int .i64 2] W fun e w' => e = .returned (.tuple #[.int .i64 0, .int .i64 41]) ∧ Below W.heap.size W w') := fun W c hb hP => by
    have := value_any c exC 2 W hP (by decide) sC (hg.below (hb0.trans (hb.mono z0)) hg.lt)
    rw [exC_is] at this
    exact this
  have m4 : Hid (∀ W c, Below (w.alloc (.cells #[.string ⟨#[78]⟩, .int .i64 2, .int .i64 0, .int .i64 0, .int .i64 0, .string ⟨#[68]⟩, .int .i64 3, .int .i64 0, .int .i64 0, .int .i64 0] 50)).heap.size (w.alloc (.cells #[.string ⟨#[78]⟩, .int .i64 2, .int .i64 0, .int .i64 0, .int .i64 0, .string ⟨#[68]⟩, .int .i64 3, .int .i64 0, .int .i64 0, .int .i64 0] 50)) W → PLst W c exD → Calls Tryz.prog 16 #[c, .int .i64 1] W fun e w' => e = .returned (.tuple #[.int .i64 1, .int .i64 0]) ∧ Below W.heap.size W w') := fun W c hb hP => by
    have := value_any c exD 1 W hP (by decide) sD (hg.below (hb0.trans (hb.mono z0)) hg.lt)
    rw [exD_is] at this
    exact this
  have HB0 := hide hb0
  have hbx : Below (w.alloc (.cells #[.string ⟨#[78]⟩, .int .i64 2, .int .i64 0, .int .i64 0, .int .i64 0, .string ⟨#[68]⟩, .int .i64 3, .int .i64 0, .int .i64 0, .int .i64 0] 50)).heap.size (w.alloc (.cells #[.string ⟨#[78]⟩, .int .i64 2, .int .i64 0, .int .i64 0, .int .i64 0, .string ⟨#[68]⟩, .int .i64 3, .int .i64 0, .int .i64 0, .int .i64 0] 50)) (w.alloc (.cells #[.string ⟨#[78]⟩, .int .i64 2, .int .i64 0, .int .i64 0, .int .i64 0, .string ⟨#[68]⟩, .int .i64 3, .int .i64 0, .int .i64 0, .int .i64 0] 50)) := Below.refl _ _
  clear sA sB sC sD hcap hg hb0
  go_enter Tryz.func15, Tryz.ntmps15
  go_wp2_with (first | (go_at_call 16; have hAgain := hb16; clear hAgain; (show Calls Tryz.prog 16 #[_, .int .i64 1] _ _); refine (m4.out _ _ (hbx.alloc hbx.size _) (plst_block (o := exD) (rest := []) (heap_alloc_new _ _) rfl rfl)).mono ?_; rintro e w17 ⟨rfl, hb17⟩; replace hbx := (hbx.alloc hbx.size _).trans (hb17.mono (hbx.alloc hbx.size _).size); replace hby := (hby.alloc hby.size _).trans (hb17.mono (hby.alloc hby.size _).size); replace hbz := (hbz.alloc hbz.size _).trans (hb17.mono (hbz.alloc hbz.size _).size); obtain ⟨i0, i1, i2, i3, i4, i5⟩ := H9.out; obtain ⟨j0, j1, j2, j3, j4, j5⟩ := H11.out; replace i1 := (hby.cell i0).trans i1; replace j1 := (hbz.cell j0).trans j1; replace i2 := (hby.cell i0).trans i2; replace j2 := (hbz.cell j0).trans j2; replace i3 := (hby.cell i0).trans i3; replace j3 := (hbz.cell j0).trans j3; replace i4 := (hby.cell i0).trans i4; replace j4 := (hbz.cell j0).trans j4; replace i5 := (hby.cell i0).trans i5; replace j5 := (hbz.cell j0).trans j5; replace HB0 := hide (HB0.out.trans (hbx.mono z0)); clear m1 m2 m3 m4 mn mo hby hbz hbx H9 H11 i0 j0) | (go_at_call 29; refine (mn _ _).mono ?_; rintro e wn ⟨rfl, hbn⟩; (first | (replace hbz := hbz.trans (hbn.mono hbz.size)) | skip); (first | (replace hby := hby.trans (hbn.mono hby.size)) | skip); replace hbx := hbx.trans (hbn.mono hbx.size)) | (go_at_call 20; refine (mo _ _).mono ?_; rintro e wo ⟨rfl, hbo⟩; (first | (replace hbz := hbz.trans (hbo.mono hbz.size)) | skip); (first | (replace hby := hby.trans (hbo.mono hby.size)) | skip); replace hbx := hbx.trans (hbo.mono hbx.size)) | (go_at_call 9; refine (m1.out _ _ (hbx.alloc hbx.size _) (plst_block (o := exA) (rest := []) (heap_alloc_new _ _) rfl rfl)).mono ?_; rintro e w9 ⟨⟨g9, o9, c9, rfl, H9⟩, hb9⟩; replace hbx := (hbx.alloc hbx.size _).trans (hb9.mono (hbx.alloc hbx.size _).size); have hby := Below.refl w9.heap.size w9) | (go_at_call 11; refine (m2.out _ _ (hbx.alloc hbx.size _) (plst_block (o := exB) (rest := []) (heap_alloc_new _ _) rfl rfl)).mono ?_; rintro e w11 ⟨⟨g11, o11, c11, rfl, H11⟩, hb11⟩; replace hbx := (hbx.alloc hbx.size _).trans (hb11.mono (hbx.alloc hbx.size _).size); replace hby := (hby.alloc hby.size _).trans (hb11.mono (hby.alloc hby.size _).size); have hbz := Below.refl w11.heap.size w11) | (go_at_call 16; (show Calls Tryz.prog 16 #[_, .int .i64 2] _ _); refine (m3.out _ _ (hbx.alloc hbx.size _) (plst_block (o := exC) (rest := []) (heap_alloc_new _ _) rfl rfl)).mono ?_; rintro e w16 ⟨rfl, hb16⟩; replace hbx := (hbx.alloc hbx.size _).trans (hb16.mono (hbx.alloc hbx.size _).size); replace hby := (hby.alloc hby.size _).trans (hb16.mono (hby.alloc hby.size _).size); replace hbz := (hbz.alloc hbz.size _).trans (hb16.mono (hbz.alloc hbz.size _).size)))
  go_ret
  exact ⟨rfl, HB0.out⟩
end Go.Proofs.YtldjiieckddhkaaGreatDoor
namespace Go.Proofs.YtldjiieckddhkaaGreatDoor
open Go.RowKit
set_option maxRecDepth 100000 in
set_option maxHeartbeats 3200000 in
theorem one_no (vx vy : Value) (x y : List Pv) (k : Int) (w : World) (hX : PLst w vx x) (hxl : x.length ≤ 4398046510976) (hsx : StrOk x) (hY : PLst w vy y) (hyl : y.length ≤ 4398046510976) (hsy : StrOk y) (hg : Glo w)
    (h : (valQ (x.map ptV) 3).2 ≠ 0 ∨ (valQ (y.map ptV) 3).2 ≠ 0) :
    Calls Tryz.prog 6 #[vx, vy, .int .i64 k] w fun e w' => e = .returned (.bool true) ∧ Below w.heap.size w w' := by
  have m0 := works_any w hg
  have mx : Hid (∀ W, Below w.heap.size w W → Calls Tryz.prog 16 #[vx, .int .i64 3] W fun e w' => e = .returned (.tuple #[.int .i64 (valQ (x.map ptV) 3).1, .int .i64 (valQ (x.map ptV) 3).2]) ∧ Below W.heap.size W w') := fun W hb => value_any vx x 3 W (hX.below hb (Nat.le_refl _)) hxl hsx (hg.below hb hg.lt)
  have my : Hid (∀ W, Below w.heap.size w W → Calls Tryz.prog 16 #[vy, .int .i64 3] W fun e w' => e = .returned (.tuple #[.int .i64 (valQ (y.map ptV) 3).1, .int .i64 (valQ (y.map ptV) 3).2]) ∧ Below W.heap.size W w') := fun W hb => value_any vy y 3 W (hY.below hb (Nat.le_refl _)) hyl hsy (hg.below hb hg.lt)
  generalize (valQ (x.map ptV) 3).1 = A at *
  generalize (valQ (x.map ptV) 3).2 = E at *
  generalize (valQ (y.map ptV) 3).1 = B at *
  generalize (valQ (y.map ptV) 3).2 = F at *
  clear hX hY hsx hsy hg hxl hyl
  by_cases hE : E = 0
  · have hF : ¬ F = 0 := h.elim (fun h => absurd hE h) id
    subst hE
    clear h
    go_enter Tryz.func6, Tryz.ntmps6
    go_wp2_with (first | (go_at_call 15; refine m0.mono ?_; rintro e w0 ⟨rfl, hb0⟩) | (go_at_call 16; have hAgain := hbx; clear hAgain; refine (my.out _ (hb0.trans (hbx.mono hb0.size))).mono ?_; rintro e wy ⟨rfl, hby⟩) | (go_at_call 16; refine (mx.out _ hb0).mono ?_; rintro e wx ⟨rfl, hbx⟩))
    go_ret
    exact ⟨rfl, (hb0.trans (hbx.mono hb0.size)).trans (hby.mono (hb0.trans (hbx.mono hb0.size)).size)⟩
  · clear h
    go_enter Tryz.func6, Tryz.ntmps6
    go_wp2_with (first | (go_at_call 15; refine m0.mono ?_; rintro e w0 ⟨rfl, hb0⟩) | (go_at_call 16; have hAgain := hbx; clear hAgain; refine (my.out _ (hb0.trans (hbx.mono hb0.size))).mono ?_; rintro e wy ⟨rfl, hby⟩) | (go_at_call 16; refine (mx.out _ hb0).mono ?_; rintro e wx ⟨rfl, hbx⟩))
    go_ret
    exact ⟨rfl, (hb0.trans (hbx.mono hb0.size)).trans (hby.mono (hb0.trans (hbx.mono hb0.size)).size)⟩
end Go.Proofs.YtldjiieckddhkaaGreatDoor
