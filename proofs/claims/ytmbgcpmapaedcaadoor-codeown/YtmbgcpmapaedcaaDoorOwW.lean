/- CodeOwn's walk. -/
import Derived.Test.YtmbgcpmapaedcaaDoorMg23
import Derived.Test.YtmbgcpmapaedcaaDoorCpJ
import Derived.Test.YtmbgcpmapaedcaaDoorWoW
namespace Go.Proofs.YtmbgcpmapaedcaaDoor
open Go.RowKit
theorem rows_apart {W : World} {b1 b2 e1 e2 s1 s2 n1 n2 : Nat} {v1 v2 : Value} {x1 x2 : List Value} (h1 : W.ownsRow b1 e1 s1 v1 n1 x1) (h2 : W.ownsRow b2 e2 s2 v2 n2 x2) (hne : e1 ≠ e2) : v1.ownBlock = none ∨ v1.ownBlock ≠ v2.ownBlock := by
  rcases h1.2 with ⟨rfl, _⟩ | ⟨g, cap, cur, rfl, hb, hg, r⟩
  · exact .inl rfl
  · refine .inr fun e => ?_
    rcases h2.2 with ⟨rfl, _⟩ | ⟨g', cap', cur', rfl, hb', hg', r'⟩
    · cases e
    · have e' : g = g' := Option.some.inj e
      subst e'
      rw [hg] at hg'
      injection hg' with hg'
      injection hg' with _ h _
      exact hne h
theorem own_set_ne {w : World} {base e size n : Nat} {v : Value} {xs : List Value} (h : w.ownsRow base e size v n xs) (b o : Nat) (hb : v.ownBlock ≠ some b) (u : Value) : (w.setCell ⟨b, o, none⟩ u).ownsRow base e size v n xs := by
  refine ⟨h.1, ?_⟩
  rcases h.2 with h0 | ⟨g, cap, cur, hv, hg, hh, r⟩
  · exact .inl h0
  · subst hv
    exact .inr ⟨g, cap, cur, rfl, hg, by rw [heap_setCell_other _ _ _ _ (fun e => hb (by show some g = some b; rw [show g = b from e]))]; exact hh, r⟩
/-- the last instruction of a row of one's own, written -/
theorem last_set {W : World} {base g cap n : Nat} {l : List Ins} {i : Ins} (o a b c : Int) (hl : l.length = n) (h : W.ownsRow base 23 4 (.slice (some ⟨g, 0, none⟩) (n + 1) cap) (n + 1) (inC (l ++ [i]))) :
    ISt ((((W.setCell ⟨g, n * 4, none⟩ (.int .i64 o)).setCell ⟨g, n * 4 + 1, none⟩ (.int .i64 a)).setCell ⟨g, n * 4 + 2, none⟩ (.int .i64 b)).setCell ⟨g, n * 4 + 3, none⟩ (.int .i64 c)) (.slice (some ⟨g, 0, none⟩) (n + 1) cap) (l ++ [⟨o, a, b, c⟩]) := by
  rcases h.2 with ⟨h0, _⟩ | ⟨g', cap', cur, hv, hb, hg, hn, hm, hs, ht⟩
  · cases h0
  · injection hv with e1 _ e3
    injection e1 with e1
    injection e1 with e1
    subst e1 e3
    have hh := Lib.heap_setCell_same (Lib.heap_setCell_same (Lib.heap_setCell_same (Lib.heap_setCell_same hg (.int .i64 o) (i := n * 4)) (.int .i64 a) (i := n * 4 + 1)) (.int .i64 b) (i := n * 4 + 2)) (.int .i64 c) (i := n * 4 + 3)
    have hlen : (l ++ [⟨o, a, b, c⟩] : List Ins).length = n + 1 := by rw [List.length_append, hl]; rfl
    have hcur : n * 4 + 3 < cur.size := by rw [hs]; omega
    refine ⟨some ⟨g, 0, none⟩, g, 0, cap, by rw [hlen], fun _ => ⟨(Array.getElem?_eq_some_iff.1 hh).1, rfl⟩, fun k q hq => ?_⟩
    have old : ∀ j, j < n * 4 → W.cell? ⟨g, j, none⟩ = cur[j]? := fun j _ => Lib.cell_of_heap (j := j) hg
    by_cases hk : k < n
    · have hq' : l[k]? = some q := by rw [List.getElem?_append_left (by omega)] at hq; exact hq
      have hq2 : (l ++ [i])[k]? = some q := by rw [List.getElem?_append_left (by omega)]; exact hq'
      obtain ⟨d0, d1, d2, d3⟩ := inC_get _ _ _ hq2
      have e : ∀ j, j < n * 4 → ((((W.setCell ⟨g, n * 4, none⟩ (.int .i64 o)).setCell ⟨g, n * 4 + 1, none⟩ (.int .i64 a)).setCell ⟨g, n * 4 + 2, none⟩ (.int .i64 b)).setCell ⟨g, n * 4 + 3, none⟩ (.int .i64 c)).cell? ⟨g, j, none⟩ = (inC (l ++ [i]))[j]? := fun j hj => by
        rw [Lib.cell_of_heap (j := j) hh, Array.getElem?_setIfInBounds_ne (by omega), Array.getElem?_setIfInBounds_ne (by omega), Array.getElem?_setIfInBounds_ne (by omega), Array.getElem?_setIfInBounds_ne (by omega), ← old j hj, h.cellAt j (by omega)]
      rw [Nat.zero_add]
      exact ⟨(e _ (by omega)).trans d0, (e _ (by omega)).trans d1, (e _ (by omega)).trans d2, (e _ (by omega)).trans d3⟩
    · have hkn : k = n := by have := (List.getElem?_eq_some_iff.1 hq).1; omega
      subst hkn
      rw [List.getElem?_append_right (by omega), hl, Nat.sub_self] at hq
      obtain rfl := Option.some.inj hq
      rw [Nat.zero_add]
      refine ⟨?_, ?_, ?_, ?_⟩
      · rw [Lib.cell_of_heap (j := k * 4) hh, Array.getElem?_setIfInBounds_ne (by omega), Array.getElem?_setIfInBounds_ne (by omega), Array.getElem?_setIfInBounds_ne (by omega), Array.getElem?_setIfInBounds_self_of_lt (by omega)]
      · rw [Lib.cell_of_heap (j := k * 4 + 1) hh, Array.getElem?_setIfInBounds_ne (by omega), Array.getElem?_setIfInBounds_ne (by omega), Array.getElem?_setIfInBounds_self_of_lt (by simp; omega)]
      · rw [Lib.cell_of_heap (j := k * 4 + 2) hh, Array.getElem?_setIfInBounds_ne (by omega), Array.getElem?_setIfInBounds_self_of_lt (by simp; omega)]
      · rw [Lib.cell_of_heap (j := k * 4 + 3) hh, Array.getElem?_setIfInBounds_self_of_lt (by simp; omega)]
theorem own_set4 {w : World} {base e size n g j : Nat} {v a b c d : Value} {xs : List Value} (h : w.ownsRow base e size v n xs) (hb : v.ownBlock ≠ some g) : ((((w.setCell ⟨g, j, none⟩ a).setCell ⟨g, j + 1, none⟩ b).setCell ⟨g, j + 2, none⟩ c).setCell ⟨g, j + 3, none⟩ d).ownsRow base e size v n xs :=
  own_set_ne (own_set_ne (own_set_ne (own_set_ne h g j hb a) g (j + 1) hb b) g (j + 2) hb c) g (j + 3) hb d
theorem apart_ne {v1 : Value} {g : Nat} (h : v1.ownBlock = none ∨ v1.ownBlock ≠ some g) : v1.ownBlock ≠ some g := by
  rcases h with h | h
  · rw [h]; intro e; cases e
  · exact h
theorem own_base {w : World} {base b e size n : Nat} {v : Value} {xs : List Value} (h : w.ownsRow base e size v n xs) (hb : b ≤ base) : w.ownsRow b e size v n xs := by
  refine ⟨h.1, ?_⟩
  rcases h.2 with h0 | ⟨g, cap, cur, hv, hg, r⟩
  · exact .inl h0
  · exact .inr ⟨g, cap, cur, hv, Nat.le_trans hb hg, r⟩
set_option maxRecDepth 100000 in
set_option maxHeartbeats 3200000 in
theorem own_any (nm tv fv iv ov cv : Value) (x : Img) (at_ : Int) (w : World) (hg : GlC w) (hp : Pow w) (hx : Im w nm tv fv iv ov cv x) (hcap : ∀ a n c, tv = .slice a n c → n ≤ c) (hl : ImL x) :
    Calls Tryd.prog 4 #[.agg #[nm, tv, fv, iv, ov, cv], .int .i64 at_] w fun e w' => e = .returned (.bool true) ∧ Below w.heap.size w w' := by
  have HB1 : Hid (∀ A, Below w.heap.size w (w.alloc A)) := fun A => (Below.refl _ _).alloc (Nat.le_refl _) _
  have m0 : Hid (∀ W, Below w.heap.size w W → Calls Tryd.prog 8 #[] W fun e w' => e = .returned (.bool true) ∧ Below W.heap.size W w') := fun W hb => works_any W (hg.on hb hg.lt) (hp.on hb)
  have m1 : Hid (∀ W, Below w.heap.size w W → Calls Tryd.prog 9 #[.agg #[nm, tv, fv, iv, ov, cv]] W fun e w' => e = .returned (.tuple #[.int .i64 (chkP x).1, .int .i64 (chkP x).2]) ∧ Below W.heap.size W w') := fun W hb => check_any nm tv fv iv ov cv x W (hg.on hb hg.lt) (hx.on hb) hcap hl
  obtain ⟨S, hS⟩ : ∃ S : ByteArray, S = ⟨x.name.toArray⟩ := ⟨_, rfl⟩
  have hnm : nm = .string S := by rw [hS]; exact hx.name
  subst hnm
  have HS := hide hS
  clear hS
  have HX := hide hx
  obtain ⟨ta, tc, rfl⟩ := hx.ty.shape
  obtain ⟨fa, fc, rfl⟩ := hx.fi.shape
  obtain ⟨ia, ic, rfl⟩ := hx.ins.shape
  obtain ⟨oa, oc, rfl⟩ := hx.outs.shape
  obtain ⟨ca, cb, coff, cc, rfl, hcA, hcI⟩ := hx.cd
  obtain ⟨n, hN⟩ : ∃ n, n = x.cd.length := ⟨_, rfl⟩
  have hn9 : n ≤ 8796093022208 := by rw [hN]; exact hl.cd
  rw [← hN] at m1 HX ⊢
  by_cases h0 : (chkP x).2 = 0
  · have hF := frame_facts (chk_ok h0)
    have hd0 : chkP x = ((chkP x).1, 0) := by rw [← h0]
    by_cases h1 : n = 4096
    · subst h1
      rw [h0] at m1
      generalize (chkP x).1 = c1 at *
      clear hg hp hx hcap hl HX hcA hcI hN hF h0 hd0
      generalize x.ty.length = tn at *
      generalize x.fi.length = fn at *
      generalize x.ins.length = in_ at *
      generalize x.outs.length = on_ at *
      go_enter Tryd.func4, Tryd.ntmps4
      go_wp2_with fail
      refine (m0.out _ (HB1.out _)).mono ?_
      rintro e w1 ⟨rfl, b1⟩
      have Q1 := hide ((b1.block w.heap.size (by simp)).trans (heap_alloc_new w _))
      have B1 := hide ((HB1.out _).trans (b1.mono (by simp)))
      have L1 : w.heap.size < w1.heap.size := by have := b1.size; simp at this; omega
      clear b1 m0
      obtain ⟨q0, q1, q2, q3, q4, q5, -⟩ := six Q1.out
      go_wp2_with fail
      refine (m1.out _ B1.out).mono ?_
      rintro e w2 ⟨rfl, b2⟩
      have Q2 := hide ((b2.block w.heap.size L1).trans Q1.out)
      have B2 := hide (B1.out.trans (b2.mono B1.out.size))
      have L2 : w.heap.size < w2.heap.size := by have := b2.size; omega
      clear b2 m1 Q1 B1 L1 q0 q1 q2 q3 q4 q5
      obtain ⟨q0, q1, q2, q3, q4, q5, -⟩ := six Q2.out
      go_wp2
      go_ret
      exact ⟨rfl, B2.out⟩
    · have hn1 : 1 ≤ n := by rw [hN]; exact hF.c1
      have hn2 : n < 4096 := by have := hF.c2; omega
      have hne : ((n : Int) == 4096) = false := by simp; omega
      have hnd : decide ((n : Int) = 4096) = false := decide_eq_false (by omega)
      obtain ⟨hcb, rfl⟩ := hcA (by omega)
      have lt_ty : x.ty.length ≤ 1024 := hF.ty
      have lt_fi : x.fi.length ≤ 1024 := by have := hF.fi; have := hF.ty; omega
      have lt_in : x.ins.length ≤ 1024 := hF.ins
      have lt_ou : x.outs.length ≤ 1024 := hF.outs
      have m2 : Hid (∀ W, Below w.heap.size w W → Calls Tryd.prog 10 #[.agg #[.string S, .slice ta x.ty.length tc, .slice fa x.fi.length fc, .slice ia x.ins.length ic, .slice oa x.outs.length oc, .slice (some ⟨cb, coff, none⟩) n cc]] W fun e w' => ∃ tv' fv' iv' ov' cv', e = .returned (.agg #[.string S, tv', fv', iv', ov', cv']) ∧ w'.ownsRow (W.heap.size + 2) 3 1 tv' x.ty.length (intC x.ty) ∧ w'.ownsRow (W.heap.size + 2) 2 1 fv' x.fi.length (intC x.fi) ∧ w'.ownsRow (W.heap.size + 2) 3 1 iv' x.ins.length (intC x.ins) ∧ w'.ownsRow (W.heap.size + 2) 3 1 ov' x.outs.length (intC x.outs) ∧ w'.ownsRow (W.heap.size + 2) 23 4 cv' x.cd.length (inC x.cd) ∧ Below W.heap.size W w') := fun W hb => copy_any _ _ _ _ _ _ x W (HX.out.on hb) (by omega) (by omega) (by omega) (by omega) (by omega)
      have m3 : Hid (∀ W i tv' fv' iv' ov' cv', Below w.heap.size w W → ILst W tv' x.ty → ILst W fv' x.fi → ILst W iv' x.ins → ILst W ov' x.outs → ISt W cv' (x.cd ++ [i]) → (∀ a n c, tv' = .slice a n c → n ≤ c) → Calls Tryd.prog 9 #[.agg #[.string S, tv', fv', iv', ov', cv']] W fun e w' => e = .returned (.tuple #[.int .i64 (chkP (more x i)).1, .int .i64 (chkP (more x i)).2]) ∧ Below W.heap.size W w') := fun W i tv' fv' iv' ov' cv' hb g1 g2 g3 g4 g5 g6 => by
        refine check_any _ _ _ _ _ _ (more x i) W (hg.on hb hg.lt) ⟨by rw [HS.out]; rfl, g1, g2, g3, g4, g5⟩ g6 ⟨?_, ?_, ?_, ?_, ?_⟩
        · show x.ty.length ≤ _; omega
        · show x.fi.length ≤ _; omega
        · show x.ins.length ≤ _; omega
        · show x.outs.length ≤ _; omega
        · show (x.cd ++ [i]).length ≤ _; rw [List.length_append, ← hN]; show n + 1 ≤ _; omega
      have h4 : Hid (∀ i ∈ x.cd, chkP (more x i) = (0, 0)) := fun i hi => chk_more h0 (by omega) hi
      have h5 : Hid (chkP (more x ⟨99, 0, 0, 0⟩) = ((n : Int), 130)) := by show _ = _; rw [hN]; exact chk_bad h0 (by omega)
      obtain ⟨U, hU⟩ : ∃ U, U = IntKind.u64.wrap at_ := ⟨_, rfl⟩
      have u0 : 0 ≤ U := by rw [hU]; simp [IntKind.wrap, IntKind.bits, IntKind.signed]; omega
      have u1 : U < 18446744073709551616 := by rw [hU]; simp [IntKind.wrap, IntKind.bits, IntKind.signed]; omega
      have hk0 : 0 ≤ U % (n : Int) := Int.emod_nonneg _ (by omega)
      have hk1 : U % (n : Int) < (n : Int) := Int.emod_lt_of_pos _ (by omega)
      obtain ⟨k, hk⟩ : ∃ k : Nat, (k : Int) = U % (n : Int) := ⟨(U % (n : Int)).toNat, by omega⟩
      have hkn : k < n := by omega
      obtain ⟨y, hy⟩ : ∃ y, x.cd[k]? = some y := ⟨_, List.getElem?_eq_getElem (by rw [← hN]; exact hkn)⟩
      have hym : y ∈ x.cd := List.mem_of_getElem? hy
      obtain ⟨yc0, yc1, yc2, yc3⟩ := hcI k y hy
      have H4 := hide (h4.out y hym)
      have m4 := hide (fun W => m3.out W y)
      have m5 := hide (fun W => m3.out W ⟨99, 0, 0, 0⟩)
      rw [H4.out] at m4
      rw [h5.out] at m5
      have HN := hide hN
      have HY := hide (And.intro yc0 (And.intro yc1 (And.intro yc2 yc3)))
      have HCB := hide hcb
      rw [h0] at m1
      generalize (chkP x).1 = c1 at *
      clear hg hp hx hcap hl HX hcA hcI hN hF h0 hd0 m3 h4 h5 H4 hy hym yc0 yc1 yc2 yc3 hcb
      obtain ⟨p0, p1, p2, p3⟩ := y
      go_enter Tryd.func4, Tryd.ntmps4
      go_wp2_with fail
      refine (m0.out _ (HB1.out _)).mono ?_
      rintro e w1 ⟨rfl, b1⟩
      have Q1 := hide ((b1.block w.heap.size (by simp)).trans (heap_alloc_new w _))
      have B1 := hide ((HB1.out _).trans (b1.mono (by simp)))
      have L1 : w.heap.size < w1.heap.size := by have := b1.size; simp at this; omega
      clear b1 m0
      obtain ⟨q0, q1, q2, q3, q4, q5, -⟩ := six Q1.out
      go_wp2_with fail
      refine (m1.out _ B1.out).mono ?_
      rintro e w2 ⟨rfl, b2⟩
      have Q2 := hide ((b2.block w.heap.size L1).trans Q1.out)
      have B2 := hide (B1.out.trans (b2.mono B1.out.size))
      have L2 : w.heap.size < w2.heap.size := by have := b2.size; omega
      clear b2 m1 Q1 B1 L1 q0 q1 q2 q3 q4 q5
      obtain ⟨q0, q1, q2, q3, q4, q5, -⟩ := six Q2.out
      go_wp2_with fail
      refine (m2.out _ B2.out).mono ?_
      rintro e w3 ⟨tv', fv', iv', ov', cv', rfl, r1, r2, r3, r4, r5, b3⟩
      obtain ⟨ta', tc', rfl, htc⟩ := owns_slice r1
      obtain ⟨fa', fc', rfl, -⟩ := owns_slice r2
      obtain ⟨ia', ic', rfl, -⟩ := owns_slice r3
      obtain ⟨oa', oc', rfl, -⟩ := owns_slice r4
      obtain ⟨ca', cc', rfl, -⟩ := owns_slice r5
      have hHT := hide htc
      have B3 := hide (B2.out.trans (b3.mono B2.out.size))
      have Q3 := hide ((b3.block w.heap.size L2).trans Q2.out)
      have z3 := b3.size
      have R1 := hide r1
      have R2 := hide r2
      have R3 := hide r3
      have R4 := hide r4
      have R5 := hide r5
      rw [← HN.out] at R5 ⊢
      obtain ⟨tn, htn⟩ : ∃ n, n = x.ty.length := ⟨_, rfl⟩
      obtain ⟨fn, hfn⟩ : ∃ n, n = x.fi.length := ⟨_, rfl⟩
      obtain ⟨in_, hin⟩ : ∃ n, n = x.ins.length := ⟨_, rfl⟩
      obtain ⟨on_, hon⟩ : ∃ n, n = x.outs.length := ⟨_, rfl⟩
      rw [← htn] at R1 hHT lt_ty
      rw [← hfn] at R2
      rw [← hin] at R3
      rw [← hon] at R4
      rw [← htn, ← hfn, ← hin, ← hon] at Q3 ⊢
      have HTN := hide htn
      have HFN := hide hfn
      have HIN := hide hin
      have HON := hide hon
      clear r1 r2 r3 r4 r5 b3 m2 htn hfn hin hon htc q0 q1 q2 q3 q4 q5 Q2 lt_fi lt_in lt_ou
      go_wp2_with fail
      obtain ⟨W0, hW0⟩ : ∃ W0, W0 = (w3.alloc (.cells #[.string S, .slice ta' tn tc', .slice fa' fn fc', .slice ia' in_ ic', .slice oa' on_ oc', .slice ca' n cc'] 31)).drew := ⟨_, rfl⟩
      have B0 : Hid (Below w.heap.size w W0) := by rw [hW0]; exact (B3.out.alloc B3.out.size _).drew
      have b30 : Hid (Below w3.heap.size w3 W0) := by rw [hW0]; exact ((Below.refl _ _).alloc (Nat.le_refl _) _).drew
      have Y0 : Hid (W0.heap[w3.heap.size]? = some (.cells #[.string S, .slice ta' tn tc', .slice fa' fn fc', .slice ia' in_ ic', .slice oa' on_ oc', .slice ca' n cc'] 31 (0, 0))) := by
        show _ = _
        rw [hW0]; exact heap_alloc_new w3 _
      have sz0 : W0.heap.size = w3.heap.size + 1 := by rw [hW0]; show (w3.alloc _).heap.size = _; simp
      have Z0 : Hid (W0.heap[w.heap.size]? = _) := (b30.out.block w.heap.size (by omega)).trans Q3.out
      have P1 := hide (own_on R1.out b30.out)
      have P2 := hide (own_on R2.out b30.out)
      have P3 := hide (own_on R3.out b30.out)
      have P4 := hide (own_on R4.out b30.out)
      have P5 := hide (own_on R5.out b30.out)
      have lt1 : Hid (∀ r, (Value.slice ta' tn tc').ownBlock = some r → r < w3.heap.size) := fun r hr => (R1.out.lt r hr).2
      have lt2 : Hid (∀ r, (Value.slice fa' fn fc').ownBlock = some r → r < w3.heap.size) := fun r hr => (R2.out.lt r hr).2
      have lt3 : Hid (∀ r, (Value.slice ia' in_ ic').ownBlock = some r → r < w3.heap.size) := fun r hr => (R3.out.lt r hr).2
      have lt4 : Hid (∀ r, (Value.slice oa' on_ oc').ownBlock = some r → r < w3.heap.size) := fun r hr => (R4.out.lt r hr).2
      have lt5 : ∀ r, (Value.slice ca' n cc').ownBlock = some r → w2.heap.size + 2 ≤ r ∧ r < w3.heap.size := fun r hr => R5.out.lt r hr
      have yc : W0.cell? ⟨cb, coff + k * 4, none⟩ = some (.int .i64 p0) ∧ W0.cell? ⟨cb, coff + k * 4 + 1, none⟩ = some (.int .i64 p1) ∧ W0.cell? ⟨cb, coff + k * 4 + 2, none⟩ = some (.int .i64 p2) ∧ W0.cell? ⟨cb, coff + k * 4 + 3, none⟩ = some (.int .i64 p3) := by
        have e : ∀ o, W0.cell? ⟨cb, o, none⟩ = w.cell? ⟨cb, o, none⟩ := fun o => B0.out.cell (p := ⟨cb, o, none⟩) HCB.out
        rw [e, e, e, e]; exact HY.out
      have hSS : W0.cell? ⟨w3.heap.size, 5, none⟩ = some (.slice ca' n cc') ∧ W0.cell? ⟨w.heap.size, 5, none⟩ = some (.slice (some ⟨cb, coff, none⟩) n cc) ∧ W0.cell? ⟨cb, coff + k * 4, none⟩ = some (.int .i64 p0) ∧ W0.cell? ⟨cb, coff + k * 4 + 1, none⟩ = some (.int .i64 p1) ∧ W0.cell? ⟨cb, coff + k * 4 + 2, none⟩ = some (.int .i64 p2) ∧ W0.cell? ⟨cb, coff + k * 4 + 3, none⟩ = some (.int .i64 p3) := ⟨(six Y0.out).2.2.2.2.2.1, (six Z0.out).2.2.2.2.2.1, yc⟩
      have Y5 : Hid (W0.cell? ⟨w3.heap.size, 5, none⟩ = some (.slice ca' n cc')) := hSS.1
      have HU := hide hU
      have HK := hide hk
      have k0 : (0 : Int) ≤ (k : Int) := by omega
      have kn : (k : Int) < (n : Int) := by omega
      have wn : IntKind.u64.wrap (n : Int) = (n : Int) := by simp [IntKind.wrap, IntKind.bits, IntKind.signed]; omega
      have hmod : U.tmod (n : Int) = (k : Int) := by rw [Int.tmod_eq_emod_of_nonneg u0, hk]
      have nz : ¬ (n : Int) = 0 := by omega
      have nz2 : ¬ n = 0 := by omega
      have sz1 : w3.heap.size + 1 ≤ W0.heap.size := by omega
      have sz2 : W0.heap.size ≤ w3.heap.size + 1 := by omega
      clear sz0
      have wk : IntKind.i64.wrap (k : Int) = (k : Int) := by rw [IntKind.wrap_i64]; omega
      have HW0 := hide hW0
      clear hW0 yc hk hk0 hk1 hU
      obtain ⟨i5, hi5, hz50, hz51, hz52⟩ := info_parts in23
      refine region_L (S := fun W => W.cell? ⟨w3.heap.size, 5, none⟩ = some (.slice ca' n cc') ∧ W.cell? ⟨w.heap.size, 5, none⟩ = some (.slice (some ⟨cb, coff, none⟩) n cc) ∧ W.cell? ⟨cb, coff + k * 4, none⟩ = some (.int .i64 p0) ∧ W.cell? ⟨cb, coff + k * 4 + 1, none⟩ = some (.int .i64 p1) ∧ W.cell? ⟨cb, coff + k * 4 + 2, none⟩ = some (.int .i64 p2) ∧ W.cell? ⟨cb, coff + k * 4 + 3, none⟩ = some (.int .i64 p3)) (L := 17) (by kernel_rfl) ?_
      rw [← HW0.out]
      refine tkL 0 (.pointer (some ⟨w3.heap.size, 5, none⟩)) hSS ?_
      refine tkL 1 (.slice ca' n cc') hSS ?_
      refine tkL 2 (.pointer (some ⟨w.heap.size, 5, none⟩)) hSS ?_
      refine tkL 3 (.slice (some ⟨cb, coff, none⟩) n cc) hSS ?_
      refine tkL 4 (.int .i64 at_) hSS ?_
      refine tkL 5 (.int .u64 (IntKind.u64.wrap at_)) hSS ?_
      refine tkL 6 (.pointer (some ⟨w.heap.size, 5, none⟩)) hSS ?_
      refine tkL 7 (.slice (some ⟨cb, coff, none⟩) n cc) hSS ?_
      refine tkL 8 (.int .i64 (n : Int)) hSS ?_
      refine tkL 9 (.int .u64 (n : Int)) hSS ?_
      rw [← HU.out]
      try simp only [Act.put, List.setIfInBounds_toArray, List.set_cons_zero, List.set_cons_succ]
      refine tkL 10 (.int .u64 (k : Int)) hSS ?_
      refine tkL 11 (.int .i64 (k : Int)) hSS ?_
      refine tkL 12 (.pointer (some ⟨cb, coff + k * 4, none⟩)) hSS ?_
      refine tkL 13 (.agg #[.int .i64 p0, .int .i64 p1, .int .i64 p2, .int .i64 p3]) hSS ?_
      try simp only [Act.put, List.setIfInBounds_toArray, List.set_cons_zero, List.set_cons_succ]
      have AL : ∀ A o b, b < W0.heap.size → (W0.alloc A).cell? ⟨b, o, none⟩ = W0.cell? ⟨b, o, none⟩ := fun A o b h => World.cell?_alloc_lt _ _ ⟨b, o, none⟩ h
      have hcb0 : cb < W0.heap.size := by have := HCB.out; have := B0.out.size; omega
      refine rdL 14 (fun K hK => ?_)
      go_simp
      refine hK.out _ _ (fun _ => ?_) ?_
      · rw [AL _ _ _ (by omega), AL _ _ _ (by omega), AL _ _ _ hcb0, AL _ _ _ hcb0, AL _ _ _ hcb0, AL _ _ _ hcb0]; exact hSS
      clear hK K
      try simp only [Act.put, List.setIfInBounds_toArray, List.set_cons_zero, List.set_cons_succ]
      refine rdL 15 (fun K hK => ?_)
      refine wp_append_lies _ _ _ _ (by rfl) (w2.heap.size + 2) 23 i5 _ 4 32 Tryd.underlying29 hi5 hz50 hz51 hz52 rfl (by omega) (.slice ca' n cc') n _ (by rfl) (P5.out.alloc _) ⟨W0.heap.size, 0, none⟩ 1 1 [.int .i64 p0, .int .i64 p1, .int .i64 p2, .int .i64 p3] (by rfl) (by rfl) (World.news_of_block (cs := #[.int .i64 p0, .int .i64 p1, .int .i64 p2, .int .i64 p3]) (t := 23) (fr := (0, 0)) (heap_alloc_new W0 _)) (by simp [Value.oneCell']) (by omega) (by unfold maxLen; omega) (by omega) (by simp; omega) (W0.heap.size + 1) (by simp) ?_
      intro gg cap w4 hown hgrow hat hlt3
      have hob : ∀ r, (Value.slice ca' n cc').ownBlock = some r → w2.heap.size + 2 ≤ r := fun r hr => (lt5 r hr).1
      have hYn : some w3.heap.size ≠ (Value.slice ca' n cc').ownBlock := fun e => by have := (lt5 _ e.symm).2; omega
      have hZn : some w.heap.size ≠ (Value.slice ca' n cc').ownBlock := fun e => by have := (lt5 _ e.symm).1; omega
      have hggY : gg ≠ w3.heap.size := by rcases hat with e | e; exact (fun h => by have := (lt5 gg e).2; omega); omega
      have hggB : w2.heap.size + 2 ≤ gg := by rcases hat with e | e; exact (lt5 gg e).1; omega
      have G1 := hide ((P1.out.alloc _).kept hgrow (rows_apart P1.out P5.out (by decide)))
      have G2 := hide ((P2.out.alloc _).kept hgrow (rows_apart P2.out P5.out (by decide)))
      have G3 := hide ((P3.out.alloc _).kept hgrow (rows_apart P3.out P5.out (by decide)))
      have G4 := hide ((P4.out.alloc _).kept hgrow (rows_apart P4.out P5.out (by decide)))
      have G5 := hide hown
      have Y4 := hide ((hgrow.block w3.heap.size (by simp; omega) hYn).trans ((heap_alloc_old _ _ (by omega)).trans Y0.out))
      have Z4 := hide ((hgrow.block w.heap.size (by simp; omega) hZn).trans ((heap_alloc_old _ _ (by omega)).trans Z0.out))
      have B4 : Hid (Below w.heap.size w w4) := ((B0.out.alloc B0.out.size _).grown hgrow (by have := B0.out.size; simp; omega) (fun r hr => Nat.le_trans (by omega) (hob r hr)))
      have z4 : W0.heap.size + 1 ≤ w4.heap.size := by have := hgrow.size; simpa using this
      refine hK.out _ _ (fun _ => ⟨(six Y4.out).2.2.2.2.2.1, (six Z4.out).2.2.2.2.2.1, ?_⟩) ?_
      · have e : ∀ o, w4.cell? ⟨cb, o, none⟩ = w.cell? ⟨cb, o, none⟩ := fun o => B4.out.cell (p := ⟨cb, o, none⟩) HCB.out
        rw [e, e, e, e]; exact HY.out
      have c5 := (six Y4.out).2.2.2.2.2.1
      have f5 := (six Y4.out).2.2.2.2.2.2 5
      have hS4 : w4.cell? ⟨w3.heap.size, 5, none⟩ = some (.slice ca' n cc') ∧ w4.cell? ⟨w.heap.size, 5, none⟩ = some (.slice (some ⟨cb, coff, none⟩) n cc) ∧ w4.cell? ⟨cb, coff + k * 4, none⟩ = some (.int .i64 p0) ∧ w4.cell? ⟨cb, coff + k * 4 + 1, none⟩ = some (.int .i64 p1) ∧ w4.cell? ⟨cb, coff + k * 4 + 2, none⟩ = some (.int .i64 p2) ∧ w4.cell? ⟨cb, coff + k * 4 + 3, none⟩ = some (.int .i64 p3) := by
        refine ⟨c5, (six Z4.out).2.2.2.2.2.1, ?_⟩
        have e : ∀ o, w4.cell? ⟨cb, o, none⟩ = w.cell? ⟨cb, o, none⟩ := fun o => B4.out.cell (p := ⟨cb, o, none⟩) HCB.out
        rw [e, e, e, e]; exact HY.out
      clear hK K hown hgrow hat hlt3 hSS AL P1 P2 P3 P4 P5 R1 R2 R3 R4 R5
      try simp only [Act.put, List.setIfInBounds_toArray, List.set_cons_zero, List.set_cons_succ]
      refine tkL 16 (.pointer (some ⟨w3.heap.size, 5, none⟩)) hS4 ?_
      try simp only [Act.put, List.setIfInBounds_toArray, List.set_cons_zero, List.set_cons_succ]
      refine rdL 17 (fun K hK => ?_)
      go_simp
      refine hK.out _ _ (fun h => absurd rfl h) ?_
      clear hK K hS4
      try simp only [Act.put, List.setIfInBounds_toArray, List.set_cons_zero, List.set_cons_succ]
      refine doneL ?_
      obtain ⟨w5, hw5⟩ : ∃ w5, w5 = w4.setCell ⟨w3.heap.size, 5, none⟩ (.slice (some ⟨gg, 0, none⟩) (n + 1) cap) := ⟨_, rfl⟩
      rw [← hw5]
      have B5 : Hid (Below w.heap.size w w5) := by rw [hw5]; exact B4.out.setCell (by show w.heap.size ≤ w3.heap.size; omega) _
      have Y5' : Hid (w5.heap[w3.heap.size]? = some (.cells #[.string S, .slice ta' tn tc', .slice fa' fn fc', .slice ia' in_ ic', .slice oa' on_ oc', .slice (some ⟨gg, 0, none⟩) (n + 1) cap] 31 (0, 0))) := by
        show _ = _
        rw [hw5]; exact (Lib.heap_setCell_same Y4.out _).trans rfl
      have Z5 : Hid (w5.heap[w.heap.size]? = some (.cells #[.string S, .slice ta tn tc, .slice fa fn fc, .slice ia in_ ic, .slice oa on_ oc, .slice (some ⟨cb, coff, none⟩) n cc] 31 (0, 0))) := by
        show _ = _
        rw [hw5]; exact (heap_setCell_other _ _ _ _ (by show w.heap.size ≠ w3.heap.size; omega)).trans Z4.out
      have K1 : Hid (w5.ownsRow (w2.heap.size + 2) 3 1 (.slice ta' tn tc') tn (intC x.ty)) := by rw [hw5]; exact own_set_ne G1.out _ _ (fun e => by have := lt1.out _ e; omega) _
      have K2 : Hid (w5.ownsRow (w2.heap.size + 2) 2 1 (.slice fa' fn fc') fn (intC x.fi)) := by rw [hw5]; exact own_set_ne G2.out _ _ (fun e => by have := lt2.out _ e; omega) _
      have K3 : Hid (w5.ownsRow (w2.heap.size + 2) 3 1 (.slice ia' in_ ic') in_ (intC x.ins)) := by rw [hw5]; exact own_set_ne G3.out _ _ (fun e => by have := lt3.out _ e; omega) _
      have K4 : Hid (w5.ownsRow (w2.heap.size + 2) 3 1 (.slice oa' on_ oc') on_ (intC x.outs)) := by rw [hw5]; exact own_set_ne G4.out _ _ (fun e => by have := lt4.out _ e; omega) _
      have K5 : Hid (w5.ownsRow (w2.heap.size + 2) 23 4 (.slice (some ⟨gg, 0, none⟩) (n + 1) cap) (n + 1) (inC (x.cd ++ [⟨p0, p1, p2, p3⟩]))) := by
        rw [hw5, inC_one]; exact own_set_ne G5.out _ _ (fun e => hggY (Option.some.inj e)) _
      have z5 : w5.heap.size = w4.heap.size := by rw [hw5]; simp
      have z6 : W0.heap.size + 1 ≤ w5.heap.size := by omega
      clear hw5 z5 G1 G2 G3 G4 G5 Y4 Z4 B4 c5 f5 Y0 Z0 B0 b30 hYn hZn
      have il : ∀ (W : World), Below w5.heap.size w5 W → ILst W (.slice ta' tn tc') x.ty ∧ ILst W (.slice fa' fn fc') x.fi ∧ ILst W (.slice ia' in_ ic') x.ins ∧ ILst W (.slice oa' on_ oc') x.outs := fun W hb =>
        ⟨ILst.of_ownsE (by rw [← HTN.out]; exact own_on K1.out hb), ILst.of_ownsE (by rw [← HFN.out]; exact own_on K2.out hb), ILst.of_ownsE (by rw [← HIN.out]; exact own_on K3.out hb), ILst.of_ownsE (by rw [← HON.out]; exact own_on K4.out hb)⟩
      have HIL := hide il
      have hcapY : ∀ a m c, Value.slice ta' tn tc' = .slice a m c → m ≤ c := fun a m c h => by cases h; exact hHT.out
      have M4 := hide (m4.out w5 _ _ _ _ _ B5.out (il w5 (Below.refl _ _)).1 (il w5 (Below.refl _ _)).2.1 (il w5 (Below.refl _ _)).2.2.1 (il w5 (Below.refl _ _)).2.2.2 (ISt.of_owns (base := w2.heap.size + 2) (by rw [List.length_append, ← HN.out]; exact K5.out)) hcapY)
      clear il m4
      obtain ⟨q0, q1, q2, q3, q4, q5, -⟩ := six Y5'.out
      go_wp2_with fail
      refine M4.out.mono ?_
      rintro e w6 ⟨rfl, b6⟩
      have B6 := hide (B5.out.trans (b6.mono B5.out.size))
      have Y6 := hide ((b6.block w3.heap.size (by omega)).trans Y5'.out)
      have Z6 := hide ((b6.block w.heap.size (by omega)).trans Z5.out)
      have K6 := hide (own_on K5.out b6)
      have z7 := b6.size
      have HB6 := hide b6
      clear b6 q0 q1 q2 q3 q4 q5 M4
      obtain ⟨q0, q1, q2, q3, q4, q5, -⟩ := six Y6.out
      obtain ⟨s0, s1, s2, s3, s4, s5, -⟩ := six Z6.out
      obtain ⟨gcur, hgc⟩ : ∃ cur : Array Value, w6.heap[gg]? = some (.cells cur 23 (0, 0)) := by
        rcases K6.out.2 with ⟨h0, _⟩ | ⟨g', cap', cur, hv, hb, hg, r⟩
        · cases h0
        · injection hv with e1 _ _
          injection e1 with e1
          injection e1 with e1
          subst e1
          exact ⟨cur, hg⟩
      have fg : ∀ j, w6.frozen? ⟨gg, j, none⟩ = false := fun j => Lib.frozen_of_heap hgc j
      have hlC : (inC (x.cd ++ [⟨p0, p1, p2, p3⟩])).length = 4 * (n + 1) := by rw [inC_length, List.length_append, ← HN.out]; rfl
      have cl : ∀ j, j < 4 * (n + 1) → ∃ v, w6.cell? ⟨gg, j, none⟩ = some v := fun j hj => by
        have h := K6.out.cellAt j (by omega)
        rw [List.getElem?_eq_getElem (by omega)] at h
        exact ⟨_, h⟩
      obtain ⟨o0, t0⟩ := cl (n * 4) (by omega)
      obtain ⟨o1, t1⟩ := cl (n * 4 + 1) (by omega)
      obtain ⟨o2, t2⟩ := cl (n * 4 + 2) (by omega)
      obtain ⟨o3, t3⟩ := cl (n * 4 + 3) (by omega)
      have HGC := hide hgc
      clear cl hlC hgc
      go_wp2_with fail
      obtain ⟨w7, hw7⟩ : ∃ w7, w7 = (((w6.setCell ⟨gg, n * 4, none⟩ (.int .i64 99)).setCell ⟨gg, n * 4 + 1, none⟩ (.int .i64 0)).setCell ⟨gg, n * 4 + 2, none⟩ (.int .i64 0)).setCell ⟨gg, n * 4 + 3, none⟩ (.int .i64 0) := ⟨_, rfl⟩
      rw [← hw7]
      have E5 : ISt w7 (.slice (some ⟨gg, 0, none⟩) (n + 1) cap) (x.cd ++ [⟨99, 0, 0, 0⟩]) := by rw [hw7]; exact last_set 99 0 0 0 HN.out.symm K6.out
      have E1 : ILst w7 (.slice ta' tn tc') x.ty := by
        rw [hw7]; exact ILst.of_ownsE (by rw [← HTN.out]; exact own_set4 (own_on K1.out HB6.out) (apart_ne (rows_apart (own_on K1.out HB6.out) K6.out (by decide))))
      have E2 : ILst w7 (.slice fa' fn fc') x.fi := by
        rw [hw7]; exact ILst.of_ownsE (by rw [← HFN.out]; exact own_set4 (own_on K2.out HB6.out) (apart_ne (rows_apart (own_on K2.out HB6.out) K6.out (by decide))))
      have E3 : ILst w7 (.slice ia' in_ ic') x.ins := by
        rw [hw7]; exact ILst.of_ownsE (by rw [← HIN.out]; exact own_set4 (own_on K3.out HB6.out) (apart_ne (rows_apart (own_on K3.out HB6.out) K6.out (by decide))))
      have E4 : ILst w7 (.slice oa' on_ oc') x.outs := by
        rw [hw7]; exact ILst.of_ownsE (by rw [← HON.out]; exact own_set4 (own_on K4.out HB6.out) (apart_ne (rows_apart (own_on K4.out HB6.out) K6.out (by decide))))
      have hZg : w.heap.size ≠ gg := by omega
      have B7 : Hid (Below w.heap.size w w7) := by
        rw [hw7]
        have hz : w.heap.size ≤ gg := by omega
        exact (((B6.out.setCell hz _).setCell hz _).setCell hz _).setCell hz _
      have Z7 : Hid (w7.heap[w.heap.size]? = some (.cells #[.string S, .slice ta tn tc, .slice fa fn fc, .slice ia in_ ic, .slice oa on_ oc, .slice (some ⟨cb, coff, none⟩) n cc] 31 (0, 0))) := by
        show _ = _
        rw [hw7, heap_setCell_other _ _ _ _ hZg, heap_setCell_other _ _ _ _ hZg, heap_setCell_other _ _ _ _ hZg, heap_setCell_other _ _ _ _ hZg]
        exact Z6.out
      have L7 : w.heap.size < w7.heap.size := (Array.getElem?_eq_some_iff.1 Z7.out).1
      have M5 := hide (m5.out w7 _ _ _ _ _ B7.out E1 E2 E3 E4 E5 hcapY)
      clear hw7 E1 E2 E3 E4 E5 q0 q1 q2 q3 q4 q5 s0 s1 s2 s3 s4 s5 t0 t1 t2 t3 fg m5
      refine M5.out.mono ?_
      rintro e w8 ⟨rfl, b8⟩
      have B8 := hide (B7.out.trans (b8.mono B7.out.size))
      obtain ⟨s0, s1, s2, s3, s4, s5, -⟩ := six ((b8.block w.heap.size L7).trans Z7.out)
      clear b8 M5
      go_wp2
      go_ret
      exact ⟨rfl, B8.out⟩
  · have hb : ((chkP x).2 == 0) = false := by simpa using h0
    generalize (chkP x).2 = c at *
    generalize (chkP x).1 = c1 at *
    have hd : decide (c = 0) = false := decide_eq_false h0
    clear hg hp hx hcap hl HX hcA hcI hN
    generalize x.ty.length = tn at *
    generalize x.fi.length = fn at *
    generalize x.ins.length = in_ at *
    generalize x.outs.length = on_ at *
    go_enter Tryd.func4, Tryd.ntmps4
    go_wp2_with fail
    refine (m0.out _ (HB1.out _)).mono ?_
    rintro e w1 ⟨rfl, b1⟩
    have Q1 := hide ((b1.block w.heap.size (by simp)).trans (heap_alloc_new w _))
    have B1 := hide ((HB1.out _).trans (b1.mono (by simp)))
    have L1 : w.heap.size < w1.heap.size := by have := b1.size; simp at this; omega
    clear b1 m0
    obtain ⟨q0, q1, q2, q3, q4, q5, -⟩ := six Q1.out
    go_wp2_with fail
    refine (m1.out _ B1.out).mono ?_
    rintro e w2 ⟨rfl, b2⟩
    have B2 := hide (B1.out.trans (b2.mono B1.out.size))
    clear b2 m1 Q1 B1 L1 q0 q1 q2 q3 q4 q5
    go_wp2
    go_ret
    exact ⟨rfl, B2.out⟩
end Go.Proofs.YtmbgcpmapaedcaaDoor
