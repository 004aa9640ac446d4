/- typed: the fields of blocks; block.mayBe. | Which cells fit, plainly. | What Step answers, plainly. | block.mayBe. | block: the objects that step. | block: timers step. -/
import Derived.Test.YthifgfhgkdjkfabDoorMg6
import Derived.Deep.QuietTactic
import Derived.Test.YthifgfhgkdjkfabDoorMg2
import Derived.BigRegion
import Derived.BigQuiet
import Derived.Lib.QuietBelow
namespace Go.Proofs.YthifgfhgkdjkfabDoor
open Go.RowKit
/-- of each field its type, and whether it may be set -/
def fldK (k : Int) : List (Int × Bool) :=
  if k = 1 ∨ k = 2 ∨ k = 3 then [(1, true), (4, true), (1, false), (4, false), (4, false), (1, false)]
  else if k = 4 ∨ k = 5 then [(1, true), (1, true), (2, true), (1, false), (2, false), (1, false)]
  else if k = 6 ∨ k = 7 then [(1, true), (1, false), (1, false)]
  else if k = 8 ∨ k = 9 then [(1, true), (1, true), (1, false)]
  else if k = 10 then [(1, true), (1, true), (1, true), (3, false), (1, false), (2, false)] else []
theorem fldK_len (k : Int) : (fldK k).length ≤ 6 := by
  unfold fldK
  repeat' split
  all_goals decide
def FLst (w : World) (v : Value) (l : List (Int × Bool)) : Prop :=
  ∃ (a : Option Addr) (b cap : Nat), v = .slice a l.length cap ∧ (0 < l.length → b < w.heap.size ∧ a = some ⟨b, 0, none⟩) ∧
    ∀ i r, l[i]? = some r → ∃ s, w.cell? ⟨b, i * 3, none⟩ = some (.string s) ∧ w.cell? ⟨b, i * 3 + 1, none⟩ = some (.int .i64 r.1) ∧ w.cell? ⟨b, i * 3 + 2, none⟩ = some (.bool r.2)
theorem FLst.on {w w' : World} {v : Value} {l : List (Int × Bool)} (h : FLst w v l) (hb : Below w.heap.size w w') : FLst w' v l := by
  obtain ⟨a, b, cap, rfl, hb0, hI⟩ := h
  refine ⟨a, b, cap, rfl, fun h => ⟨by have := hb.size; have := (hb0 h).1; omega, (hb0 h).2⟩, fun i x hx => ?_⟩
  have hlt : b < w.heap.size := (hb0 (by have := (List.getElem?_eq_some_iff.1 hx).1; omega)).1
  obtain ⟨s, h1, h2, h3⟩ := hI i x hx
  exact ⟨s, (hb.cell (p := ⟨b, _, none⟩) hlt).trans h1, (hb.cell (p := ⟨b, _, none⟩) hlt).trans h2, (hb.cell (p := ⟨b, _, none⟩) hlt).trans h3⟩
/-- rows of cells that read so -/
def rowsOk : List Value → List (Int × Bool) → Prop
  | [], [] => True
  | .string _ :: .int .i64 t :: .bool b :: r, (t', b') :: l => t = t' ∧ b = b' ∧ rowsOk r l
  | _, _ => False
theorem rowsOk_get : ∀ (cs : List Value) (l : List (Int × Bool)), rowsOk cs l → ∀ i r, l[i]? = some r → ∃ s, cs[i * 3]? = some (.string s) ∧ cs[i * 3 + 1]? = some (.int .i64 r.1) ∧ cs[i * 3 + 2]? = some (.bool r.2)
  | [], [], _, i, r, h => by cases h
  | .string s :: .int .i64 t :: .bool b :: cs, (t', b') :: l, h, 0, r, hr => by
    obtain ⟨rfl, rfl, _⟩ := h
    obtain rfl := Option.some.inj (show some (t, b) = some r from hr)
    exact ⟨s, rfl, rfl, rfl⟩
  | .string s :: .int .i64 t :: .bool b :: cs, (t', b') :: l, h, i + 1, r, hr => by
    have := rowsOk_get cs l h.2.2 i r hr
    rw [show (i + 1) * 3 = i * 3 + 3 from by omega]
    exact this
theorem FLst.new (w : World) (l : List (Int × Bool)) (t n : Nat) (h : l.length = n) (cs : Array Value) (hc : rowsOk cs.toList l) : FLst (w.alloc (.cells cs t)) (.slice (some ⟨w.heap.size, 0, none⟩) n n) l := by
  subst h
  refine ⟨_, w.heap.size, _, rfl, fun _ => ⟨by simp, rfl⟩, fun i r hr => ?_⟩
  have key : ∀ j u, cs.toList[j]? = some u → (w.alloc (.cells cs t)).cell? ⟨w.heap.size, j, none⟩ = some u := fun j u hu => by
    rw [Lib.cell_of_heap (heap_alloc_new w _)]
    rw [Array.getElem?_toList] at hu
    exact hu
  obtain ⟨s, h1, h2, h3⟩ := rowsOk_get _ _ hc i r hr
  exact ⟨s, key _ _ h1, key _ _ h2, key _ _ h3⟩
def kindOk (k : Int) : Bool := decide (1 ≤ k) && decide (k ≤ 10)
theorem kindOk_iff (k : Int) : kindOk k = true ↔ 1 ≤ k ∧ k ≤ 10 := by unfold kindOk; simp
set_option maxRecDepth 100000 in
set_option maxHeartbeats 3200000 in
theorem fields_ok (k : Int) (h : 1 ≤ k ∧ k ≤ 10) (w : World) : Calls Tryd.prog 8 #[.int .i64 k] w fun e w' => (∃ v, e = .returned (.tuple #[v, .int .i64 0]) ∧ FLst w' v (fldK k)) ∧ Below w.heap.size w w' := by
  have hk : k = 1 ∨ k = 2 ∨ k = 3 ∨ k = 4 ∨ k = 5 ∨ k = 6 ∨ k = 7 ∨ k = 8 ∨ k = 9 ∨ k = 10 := by omega
  clear h
  rcases hk with rfl | rfl | rfl | rfl | rfl | rfl | rfl | rfl | rfl | rfl
  all_goals
    go_enter Tryd.func8, Tryd.ntmps8
    go_wp2
    go_ret2
    refine ⟨⟨_, rfl, ?_⟩, (Below.refl w.heap.size w).alloc (Nat.le_refl _) _⟩
    refine FLst.new w _ 43 _ ?_ _ ?_
    · rfl
    · simp [rowsOk, fldK]
set_option maxRecDepth 100000 in
set_option maxHeartbeats 3200000 in
theorem fields_no (k : Int) (h : ¬ (1 ≤ k ∧ k ≤ 10)) (w : World) : Calls Tryd.prog 8 #[.int .i64 k] w fun e w' => e = .returned (.tuple #[.slice none 0 0, .int .i64 92]) ∧ w' = w := by
  have h1 : (k == 1) = false := by rw [beq_eq_false_iff_ne]; omega
  have h2 : (k == 2) = false := by rw [beq_eq_false_iff_ne]; omega
  have h3 : (k == 3) = false := by rw [beq_eq_false_iff_ne]; omega
  have h4 : (k == 4) = false := by rw [beq_eq_false_iff_ne]; omega
  have h5 : (k == 5) = false := by rw [beq_eq_false_iff_ne]; omega
  have h6 : (k == 6) = false := by rw [beq_eq_false_iff_ne]; omega
  have h7 : (k == 7) = false := by rw [beq_eq_false_iff_ne]; omega
  have h8 : (k == 8) = false := by rw [beq_eq_false_iff_ne]; omega
  have h9 : (k == 9) = false := by rw [beq_eq_false_iff_ne]; omega
  have h10 : (k == 10) = false := by rw [beq_eq_false_iff_ne]; omega
  clear h
  go_enter Tryd.func8, Tryd.ntmps8
  go_wp2
  go_ret2
  exact ⟨rfl, rfl⟩
end Go.Proofs.YthifgfhgkdjkfabDoor
namespace Go.Proofs.YthifgfhgkdjkfabDoor
/-- which cells fit -/
def fitL (fl : List (Int × Bool)) (c : List Int) : Bool := (List.zipWith (fun f x => fitB f.1 x) fl c).all id
def nowOk (now : Int) : Bool := decide (0 ≤ now) && decide (now ≤ 2147483647)
def mayP (fl : List (Int × Bool)) (c : List Int) (now : Int) : Int := if c.length = fl.length then if fitL fl c then if nowOk now then 0 else 1 else 1 else 4
theorem fitL_no {fl : List (Int × Bool)} {c : List Int} {k : Nat} {f : Int × Bool} {x : Int} (hf : fl[k]? = some f) (hx : c[k]? = some x) (h : fitB f.1 x = false) : fitL fl c = false := by
  unfold fitL
  rw [List.all_eq_false]
  refine ⟨false, ?_, by decide⟩
  have : (List.zipWith (fun f x => fitB f.1 x) fl c)[k]? = some false := by rw [List.getElem?_zipWith, hf, hx, ← h]
  exact List.mem_of_getElem? this
theorem fitL_all {fl : List (Int × Bool)} {c : List Int} (h : ∀ (k : Nat) (f : Int × Bool) (x : Int), fl[k]? = some f → c[k]? = some x → fitB f.1 x = true) : fitL fl c = true := by
  unfold fitL
  rw [List.all_eq_true]
  intro b hb
  obtain ⟨k, hk⟩ := List.getElem?_of_mem hb
  rw [List.getElem?_zipWith] at hk
  cases hf : fl[k]? with
  | none => rw [hf] at hk; cases hk
  | some f =>
    cases hx : c[k]? with
    | none => rw [hf, hx] at hk; cases hk
    | some x =>
      rw [hf, hx] at hk
      have := h k f x hf hx
      simp only [Option.some.injEq] at hk
      rw [← hk, this]; rfl
end Go.Proofs.YthifgfhgkdjkfabDoor
namespace Go.Proofs.YthifgfhgkdjkfabDoor
def tmL (c : List Int) : Tm := ⟨c.getD 0 0 == 1, c.getD 1 0, c.getD 2 0 == 1, c.getD 3 0, c.getD 4 0, c.getD 5 0 == 1⟩
def cnL (c : List Int) : Cn := ⟨c.getD 0 0 == 1, c.getD 1 0 == 1, c.getD 2 0, c.getD 3 0 == 1, c.getD 4 0, c.getD 5 0 == 1⟩
def trL (c : List Int) : Tr := ⟨c.getD 0 0 == 1, c.getD 1 0 == 1, c.getD 2 0 == 1⟩
def cdL (c : List Int) : Cd := ⟨c.getD 0 0 == 1, c.getD 1 0 == 1, c.getD 2 0 == 1, c.getD 3 0, c.getD 4 0 == 1, c.getD 5 0⟩
def stepL (k : Int) (c : List Int) (now : Int) : List Int :=
  if k = 1 then (tonT now (tmL c)).ls else if k = 2 then (tofT now (tmL c)).ls else if k = 3 then (tpT now (tmL c)).ls
  else if k = 4 then (ctuT (cnL c)).ls else if k = 5 then (ctdT (cnL c)).ls
  else if k = 6 then (rT (trL c)).ls else if k = 7 then (fT (trL c)).ls else if k = 8 then (srT (trL c)).ls else if k = 9 then (rsT (trL c)).ls
  else (cdT (cdL c)).ls
/-- why Step refuses, or 0 -/
def stepE (k : Int) (c : List Int) (now : Int) : Int := if kindOk k then mayP (fldK k) c now else 92
theorem may_zero {fl : List (Int × Bool)} {c : List Int} {now : Int} : mayP fl c now = 0 ↔ c.length = fl.length ∧ fitL fl c = true ∧ nowOk now = true := by
  unfold mayP
  by_cases h1 : c.length = fl.length
  · rw [if_pos h1]
    cases fitL fl c
    · simp
    · cases nowOk now <;> simp [h1]
  · rw [if_neg h1]
    simp [h1]
theorem stepE_zero {k : Int} {c : List Int} {now : Int} : stepE k c now = 0 ↔ (1 ≤ k ∧ k ≤ 10) ∧ c.length = (fldK k).length ∧ fitL (fldK k) c = true ∧ nowOk now = true := by
  unfold stepE
  cases h : kindOk k
  · simp only [Bool.false_eq_true, if_false]
    constructor
    · intro h2; cases h2
    · intro h2; rw [(kindOk_iff k).2 h2.1] at h; cases h
  · simp only [if_true]
    rw [may_zero]
    constructor
    · intro h2; exact ⟨(kindOk_iff k).1 h, h2⟩
    · intro h2; exact h2.2
theorem now_fit {now : Int} (h : nowOk now = true) : fitB 4 now = true := by
  unfold nowOk at h
  rw [Bool.and_eq_true] at h
  have h1 := of_decide_eq_true h.1
  have h2 := of_decide_eq_true h.2
  rw [fit_span]
  simp [tyB]
  omega
theorem int_fit {x : Int} (h : fitB 2 x = true) : -32768 ≤ x ∧ x ≤ 32767 := by
  rw [fit_span] at h
  simp [tyB] at h
  omega
theorem six_of {c : List Int} (h : c.length = 6) : ∃ x0 x1 x2 x3 x4 x5, c = [x0, x1, x2, x3, x4, x5] := by
  match c, h with
  | [x0, x1, x2, x3, x4, x5], _ => exact ⟨x0, x1, x2, x3, x4, x5, rfl⟩
theorem three_of {c : List Int} (h : c.length = 3) : ∃ x0 x1 x2, c = [x0, x1, x2] := by
  match c, h with
  | [x0, x1, x2], _ => exact ⟨x0, x1, x2, rfl⟩
end Go.Proofs.YthifgfhgkdjkfabDoor
namespace Go.Proofs.YthifgfhgkdjkfabDoor
open Go.RowKit
set_option maxRecDepth 100000 in
set_option maxHeartbeats 1600000 in
theorem mayBe_any (fv : Value) (fl : List (Int × Bool)) (cv : Value) (c : List Int) (now : Int) (w : World) (hf : FLst w fv fl) (hc : ILst w cv c) (hg : Glo w) (h6 : fl.length ≤ 6) :
    Calls Tryd.prog 9 #[fv, cv, .int .i64 now] w fun e w' => e = .returned (.int .i64 (mayP fl c now)) ∧ Below w.heap.size w w' := by
  obtain ⟨fa, fb, fcap, rfl, hfA, hfI⟩ := hf
  obtain ⟨ca, cb, coff, ccap, rfl, hcA, hcI⟩ := hc
  have HG := hide hg
  have HFA := hide hfA
  have HFI := hide hfI
  have HCA := hide hcA
  have HCI := hide hcI
  clear hfA hfI hcA hcI hg
  by_cases hl : c.length = fl.length
  · have HM : Hid (mayP fl c now = if fitL fl c then if nowOk now then 0 else 1 else 1) := by show _ = _; unfold mayP; rw [if_pos hl]
    obtain ⟨n, hn⟩ : ∃ n, n = fl.length := ⟨_, rfl⟩
    rw [← hn] at h6 ⊢
    rw [hl, ← hn]
    have HN := hide hn
    have HN2 : Hid (n = c.length) := hn.trans hl.symm
    have n6 : (n : Int) ≤ 6 := by omega
    have n0 : (0 : Int) ≤ (n : Int) := by omega
    generalize mayP fl c now = M at *
    clear hn hl h6
    go_enter Tryd.func9, Tryd.ntmps9
    go_wp2_with fail
    go_loopw [7, 8, 16, 18, 19, 20, 21, 22, 23, 24, 25, 26, 27, 28] (fun _ _ i _ _ _ _ _ _ _ _ _ _ _ wr => ∃ k : Nat, k ≤ n ∧ i = .int .i64 (k : Int) ∧ Hid ((∀ j f x, j < k → fl[j]? = some f → c[j]? = some x → fitB f.1 x = true) ∧ Below w.heap.size w wr)) (fun _ _ i _ _ _ _ _ _ _ _ _ _ _ _ => n - (intOf i).toNat)
    case atStart => exact ⟨0, by omega, rfl, fun j _ _ hj => absurd hj (Nat.not_lt_zero _), Below.refl _ _⟩
    case round =>
      obtain ⟨k, hk, rfl, hh⟩ := hrel
      have HF := hide hh.out.1
      have HB := hide hh.out.2
      clear hh
      by_cases hlt : k < n
      · have j1 : (k : Int) < (n : Int) := by omega
        have j0 : (0 : Int) ≤ (k : Int) := by omega
        obtain ⟨f, hf⟩ : ∃ f, fl[k]? = some f := ⟨_, List.getElem?_eq_getElem (by rw [← HN.out]; exact hlt)⟩
        obtain ⟨x, hx⟩ : ∃ x, c[k]? = some x := ⟨_, List.getElem?_eq_getElem (by rw [← HN2.out]; exact hlt)⟩
        obtain ⟨hfb, rfl⟩ := HFA.out (by rw [← HN.out]; omega)
        obtain ⟨hcb, rfl⟩ := HCA.out (by rw [← HN2.out]; omega)
        obtain ⟨s, q0, q1, q2⟩ := HFI.out k f hf
        have c0 := (HB.out.cell (p := ⟨fb, k * 3, none⟩) hfb).trans q0
        have c1 := (HB.out.cell (p := ⟨fb, k * 3 + 1, none⟩) hfb).trans q1
        have c2 := (HB.out.cell (p := ⟨fb, k * 3 + 2, none⟩) hfb).trans q2
        have c3 := (HB.out.cell (p := ⟨cb, coff + k, none⟩) hcb).trans (HCI.out k x hx)
        have b1 : fb < wr.heap.size := Nat.lt_of_lt_of_le hfb HB.out.size
        have b2 : cb < wr.heap.size := Nat.lt_of_lt_of_le hcb HB.out.size
        have HFX := hide hf
        have HXX := hide hx
        clear q0 q1 q2 hf hx hfb hcb
        obtain ⟨t, b⟩ := f
        simp only [] at c1 c2
        have HB2 := hide (HB.out.alloc HB.out.size (.cells #[.string s, .int .i64 t, .bool b] 43))
        have mF : ∀ m, Calls Tryd.prog 13 #[.int .i64 t, .int .i64 x] ((wr.alloc (.cells #[.string s, .int .i64 t, .bool b] 43)).drewN m) fun e w' => e = .returned (.bool (fitB t x)) ∧ w' = (wr.alloc (.cells #[.string s, .int .i64 t, .bool b] 43)).drewN m := fun m => fits_any t x _ (HG.out.below (B := w.heap.size) (w' := (wr.alloc (.cells #[.string s, .int .i64 t, .bool b] 43)).drewN m) ⟨HB2.out.os, HB2.out.tape, HB2.out.output, HB2.out.size, HB2.out.block⟩ HG.out.lt)
        cases hfit : fitB t x
        · have HE : Hid (M = 1) := by
            show _ = _
            rw [HM.out, fitL_no HFX.out HXX.out hfit]; rfl
          rw [hfit] at mF
          go_wp2_with fail
          go_quiet (first | (go_at_call 13; exact Calls.quiet_of_same (mF _)))
          go_wp2
          go_ret
          exact ⟨by rw [HE.out]; rfl, ⟨HB2.out.os, HB2.out.tape, HB2.out.output, HB2.out.size, HB2.out.block⟩⟩
        · rw [hfit] at mF
          go_wp2_with fail
          go_quiet (first | (go_at_call 13; exact Calls.quiet_of_same (mF _)))
          go_wp2
          go_roundw
          case rel => exact ⟨k + 1, by omega, by go_num, fun j f' x' hj hf' hx' => (by
              rcases Nat.lt_or_eq_of_le (Nat.le_of_lt_succ hj) with h | rfl
              · exact HF.out j f' x' h hf' hx'
              · rw [HFX.out] at hf'; rw [HXX.out] at hx'
                obtain rfl := Option.some.inj hf'
                obtain rfl := Option.some.inj hx'
                exact hfit), ⟨HB2.out.os, HB2.out.tape, HB2.out.output, HB2.out.size, HB2.out.block⟩⟩
          case measure => simp [intOf]; omega
      · have j1 : ¬ (k : Int) < (n : Int) := by omega
        have HA : Hid (M = if nowOk now then 0 else 1) := by
          show _ = _
          rw [HM.out, fitL_all (fun j f x hf hx => HF.out j f x (by have := (List.getElem?_eq_some_iff.1 hf).1; rw [← HN.out] at this; omega) hf hx)]
          rfl
        clear HF HM
        by_cases h1 : now < 0
        · have HE : Hid (M = 1) := by show _ = _; rw [HA.out]; unfold nowOk; simp [show ¬ 0 ≤ now by omega]
          go_wp2
          go_ret
          exact ⟨by rw [HE.out]; rfl, HB.out⟩
        · by_cases h2 : 2147483647 < now
          · have HE : Hid (M = 1) := by show _ = _; rw [HA.out]; unfold nowOk; simp [show ¬ now ≤ 2147483647 by omega]
            go_wp2
            go_ret
            exact ⟨by rw [HE.out]; rfl, HB.out⟩
          · have HE : Hid (M = 0) := by show _ = _; rw [HA.out]; unfold nowOk; simp [show now ≤ 2147483647 by omega, show 0 ≤ now by omega]
            go_wp2
            go_ret
            exact ⟨by rw [HE.out]; rfl, HB.out⟩
  · have HM : Hid (mayP fl c now = 4) := by show _ = _; unfold mayP; rw [if_neg hl]
    have hl1 : ¬ (c.length : Int) = (fl.length : Int) := by omega
    generalize mayP fl c now = M at *
    have n6 : (fl.length : Int) ≤ 6 := by omega
    generalize hA : (c.length : Int) = A at *
    generalize hB : (fl.length : Int) = B at *
    go_enter Tryd.func9, Tryd.ntmps9
    go_wp2
    go_ret
    exact ⟨by rw [HM.out]; rfl, Below.refl _ _⟩
end Go.Proofs.YthifgfhgkdjkfabDoor
namespace Go.Proofs.YthifgfhgkdjkfabDoor
open Go.RowKit
set_option maxRecDepth 100000 in
set_option maxHeartbeats 1600000 in
theorem timerOf_any (b off cap : Nat) (x0 x1 x2 x3 x4 x5 : Int) (w : World) (c0 : w.cell? ⟨b, off, none⟩ = some (.int .i64 x0)) (c1 : w.cell? ⟨b, off + 1, none⟩ = some (.int .i64 x1)) (c2 : w.cell? ⟨b, off + 2, none⟩ = some (.int .i64 x2)) (c3 : w.cell? ⟨b, off + 3, none⟩ = some (.int .i64 x3)) (c4 : w.cell? ⟨b, off + 4, none⟩ = some (.int .i64 x4)) (c5 : w.cell? ⟨b, off + 5, none⟩ = some (.int .i64 x5)) :
    Calls Tryd.prog 16 #[.slice (some ⟨b, off, none⟩) 6 cap] w fun e w' => e = .returned (.agg #[.bool (x0 == 1), .int .i64 x1, .bool (x2 == 1), .int .i64 x3, .int .i64 x4, .bool (x5 == 1)]) ∧ Below w.heap.size w w' := by
  have hb : b < w.heap.size := World.block_lt_of_cell? w _ c0
  go_enter Tryd.func16, Tryd.ntmps16
  go_wp2
  go_region
  go_wp2
  exact bodyPost_ret (results_cell_row rfl _ _ w.heap.size 56 #[.bool (x0 == 1), .int .i64 x1, .bool (x2 == 1), .int .i64 x3, .int .i64 x4, .bool (x5 == 1)] (0, 0) _ rfl (heap_alloc_new _ _) Tryd.underlying56 rfl (by kernel_rfl)) rfl ⟨rfl, ((Below.refl _ _).alloc (Nat.le_refl _) _).drew⟩
set_option maxRecDepth 100000 in
set_option maxHeartbeats 1600000 in
theorem counterOf_any (b off cap : Nat) (x0 x1 x2 x3 x4 x5 : Int) (w : World) (c0 : w.cell? ⟨b, off, none⟩ = some (.int .i64 x0)) (c1 : w.cell? ⟨b, off + 1, none⟩ = some (.int .i64 x1)) (c2 : w.cell? ⟨b, off + 2, none⟩ = some (.int .i64 x2)) (c3 : w.cell? ⟨b, off + 3, none⟩ = some (.int .i64 x3)) (c4 : w.cell? ⟨b, off + 4, none⟩ = some (.int .i64 x4)) (c5 : w.cell? ⟨b, off + 5, none⟩ = some (.int .i64 x5)) :
    Calls Tryd.prog 17 #[.slice (some ⟨b, off, none⟩) 6 cap] w fun e w' => e = .returned (.agg #[.bool (x0 == 1), .bool (x1 == 1), .int .i64 x2, .bool (x3 == 1), .int .i64 x4, .bool (x5 == 1)]) ∧ Below w.heap.size w w' := by
  have hb : b < w.heap.size := World.block_lt_of_cell? w _ c0
  go_enter Tryd.func17, Tryd.ntmps17
  go_wp2
  go_region
  go_wp2
  exact bodyPost_ret (results_cell_row rfl _ _ w.heap.size 66 #[.bool (x0 == 1), .bool (x1 == 1), .int .i64 x2, .bool (x3 == 1), .int .i64 x4, .bool (x5 == 1)] (0, 0) _ rfl (heap_alloc_new _ _) Tryd.underlying66 rfl (by kernel_rfl)) rfl ⟨rfl, ((Below.refl _ _).alloc (Nat.le_refl _) _).drew⟩
set_option maxRecDepth 100000 in
set_option maxHeartbeats 1600000 in
theorem triggerOf_any (b off cap : Nat) (x0 x1 x2 : Int) (w : World) (c0 : w.cell? ⟨b, off, none⟩ = some (.int .i64 x0)) (c1 : w.cell? ⟨b, off + 1, none⟩ = some (.int .i64 x1)) (c2 : w.cell? ⟨b, off + 2, none⟩ = some (.int .i64 x2)) :
    Calls Tryd.prog 18 #[.slice (some ⟨b, off, none⟩) 3 cap] w fun e w' => e = .returned (.agg #[.bool (x0 == 1), .bool (x1 == 1), .bool (x2 == 1)]) ∧ Below w.heap.size w w' := by
  have hb : b < w.heap.size := World.block_lt_of_cell? w _ c0
  go_enter Tryd.func18, Tryd.ntmps18
  go_wp2
  go_region
  go_wp2
  exact bodyPost_ret (results_cell_row rfl _ _ w.heap.size 74 #[.bool (x0 == 1), .bool (x1 == 1), .bool (x2 == 1)] (0, 0) _ rfl (heap_alloc_new _ _) Tryd.underlying74 rfl (by kernel_rfl)) rfl ⟨rfl, ((Below.refl _ _).alloc (Nat.le_refl _) _).drew⟩
set_option maxRecDepth 100000 in
set_option maxHeartbeats 1600000 in
theorem latchOf_any (b off cap : Nat) (x0 x1 x2 : Int) (w : World) (c0 : w.cell? ⟨b, off, none⟩ = some (.int .i64 x0)) (c1 : w.cell? ⟨b, off + 1, none⟩ = some (.int .i64 x1)) (c2 : w.cell? ⟨b, off + 2, none⟩ = some (.int .i64 x2)) :
    Calls Tryd.prog 19 #[.slice (some ⟨b, off, none⟩) 3 cap] w fun e w' => e = .returned (.agg #[.bool (x0 == 1), .bool (x1 == 1), .bool (x2 == 1)]) ∧ Below w.heap.size w w' := by
  have hb : b < w.heap.size := World.block_lt_of_cell? w _ c0
  go_enter Tryd.func19, Tryd.ntmps19
  go_wp2
  go_region
  go_wp2
  exact bodyPost_ret (results_cell_row rfl _ _ w.heap.size 82 #[.bool (x0 == 1), .bool (x1 == 1), .bool (x2 == 1)] (0, 0) _ rfl (heap_alloc_new _ _) Tryd.underlying82 rfl (by kernel_rfl)) rfl ⟨rfl, ((Below.refl _ _).alloc (Nat.le_refl _) _).drew⟩
set_option maxRecDepth 100000 in
set_option maxHeartbeats 1600000 in
theorem coderOf_any (b off cap : Nat) (x0 x1 x2 x3 x4 x5 : Int) (w : World) (c0 : w.cell? ⟨b, off, none⟩ = some (.int .i64 x0)) (c1 : w.cell? ⟨b, off + 1, none⟩ = some (.int .i64 x1)) (c2 : w.cell? ⟨b, off + 2, none⟩ = some (.int .i64 x2)) (c3 : w.cell? ⟨b, off + 3, none⟩ = some (.int .i64 x3)) (c4 : w.cell? ⟨b, off + 4, none⟩ = some (.int .i64 x4)) (c5 : w.cell? ⟨b, off + 5, none⟩ = some (.int .i64 x5)) :
    Calls Tryd.prog 20 #[.slice (some ⟨b, off, none⟩) 6 cap] w fun e w' => e = .returned (.agg #[.bool (x0 == 1), .bool (x1 == 1), .bool (x2 == 1), .int .i64 x3, .bool (x4 == 1), .int .i64 x5]) ∧ Below w.heap.size w w' := by
  have hb : b < w.heap.size := World.block_lt_of_cell? w _ c0
  go_enter Tryd.func20, Tryd.ntmps20
  go_wp2
  go_region
  go_wp2
  exact bodyPost_ret (results_cell_row rfl _ _ w.heap.size 90 #[.bool (x0 == 1), .bool (x1 == 1), .bool (x2 == 1), .int .i64 x3, .bool (x4 == 1), .int .i64 x5] (0, 0) _ rfl (heap_alloc_new _ _) Tryd.underlying90 rfl (by kernel_rfl)) rfl ⟨rfl, ((Below.refl _ _).alloc (Nat.le_refl _) _).drew⟩
end Go.Proofs.YthifgfhgkdjkfabDoor
namespace Go.Proofs.YthifgfhgkdjkfabDoor
open Go.RowKit
set_option maxRecDepth 100000 in
set_option maxHeartbeats 1600000 in
theorem begin_any (g : Nat) (T : TypeId) (x0 x1 x2 x3 x4 x5 : Value) (now : Int) (w : World) (h : Ob w g T #[x0, x1, x2, x3, x4, x5]) : Calls Tryd.prog 36 #[.pointer (some ⟨g, 0, none⟩), .int .i64 now] w fun e w' => e = .returned (.tuple #[]) ∧ Ob w' g T #[x0, x1, x2, x3, .int .i64 now, .bool true] ∧ Below g w w' := by
  have c4 : w.cell? ⟨g, 4, none⟩ = some x4 := h.cell 4 rfl
  have c5 : w.cell? ⟨g, 5, none⟩ = some x5 := h.cell 5 rfl
  have f4 := h.fr 4
  have f5 := h.fr 5
  have HH : Hid (Ob ((w.setCell ⟨g, 4, none⟩ (.int .i64 now)).setCell ⟨g, 5, none⟩ (.bool true)) g T #[x0, x1, x2, x3, .int .i64 now, .bool true] ∧ Below g w ((w.setCell ⟨g, 4, none⟩ (.int .i64 now)).setCell ⟨g, 5, none⟩ (.bool true))) := ⟨(h.set 4 _ rfl).set 5 _ rfl, ((Below.refl g w).setCell (Nat.le_refl g) _).setCell (Nat.le_refl g) _⟩
  clear h
  go_enter Tryd.func36, Tryd.ntmps36
  go_wp2
  exact bodyPost_end (results_none rfl _ _ _) rfl ⟨rfl, HH.out⟩
set_option maxRecDepth 100000 in
set_option maxHeartbeats 1600000 in
theorem elapse_any (g : Nat) (T : TypeId) (x0 x2 x3 x5 : Value) (p s now : Int) (w : World) (hg : Glo w) (h1 : fitB 4 now = true) (h2 : fitB 4 s = true) (h : Ob w g T #[x0, .int .i64 p, x2, x3, .int .i64 s, x5]) : Calls Tryd.prog 40 #[.pointer (some ⟨g, 0, none⟩), .int .i64 now] w fun e w' => e = .returned (.bool (decide (p ≤ goneN now s))) ∧ Ob w' g T #[x0, .int .i64 p, x2, .int .i64 (min (goneN now s) p), .int .i64 s, x5] ∧ Below g w w' := by
  have m1 := two_any 2 4 now s w hg
  rw [gone_two h1 h2] at m1
  have c4 : w.cell? ⟨g, 4, none⟩ = some (.int .i64 s) := h.cell 4 rfl
  have HK : Hid (∀ w1, Below w.heap.size w w1 → Ob w1 g T #[x0, .int .i64 p, x2, x3, .int .i64 s, x5]) := fun w1 hb => h.on hb h.lt
  have HL := hide h.lt
  clear h1 h2 hg h
  generalize goneN now s = G at *
  by_cases h : p ≤ G
  · have e1 : min G p = p := Int.min_eq_right h
    rw [e1, decide_eq_true h]
    have e2 : ∀ (ts : Array TypeId) (t : TypeId) (W : World), (Builtin.min_ ts t #[.int .i64 G, .int .i64 p]).run Tryd.prog W = .ok (.int .i64 p) W := fun ts t W => by rw [run_min_int2]; exact congrArg (fun z => Result.ok (Value.int .i64 z) W) (by split <;> omega)
    clear e1
    have hd := decide_eq_true h
    clear h
    go_enter Tryd.func40, Tryd.ntmps40
    go_wp2_with (first | (go_at_call 41; refine m1.mono ?_; rintro e w1 ⟨rfl, hb1⟩; have HB := hide hb1; clear hb1; have d1 : w1.cell? ⟨g, 1, none⟩ = some (.int .i64 p) := (HK.out w1 HB.out).cell 1 rfl; have d3 : w1.cell? ⟨g, 3, none⟩ = some x3 := (HK.out w1 HB.out).cell 3 rfl; have d4 := (HK.out w1 HB.out).fr 3))
    go_ret
    exact ⟨by first | rfl | (show Ending.returned (.bool (decide (p ≤ G))) = _; rw [hd]), (HK.out w1 HB.out).set 3 _ rfl, (HB.out.mono (Nat.le_of_lt HL.out)).setCell (Nat.le_refl g) _⟩
  · have e1 : min G p = G := Int.min_eq_left (by omega)
    rw [e1, decide_eq_false h]
    have e2 : ∀ (ts : Array TypeId) (t : TypeId) (W : World), (Builtin.min_ ts t #[.int .i64 G, .int .i64 p]).run Tryd.prog W = .ok (.int .i64 G) W := fun ts t W => by rw [run_min_int2]; exact congrArg (fun z => Result.ok (Value.int .i64 z) W) (by split <;> omega)
    clear e1
    have hd := decide_eq_false h
    clear h
    go_enter Tryd.func40, Tryd.ntmps40
    go_wp2_with (first | (go_at_call 41; refine m1.mono ?_; rintro e w1 ⟨rfl, hb1⟩; have HB := hide hb1; clear hb1; have d1 : w1.cell? ⟨g, 1, none⟩ = some (.int .i64 p) := (HK.out w1 HB.out).cell 1 rfl; have d3 : w1.cell? ⟨g, 3, none⟩ = some x3 := (HK.out w1 HB.out).cell 3 rfl; have d4 := (HK.out w1 HB.out).fr 3))
    go_ret
    exact ⟨by first | rfl | (show Ending.returned (.bool (decide (p ≤ G))) = _; rw [hd]), (HK.out w1 HB.out).set 3 _ rfl, (HB.out.mono (Nat.le_of_lt HL.out)).setCell (Nat.le_refl g) _⟩
end Go.Proofs.YthifgfhgkdjkfabDoor
