/- block.settable; slices.Clone at int64s. | block.Run. | A slice of calls among the arguments, opened. | What a step leaves has at most six cells; a row's front. | A copy of numbers into a row of one's own. -/
import Derived.Test.YthifgfhgkdjkfabDoorMg14
import Derived.Test.YthifgfhgkdjkfabDoorMg7
import Derived.Test.YthifgfhgkdjkfabDoorMg13
import Derived.Laws.CopyOwn
import Derived.Test.YthifgfhgkdjkfabDoorMg2
import Derived.ChangeSame
namespace Go.Proofs.YthifgfhgkdjkfabDoor
open Go.RowKit
/-- how many of the fields may be set -/
def setN : List (Int × Bool) → Nat
  | [] => 0
  | (_, true) :: r => setN r + 1
  | (_, false) :: _ => 0
theorem setN_drop : ∀ (fl : List (Int × Bool)) (k : Nat), (∀ j f, j < k → fl[j]? = some f → f.2 = true) → k ≤ fl.length → setN fl = k + setN (fl.drop k)
  | fl, 0, _, _ => by rw [Nat.zero_add]; rfl
  | [], k + 1, _, h => by simp at h
  | (t, true) :: r, k + 1, h, hl => by
    rw [setN, setN_drop r k (fun j f hj hf => h (j + 1) f (by omega) hf) (by simpa using hl), List.drop_succ_cons]; omega
  | (t, false) :: r, k + 1, h, hl => by
    have := h 0 (t, false) (by omega) rfl
    cases this
set_option maxRecDepth 100000 in
set_option maxHeartbeats 1600000 in
theorem settable_any (fv : Value) (fl : List (Int × Bool)) (w : World) (hf : FLst w fv fl) (h6 : fl.length ≤ 6) : Calls Tryd.prog 10 #[fv] w fun e w' => e = .returned (.int .i64 ((setN fl : Nat) : Int)) ∧ w' = w := by
  obtain ⟨fa, fb, fcap, rfl, hfA, hfI⟩ := hf
  have HFA := hide hfA
  have HFI := hide hfI
  obtain ⟨n, hn⟩ : ∃ n, n = fl.length := ⟨_, rfl⟩
  rw [← hn] at h6 ⊢
  have HN := hide hn
  have n0 : (0 : Int) ≤ (n : Int) := by omega
  have n6 : (n : Int) ≤ 6 := by omega
  have HS : Hid (∀ k, (∀ j f, j < k → fl[j]? = some f → f.2 = true) → k ≤ n → (k = n ∨ ∃ t, fl[k]? = some (t, false)) → setN fl = k) := fun k h1 h2 h3 => by
    rw [setN_drop fl k h1 (by rw [← hn]; exact h2)]
    rcases h3 with rfl | ⟨t, ht⟩
    · rw [List.drop_eq_nil_of_le (by rw [hn]; exact Nat.le_refl _)]; rfl
    · obtain ⟨hk, e⟩ := List.getElem?_eq_some_iff.1 ht
      rw [List.drop_eq_getElem_cons hk, e]; rfl
  generalize setN fl = M at *
  clear hn hfA hfI
  go_enter Tryd.func10, Tryd.ntmps10
  go_wp2_with fail
  go_loopw [3] (fun i wr => ∃ k : Nat, k ≤ n ∧ i = .int .i64 (k : Int) ∧ Hid ((∀ j f, j < k → fl[j]? = some f → f.2 = true) ∧ wr = w)) (fun i _ => n - (intOf i).toNat)
  case atStart => exact ⟨0, by omega, rfl, fun j f hj => absurd hj (Nat.not_lt_zero _), rfl⟩
  case round =>
    obtain ⟨k, hk, rfl, hh⟩ := hrel
    obtain ⟨hA, rfl⟩ := hh.out
    have HA := hide hA
    clear hh hA
    by_cases hlt : k < n
    · have j1 : (k : Int) < (n : Int) := by omega
      have j0 : (0 : Int) ≤ (k : Int) := by omega
      obtain ⟨f, hf⟩ : ∃ f, fl[k]? = some f := ⟨_, List.getElem?_eq_getElem (by rw [← HN.out]; exact hlt)⟩
      obtain ⟨hfb, rfl⟩ := HFA.out (by rw [← HN.out]; omega)
      obtain ⟨s, q0, q1, q2⟩ := HFI.out k f hf
      obtain ⟨t, b⟩ := f
      simp only [] at q2
      have HF := hide hf
      clear q0 q1 hf
      cases b
      · have HE : Hid (M = k) := HS.out k HA.out hk (.inr ⟨t, HF.out⟩)
        go_wp2
        go_ret
        exact ⟨by rw [HE.out]; rfl, rfl⟩
      · go_wp2
        go_roundw
        case rel => exact ⟨k + 1, by omega, by go_num, fun j f' hj hf' => (by
            rcases Nat.lt_or_eq_of_le (Nat.le_of_lt_succ hj) with h | rfl
            · exact HA.out j f' h hf'
            · rw [HF.out] at hf'
              obtain rfl := Option.some.inj hf'
              rfl), by first | trivial | rfl⟩
        case measure => simp [intOf]; omega
    · have j1 : ¬ (k : Int) < (n : Int) := by omega
      have HE : Hid (M = k) := HS.out k HA.out hk (.inl (by omega))
      go_wp2
      go_ret
      exact ⟨by rw [HE.out]; rfl, rfl⟩
set_option maxRecDepth 100000 in
theorem nil_not (a : Addr) (n cap : Nat) (W : World) : (binOp .eql 22 (.slice (some a) n cap) (.slice none 0 0)).run Tryd.prog W = .ok (.bool false) W := by rfl
set_option maxRecDepth 100000 in
set_option maxHeartbeats 1600000 in
theorem clone_some (a : Addr) (n cap : Nat) (l : List Int) (hn0 : 0 < n) (hn : n = l.length) (w : World) (hL : ILst w (.slice (some a) n cap) l) (hlen : n ≤ 17592186043904) : Calls Tryd.prog 11 #[.slice (some a) n cap] w fun e w' => ∃ g c2, e = .returned (.slice (some ⟨g, 0, none⟩) n c2) ∧ Rw w' g l ∧ w.heap.size ≤ g ∧ Below w.heap.size w w' := by
  have HL := hide hL
  have HN := hide hn
  have HN0 := hide hn0
  have q1 := nil_not
  clear hL hn hn0
  go_enter Tryd.func11, Tryd.ntmps11
  go_wp2_with (first | (at_builtin; refine wpList_append_nums (by rfl) _ _ (by rfl) w.heap.size 0 _ _ (by rfl) (own_none2 _ _ (Nat.le_refl _)) _ l (by rfl) (HL.out.on (blw_alloc (Below.refl _ _) _)) (by rw [← HN.out]; omega) (by simp) ?_; intro v' w2 hown hgr; have HB2 := hide (below_app2 (blw_alloc (Below.refl _ _) (.cells #[] 2)) (by simp) (own_none2 _ _ (Nat.le_refl _)) hgr); have hw2 : ∃ g c2, v' = .slice (some ⟨g, 0, none⟩) n c2 ∧ w.heap.size ≤ g ∧ n ≤ c2 ∧ Rw w2 g l := (Rw.of_owns (n := n) (l := l) (by rw [← HN.out, Nat.zero_add] at hown; exact hown) HN0.out HN.out); obtain ⟨g, c2, rfl, hg2, hc2, hrw⟩ := hw2; have HG2 := hide hg2; have HR2 := hide hrw; clear hown hgr hg2 hrw hc2))
  go_ret
  exact ⟨g, c2, rfl, HR2.out, HG2.out, HB2.out⟩
end Go.Proofs.YthifgfhgkdjkfabDoor
namespace Go.Proofs.YthifgfhgkdjkfabDoor
open Go.RowKit
/-- a slice of calls -/
def CLst (w : World) (v : Value) (cl : List (Int × List Int)) : Prop :=
  ∃ a b off cap, v = .slice a cl.length cap ∧ (0 < cl.length → b < w.heap.size ∧ a = some ⟨b, off, none⟩) ∧
    ∀ i q, cl[i]? = some q → w.cell? ⟨b, off + i * 2, none⟩ = some (.int .i64 q.1) ∧ ∃ sv, w.cell? ⟨b, off + i * 2 + 1, none⟩ = some sv ∧ ILst w sv q.2
/-- the first cells set -/
def putL (ins c : List Int) : List Int := ins ++ c.drop ins.length
theorem putL_len {ins c : List Int} (h : ins.length ≤ c.length) : (putL ins c).length = c.length := by unfold putL; simp; omega
/-- what calls leave, or why they do not -/
def runP (k : Int) : List (Int × List Int) → List Int → List Int × Int
  | [], c => (c, 0)
  | (now, ins) :: r, c => if setN (fldK k) < ins.length then ([], 4) else if mayP (fldK k) (putL ins c) now = 0 then runP k r (stepL k (putL ins c) now) else ([], mayP (fldK k) (putL ins c) now)
theorem setN_le : ∀ fl : List (Int × Bool), setN fl ≤ fl.length
  | [] => Nat.le_refl _
  | (_, true) :: r => by rw [setN, List.length_cons]; have := setN_le r; omega
  | (_, false) :: r => by rw [setN]; omega
theorem Rw.splice {w : World} {g : Nat} {l ins : List Int} {cur : Array Value} (hl : ins.length ≤ l.length) (h1 : cur.toList.take l.length = intC l) (h2 : w.heap[g]? = some (.cells (Go.splice cur.toList 0 (intC ins)).toArray 2 (0, 0))) : Rw w g (putL ins l) := by
  refine ⟨_, h2, ?_⟩
  rw [putL_len hl]
  have hs : l.length ≤ cur.toList.length := by
    have := congrArg List.length h1
    rw [List.length_take, intC_length] at this
    omega
  refine List.ext_getElem? fun i => ?_
  by_cases hi : i < l.length
  · rw [List.getElem?_take_of_lt hi]
    unfold Go.splice putL
    simp only [List.take_zero, List.nil_append, Nat.zero_add]
    rw [intC_append]
    by_cases hj : i < ins.length
    · rw [List.getElem?_append_left (by rw [intC_length]; exact hj), List.getElem?_append_left (by rw [intC_length]; exact hj)]
    · rw [List.getElem?_append_right (by rw [intC_length]; omega), List.getElem?_append_right (by rw [intC_length]; omega), intC_length, List.getElem?_drop, intC_get, List.getElem?_drop, ← intC_get, ← h1, List.getElem?_take_of_lt (by omega)]
  · rw [List.getElem?_eq_none (by rw [List.length_take]; omega), List.getElem?_eq_none (by rw [intC_length, putL_len hl]; omega)]
end Go.Proofs.YthifgfhgkdjkfabDoor
namespace Go.Proofs.YthifgfhgkdjkfabDoor
open Go.ChangeShapes Go.WideShapes Go.ChangeAt Go.RowKit
theorem cells34 : Tryd.prog.cellsOf 40 = 2 := by kernel_rfl
theorem cells22 : Tryd.prog.cellsOf 22 = 1 := by kernel_rfl
theorem nl_shape {H : Type} {enc : TypeId × Value → H} {W : World} {fuel : Nat} {v : Value} {x : DataW H × List MemPlace} (h : DataW.trod enc Tryd.prog W 0 (fun _ => true) true fuel 22 [v] = some x) : ∃ a l c, v = .slice a l c := by
  rcases Deep.open_slice Tryd.underlying22 h with ⟨q, _⟩ | ⟨a', len', cap', m, n, D, Pl, q, _⟩
  · simp at q; exact ⟨_, _, _, q⟩
  · simp at q; exact ⟨_, _, _, q⟩
set_option maxRecDepth 100000 in
theorem open_cl {H : Type} {enc : TypeId × Value → H} {W : World} {fuel len cap : Nat} {a : Option Addr} {x : DataW H × List MemPlace} {cs : List Value} (h : DataW.trod enc Tryd.prog W 0 (fun _ => true) true fuel 23 cs = some x) (hcs0 : cs = [.slice a len cap]) :
    ∃ l : List (Int × List Int), CLst W (.slice a len cap) l ∧ len ≤ cap := by
  subst hcs0
  rcases Deep.open_slice Tryd.underlying23 h with ⟨hcs, rfl⟩ | ⟨a', len', cap', m, n, D, Pl, hcs, hb, hl, hm, hmm, rfl, hx⟩
  · simp at hcs
    obtain ⟨rfl, rfl, rfl⟩ := hcs
    exact ⟨[], ⟨none, 0, 0, 0, rfl, fun h => absurd h (Nat.lt_irrefl 0), fun i x hx => by cases hx⟩, Nat.le_refl _⟩
  · simp at hcs
    obtain ⟨rfl, rfl, rfl⟩ := hcs
    simp only [if_true] at hmm
    subst hmm
    rw [cells34] at hx
    have each : ∀ i, i < len → ∃ y : Int × List Int, W.cell? (a'.add (i * 2)) = some (.int .i64 y.1) ∧ ∃ sv, W.cell? (a'.add (i * 2 + 1)) = some sv ∧ ILst W sv y.2 := fun i hi => by
      obtain ⟨cs', h1, h2⟩ := hx i (by omega)
      obtain ⟨_, hlen, hcell⟩ := World.cells?_some h1
      obtain ⟨y0, y1, k, hxy, _, g0, g1⟩ := trod_struct2 Tryd.underlying40 h2
      obtain ⟨v0, v1, rfl⟩ : ∃ v0 v1, cs' = [v0, v1] := by
        match cs', hlen with
        | [v0, v1], _ => exact ⟨v0, v1, rfl⟩
      have g0' : DataW.trod enc Tryd.prog W 0 (fun _ => true) true k 2 [v0] = some y0 := by simpa [cells2] using g0
      have g1' : DataW.trod enc Tryd.prog W 0 (fun _ => true) true k 22 [v1] = some y1 := by simpa [cells22] using g1
      obtain ⟨n0, e0, _, w0⟩ := DataW.trod_int Tryd.underlying2 g0'
      obtain ⟨aa, ll, cc, rfl⟩ := nl_shape g1'
      obtain ⟨l1, p1, _, L1, _⟩ := open_nl g1' rfl
      have d0 := hcell 0 (by omega)
      have d1 := hcell 1 (by omega)
      rw [Deep.add_add] at d0 d1
      injection e0 with e0
      subst e0
      exact ⟨(n0, l1), d0, _, d1, L1⟩
    obtain ⟨f, hf⟩ := @Deep.choose_lt (Int × List Int) ⟨(0, [])⟩ _ _ each
    refine ⟨(List.range len).map f, ?_, hl⟩
    by_cases hl0 : len = 0
    · subst hl0
      exact ⟨some a', 0, 0, m, rfl, fun h => absurd h (Nat.lt_irrefl 0), fun i x hx => by cases hx⟩
    · obtain ⟨b, off, spot⟩ := a'
      have hspot : spot = none := by simpa [Addr.add] using World.cell?_spot (hf 0 (by omega)).1
      subst hspot
      have hbW : b < W.heap.size := World.block_lt_of_cell? W _ (by have := (hf 0 (by omega)).1; rwa [add_at] at this)
      refine ⟨some ⟨b, off, none⟩, b, off, m, by simp, fun _ => ⟨hbW, rfl⟩, fun i y hy => ?_⟩
      have hi : i < len := by have := (List.getElem?_eq_some_iff.1 hy).1; simpa using this
      have hfy : f i = y := by simpa [hi] using hy
      obtain ⟨q0, sv, q1, q2⟩ := hf i hi
      rw [add_at] at q0 q1
      rw [hfy] at q0 q2
      exact ⟨q0, sv, q1, q2⟩
end Go.Proofs.YthifgfhgkdjkfabDoor
namespace Go.Proofs.YthifgfhgkdjkfabDoor
open Go.RowKit
theorem stepL_len (k : Int) (c : List Int) (now : Int) : (stepL k c now).length ≤ 6 := by
  unfold stepL
  repeat' split
  all_goals exact (by simp [Tm.ls, Cn.ls, Tr.ls, Cd.ls])
theorem Rw.front {w : World} {g : Nat} {l m : List Int} (h : Rw w g (l ++ m)) (cap : Nat) : ILst w (.slice (some ⟨g, 0, none⟩) l.length cap) l := by
  refine ⟨_, g, 0, cap, rfl, fun _ => ⟨h.lt, rfl⟩, fun i x hx => ?_⟩
  rw [Nat.zero_add]
  exact h.cell i (by rw [List.getElem?_append_left (List.getElem?_eq_some_iff.1 hx).1]; exact hx)
end Go.Proofs.YthifgfhgkdjkfabDoor
namespace Go.Proofs.YthifgfhgkdjkfabDoor
open Go.RowKit
/-- all blocks but one stay -/
structure But (g : Nat) (w w' : World) : Prop where
  os : w'.os = w.os
  tape : w'.tape = w.tape
  output : w'.output = w.output
  size : w'.heap.size = w.heap.size
  block : ∀ b, b ≠ g → w'.heap[b]? = w.heap[b]?
theorem But.below {g B : Nat} {w w' : World} (h : But g w w') (hB : B ≤ g) : Below B w w' := ⟨h.os, h.tape, h.output, Nat.le_of_eq h.size.symm, fun k hk => h.block k (by omega)⟩
theorem But.cell {g b i : Nat} {w w' : World} (h : But g w w') (hb : b ≠ g) : w'.cell? ⟨b, i, none⟩ = w.cell? ⟨b, i, none⟩ := World.cell?_of_block (h.block b hb)
theorem hsz2 : (Tryd.prog.info? 2).map (·.size) = some 1 := by kernel_rfl
theorem wpList_copy_nums {w : World} {ops : Array Oper} {rest : List Oper} {o : Oper} {a : Act} {Q : Exit → Act → World → Prop} (hgd : o.guard = none) (d s : Operand)
    (ho : o.op = .call { callee := .builtin .copy, args := #[d, s], argTypes := #[22, 22] }) (g n cap : Nat) (sv : Value) (c ins : List Int) (hd : a.eval d = .slice (some ⟨g, 0, none⟩) n cap) (hs : a.eval s = sv)
    (hr : Rw w g c) (hc : c.length = n) (hI : ILst w sv ins) (hl : ins.length ≤ n)
    (h : ∀ w', Rw w' g (putL ins c) → But g w w' → wpList Tryd.prog ops Q rest (a.put o.dst (goInt ins.length)) w') : wpList Tryd.prog ops Q (o :: rest) a w := by
  obtain ⟨cur, hcur, htake⟩ := hr
  obtain ⟨sa, sb, soff, scap, rfl, hA, hI2⟩ := hI
  have hcs : c.length ≤ cur.size := by
    have := congrArg List.length htake
    rw [List.length_take, intC_length] at this
    rw [← Array.length_toList]
    omega
  by_cases h0 : ins.length = 0
  · have e0 : ins = [] := List.eq_nil_of_length_eq_zero h0
    refine wpList_copy_nothing hgd d s 22 22 ho 2 Tryd.underlying22 hsz2 _ _ n cap ins.length scap hd hs (by rw [h0]; simp) ?_
    have := h w (by rw [e0]; exact ⟨cur, hcur, htake⟩) ⟨rfl, rfl, rfl, rfl, fun _ _ => rfl⟩
    rw [h0] at this
    exact this
  · obtain ⟨hsb, rfl⟩ := hA (by omega)
    have hw := wpList_copy_own (P := Tryd.prog) (w := w) (ops := ops) (rest := rest) (Q := Q) hgd d s 22 22 ho 2 Tryd.underlying22 hsz2 g 0 n cap ⟨sb, soff, none⟩ ins.length scap hd hs cur 2 hcur (intC ins) (by rw [intC_length]; exact (Nat.min_eq_left hl).symm) (fun j v hv => by
      rw [intC_get] at hv
      cases hy : ins[j]? with
      | none => rw [hy] at hv; cases hv
      | some y =>
        rw [hy] at hv
        obtain rfl := Option.some.inj hv
        rw [addr_at]
        exact hI2 j y hy) (by rw [intC_length]; omega) (intC_one ins)
    refine hw ?_
    rw [intC_length]
    refine h _ ?_ ⟨rfl, rfl, rfl, by simp [World.setRow], fun b hb => setRow_other w g b _ hb⟩
    exact Rw.splice (cur := cur) (by omega) htake (by
      have := setRow_heap w g cur (cur.toList.take 0 ++ (intC ins ++ cur.toList.drop (0 + ins.length))).toArray 2 (0, 0) hcur
      unfold Go.splice
      rw [intC_length]
      exact this)
theorem stepL_len' {k : Int} (hk : 1 ≤ k ∧ k ≤ 10) (c : List Int) (now : Int) : (stepL k c now).length = (fldK k).length := by
  obtain rfl | rfl | rfl | rfl | rfl | rfl | rfl | rfl | rfl | rfl : k = 1 ∨ k = 2 ∨ k = 3 ∨ k = 4 ∨ k = 5 ∨ k = 6 ∨ k = 7 ∨ k = 8 ∨ k = 9 ∨ k = 10 := by omega
  all_goals rfl
end Go.Proofs.YthifgfhgkdjkfabDoor
