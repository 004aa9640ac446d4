/- Slices of ints that read as a list; the contracts of Count, the program's and the document's. | Slices of ints among the arguments, opened. | The contract of quad.Walk. -/
import Derived.Test.YthifgfhgkdjkfaaDoorMg2
import Derived.OwnWalk
import Derived.Deep.DeepAppendWide
import Derived.Deep.QuietTactic
import Derived.BigQuiet
import Derived.Deep.DeepMust
import Derived.Test.YthifgfhgkdjkfaaDoorMg1
import Derived.Deep.Slices
import Derived.LaidLaws
import Derived.SizedLaws
namespace Go.Proofs.YthifgfhgkdjkfaaDoor
open Go.RowKit
attribute [local go_sem] run_store_complex run_store_float unary_neg_float
def intC (l : List Int) : List Value := l.map fun x => .int .i64 x
theorem intC_length (l : List Int) : (intC l).length = l.length := by rw [intC, List.length_map]
theorem intC_append (a b : List Int) : intC (a ++ b) = intC a ++ intC b := List.map_append
theorem intC_get (l : List Int) (i : Nat) : (intC l)[i]? = (l[i]?).map fun x => .int .i64 x := by rw [intC, List.getElem?_map]
theorem intC_one (l : List Int) : ∀ u ∈ intC l, u.oneCell' = true := fun u hu => by
  obtain ⟨d, _, rfl⟩ := List.mem_map.1 hu; rfl
/-- a slice that reads as a list -/
def ILst (w : World) (v : Value) (l : List Int) : Prop :=
  ∃ a b off cap, v = .slice a l.length cap ∧ (0 < l.length → b < w.heap.size ∧ a = some ⟨b, off, none⟩) ∧ ∀ i x, l[i]? = some x → w.cell? ⟨b, off + i, none⟩ = some (.int .i64 x)
theorem ILst.on {w w' : World} {v : Value} {l : List Int} (h : ILst w v l) (hb : Below w.heap.size w w') : ILst w' v l := by
  obtain ⟨a, b, off, cap, rfl, hA, hI⟩ := h
  refine ⟨a, b, off, cap, rfl, fun h => ⟨Nat.lt_of_lt_of_le (hA h).1 hb.size, (hA h).2⟩, fun i x hx => ?_⟩
  have hlt : b < w.heap.size := (hA (Nat.lt_of_le_of_lt (Nat.zero_le _) (List.getElem?_eq_some_iff.1 hx).1)).1
  exact (hb.cell (p := ⟨b, off + i, none⟩) hlt).trans (hI i x hx)
theorem ILst.nil (w : World) (c : Nat) : ILst w (.slice none 0 c) [] := ⟨none, 0, 0, c, rfl, fun h => absurd h (Nat.lt_irrefl 0), fun i x hx => by cases hx⟩
theorem ILst.of_owns {w : World} {base : Nat} {v : Value} {l : List Int} (h : w.ownsRow base 3 1 v l.length (intC l)) : ILst w v l := by
  rcases h.2 with ⟨hv, h0⟩ | ⟨g, cap, cur, hv, hb, hg, hn, hm, hc, ht⟩
  · obtain rfl := List.eq_nil_of_length_eq_zero h0
    subst hv
    exact ILst.nil w 0
  · subst hv
    refine ⟨_, g, 0, cap, rfl, fun _ => ⟨?_, rfl⟩, fun i x hx => ?_⟩
    · exact (Array.getElem?_eq_some_iff.1 hg).1
    · have hi : i < l.length := (List.getElem?_eq_some_iff.1 hx).1
      rw [Nat.zero_add, h.cellAt i (by omega), intC_get, hx]; rfl
theorem ILst.shape {w : World} {v : Value} {l : List Int} (h : ILst w v l) : ∃ a cap, v = .slice a l.length cap := by
  obtain ⟨a, b, off, cap, rfl, _⟩ := h
  exact ⟨a, cap, rfl⟩
/-- the places of a list, and the sum of the steps between the first k of them, and how often it jumped -/
def gt (l : List Int) (k : Nat) : Nat := (l.getD k 0).toNat
def sS (l : List Int) : Nat → Int
  | 0 => 0
  | 1 => 0
  | k + 2 => sS l (k + 1) + stp (gt l k) (gt l (k + 1))
def sJ (l : List Int) : Nat → Nat
  | 0 => 0
  | 1 => 0
  | k + 2 => sJ l (k + 1) + (if jmp (gt l k) (gt l (k + 1)) then 1 else 0)
theorem stp_in (m n : Nat) : -1 ≤ stp m n ∧ stp m n ≤ 1 := by unfold stp; repeat' split
                                                              all_goals omega
theorem sS_in (l : List Int) : ∀ k : Nat, -(k : Int) ≤ sS l k ∧ sS l k ≤ (k : Int)
  | 0 => by rw [sS]; omega
  | 1 => by rw [sS]; omega
  | k + 2 => by
    have h := sS_in l (k + 1)
    have h2 := stp_in (gt l k) (gt l (k + 1))
    rw [sS]
    omega
theorem sJ_in (l : List Int) : ∀ k : Nat, sJ l k ≤ k
  | 0 => by rw [sJ]; omega
  | 1 => by rw [sJ]; omega
  | k + 2 => by
    have h := sJ_in l (k + 1)
    rw [sJ]
    split <;> omega
theorem gt_at {l : List Int} {k : Nat} {x : Int} (h : l[k]? = some x) : gt l k = x.toNat := by unfold gt; rw [List.getD_eq_getElem?_getD, h]; rfl
/-- what Count answers -/
def cntV (l : List Int) : Int × Int × Int := if l.all isP then (sS l l.length, (sJ l l.length : Int), 0) else (0, 0, 1)
theorem all_take {l : List Int} {k : Nat} {x : Int} (h : (l.take k).all isP = true) (hx : l[k]? = some x) (h2 : isP x = true) : (l.take (k + 1)).all isP = true := by
  obtain ⟨hk, rfl⟩ := List.getElem?_eq_some_iff.1 hx
  rw [List.take_succ_eq_append_getElem hk, List.all_append, h, Bool.true_and, List.all_cons, h2]; rfl
theorem all_no {l : List Int} {k : Nat} {x : Int} (hx : l[k]? = some x) (h2 : isP x = false) : l.all isP = false := by
  rw [List.all_eq_false]
  exact ⟨x, List.mem_of_getElem? hx, by rw [h2]; decide⟩
end Go.Proofs.YthifgfhgkdjkfaaDoor
namespace Go.Proofs.YthifgfhgkdjkfaaDoor
open Go.ChangeShapes Go.WideShapes Go.ChangeAt Go.RowKit
theorem laidOut : laidOutB Tryd.prog = true := by kernel_rfl
theorem cells3 : Tryd.prog.cellsOf 3 = 1 := by kernel_rfl
theorem bytes3 : Tryd.prog.bytesOf 3 = 8 := by kernel_rfl
theorem bytes2 : Tryd.prog.bytesOf 2 = 8 := by kernel_rfl
theorem add_at (b off j : Nat) : (⟨b, off, none⟩ : Addr).add j = ⟨b, off + j, none⟩ := by unfold Addr.add; split <;> simp_all
theorem wf_int {n : Int} (hw : (Lit.int .i64 n).wf = true) : -9223372036854775808 ≤ n ∧ n ≤ 9223372036854775807 := by
  have h : (decide (IntKind.i64.min ≤ n) && decide (n ≤ IntKind.i64.max)) = true := hw
  rw [Bool.and_eq_true] at h
  exact ⟨of_decide_eq_true h.1, of_decide_eq_true h.2⟩
theorem open_il {H : Type} {enc : TypeId × Value → H} {W : World} {fuel len cap : Nat} {a : Option Addr} {x : DataW H × List MemPlace} {cs : List Value} (h : DataW.trod enc Tryd.prog W 0 (fun _ => true) true fuel 41 cs = some x) (hcs0 : cs = [.slice a len cap]) :
    ∃ l : List Int, l.length = len ∧ len ≤ cap ∧ ILst W (.slice a len cap) l ∧ (∀ y ∈ l, -9223372036854775808 ≤ y ∧ y ≤ 9223372036854775807) ∧ ((x.1 = .nil ∧ len = 0) ∨ ∃ el sp, x.1 = .slice el sp ∧ el = l.map fun y => .lit (.int .i64 y)) := by
  subst hcs0
  rcases Deep.open_slice Tryd.underlying41 h with ⟨hcs, rfl⟩ | ⟨a', len', cap', m, n, D, Pl, hcs, hb, hl, hm, hmm, rfl, hx⟩
  · simp at hcs
    obtain ⟨rfl, rfl, rfl⟩ := hcs
    exact ⟨[], rfl, Nat.le_refl _, ILst.nil _ _, fun y hy => (by cases hy), .inl ⟨rfl, rfl⟩⟩
  · simp at hcs
    obtain ⟨rfl, rfl, rfl⟩ := hcs
    simp only [if_true] at hmm
    subst hmm
    rw [cells3] at hx
    have each : ∀ i, i < len → ∃ y : Int, W.cell? (a'.add (i * 1)) = some (.int .i64 y) ∧ (-9223372036854775808 ≤ y ∧ y ≤ 9223372036854775807) ∧ D i = .lit (.int .i64 y) := fun i hi => by
      obtain ⟨cs', h1, h2⟩ := hx i (by omega)
      obtain ⟨_, hlen, hcell⟩ := World.cells?_some h1
      obtain ⟨v0, rfl⟩ : ∃ v0, cs' = [v0] := by
        match cs', hlen with
        | [v0], _ => exact ⟨v0, rfl⟩
      obtain ⟨z0, e0, E0, hw⟩ := DataW.trod_int Tryd.underlying3 h2
      have d0 := hcell 0 (by omega)
      rw [Deep.add_add] at d0
      injection e0 with e0
      subst e0
      exact ⟨z0, d0, wf_int hw, congrArg Prod.fst E0⟩
    obtain ⟨f, hf⟩ := @Deep.choose_lt Int ⟨0⟩ _ _ each
    refine ⟨(List.range len).map f, by simp, hl, ?_, ?_, .inr ⟨_, _, rfl, ?_⟩⟩
    · by_cases hl0 : len = 0
      · subst hl0
        exact ⟨some a', 0, 0, m, rfl, fun h => absurd h (Nat.lt_irrefl 0), fun i x hx => by cases hx⟩
      · obtain ⟨b, off, spot⟩ := a'
        have hspot : spot = none := by simpa [Addr.add] using World.cell?_spot (hf 0 (by omega)).1
        subst hspot
        have hbW : b < W.heap.size := World.block_lt_of_cell? W _ (by have := (hf 0 (by omega)).1; rwa [add_at] at this)
        refine ⟨some ⟨b, off, none⟩, b, off, m, by simp, fun _ => ⟨hbW, rfl⟩, fun i y hy => ?_⟩
        have hi : i < len := by have := (List.getElem?_eq_some_iff.1 hy).1; simpa using this
        have hfy : f i = y := by simpa [hi] using hy
        have q0 := (hf i hi).1
        rw [add_at, Nat.mul_one, hfy] at q0
        exact q0
    · intro y hy
      obtain ⟨i, hi, rfl⟩ := List.mem_map.1 hy
      exact (hf i (List.mem_range.1 hi)).2.1
    · rw [List.map_map]
      exact List.map_congr_left fun i hi => (hf i (List.mem_range.1 hi)).2.2
theorem open_nl {H : Type} {enc : TypeId × Value → H} {W : World} {fuel len cap : Nat} {a : Option Addr} {x : DataW H × List MemPlace} {cs : List Value} (h : DataW.trod enc Tryd.prog W 0 (fun _ => true) true fuel 22 cs = some x) (hcs0 : cs = [.slice a len cap]) :
    ∃ l : List Int, l.length = len ∧ len ≤ cap ∧ ILst W (.slice a len cap) l ∧ (∀ y ∈ l, -9223372036854775808 ≤ y ∧ y ≤ 9223372036854775807) ∧ ((x.1 = .nil ∧ len = 0) ∨ ∃ el sp, x.1 = .slice el sp ∧ el = l.map fun y => .lit (.int .i64 y)) := by
  subst hcs0
  rcases Deep.open_slice Tryd.underlying22 h with ⟨hcs, rfl⟩ | ⟨a', len', cap', m, n, D, Pl, hcs, hb, hl, hm, hmm, rfl, hx⟩
  · simp at hcs
    obtain ⟨rfl, rfl, rfl⟩ := hcs
    exact ⟨[], rfl, Nat.le_refl _, ILst.nil _ _, fun y hy => (by cases hy), .inl ⟨rfl, rfl⟩⟩
  · simp at hcs
    obtain ⟨rfl, rfl, rfl⟩ := hcs
    simp only [if_true] at hmm
    subst hmm
    rw [cells2] at hx
    have each : ∀ i, i < len → ∃ y : Int, W.cell? (a'.add (i * 1)) = some (.int .i64 y) ∧ (-9223372036854775808 ≤ y ∧ y ≤ 9223372036854775807) ∧ D i = .lit (.int .i64 y) := fun i hi => by
      obtain ⟨cs', h1, h2⟩ := hx i (by omega)
      obtain ⟨_, hlen, hcell⟩ := World.cells?_some h1
      obtain ⟨v0, rfl⟩ : ∃ v0, cs' = [v0] := by
        match cs', hlen with
        | [v0], _ => exact ⟨v0, rfl⟩
      obtain ⟨z0, e0, E0, hw⟩ := DataW.trod_int Tryd.underlying2 h2
      have d0 := hcell 0 (by omega)
      rw [Deep.add_add] at d0
      injection e0 with e0
      subst e0
      exact ⟨z0, d0, wf_int hw, congrArg Prod.fst E0⟩
    obtain ⟨f, hf⟩ := @Deep.choose_lt Int ⟨0⟩ _ _ each
    refine ⟨(List.range len).map f, by simp, hl, ?_, ?_, .inr ⟨_, _, rfl, ?_⟩⟩
    · by_cases hl0 : len = 0
      · subst hl0
        exact ⟨some a', 0, 0, m, rfl, fun h => absurd h (Nat.lt_irrefl 0), fun i x hx => by cases hx⟩
      · obtain ⟨b, off, spot⟩ := a'
        have hspot : spot = none := by simpa [Addr.add] using World.cell?_spot (hf 0 (by omega)).1
        subst hspot
        have hbW : b < W.heap.size := World.block_lt_of_cell? W _ (by have := (hf 0 (by omega)).1; rwa [add_at] at this)
        refine ⟨some ⟨b, off, none⟩, b, off, m, by simp, fun _ => ⟨hbW, rfl⟩, fun i y hy => ?_⟩
        have hi : i < len := by have := (List.getElem?_eq_some_iff.1 hy).1; simpa using this
        have hfy : f i = y := by simpa [hi] using hy
        have q0 := (hf i hi).1
        rw [add_at, Nat.mul_one, hfy] at q0
        exact q0
    · intro y hy
      obtain ⟨i, hi, rfl⟩ := List.mem_map.1 hy
      exact (hf i (List.mem_range.1 hi)).2.1
    · rw [List.map_map]
      exact List.map_congr_left fun i hi => (hf i (List.mem_range.1 hi)).2.2
end Go.Proofs.YthifgfhgkdjkfaaDoor
namespace Go.Proofs.YthifgfhgkdjkfaaDoor
open Go.RowKit
/-- is a number a step? -/
def isS (n : Int) : Bool := decide (-1 ≤ n) && decide (n ≤ 1)
theorem isS_iff (n : Int) : isS n = true ↔ n = 0 ∨ n = 1 ∨ n = -1 := by unfold isS; simp; omega
/-- where a walk is behind k steps -/
def wlk (f : Nat) (l : List Int) : Nat → Nat
  | 0 => f
  | k + 1 => (((wlk f l k : Int) + l.getD k 0 + 4) % 4).toNat
def walkL (f : Nat) (l : List Int) : List Int := (List.range l.length).map fun k => ((wlk f l (k + 1) : Nat) : Int)
theorem walkL_length (f : Nat) (l : List Int) : (walkL f l).length = l.length := by unfold walkL; simp
def resL (f : Nat) (l : List Int) (k : Nat) : List Int := (List.range l.length).map fun j => if j < k then ((wlk f l (j + 1) : Nat) : Int) else 0
theorem resL_length (f : Nat) (l : List Int) (k : Nat) : (resL f l k).length = l.length := by unfold resL; simp
theorem resL_end (f : Nat) (l : List Int) : resL f l l.length = walkL f l := by
  unfold resL walkL
  refine List.map_congr_left fun j hj => ?_
  rw [if_pos (List.mem_range.1 hj)]
theorem resL_zero (f : Nat) (l : List Int) : resL f l 0 = List.replicate l.length 0 := by
  unfold resL
  refine List.ext_getElem (by simp) fun i h1 h2 => ?_
  simp
theorem resL_set (f : Nat) (l : List Int) (k : Nat) : (intC (resL f l k)).set k (.int .i64 ((wlk f l (k + 1) : Nat) : Int)) = intC (resL f l (k + 1)) := by
  refine List.ext_getElem? fun i => ?_
  rw [List.getElem?_set, intC_get, intC_get, intC_length, resL_length]
  unfold resL
  rw [List.getElem?_map, List.getElem?_map]
  by_cases hi : i < l.length
  · rw [List.getElem?_range hi]
    by_cases e : k = i
    · subst e
      simp [hi]
    · rw [if_neg e]
      simp only [Option.map_some]
      by_cases h : i < k
      · rw [if_pos h, if_pos (by omega)]
      · rw [if_neg h, if_neg (by omega)]
  · rw [List.getElem?_eq_none (by simp; omega)]
    by_cases e : k = i
    · subst e; simp [hi]
    · rw [if_neg e]; rfl
theorem own_on {w w' : World} {base e size n : Nat} {v : Value} {xs : List Value} (h : w.ownsRow base e size v n xs) (hb : Below w.heap.size w w') : w'.ownsRow base e size v n xs := by
  refine ⟨h.1, ?_⟩
  rcases h.2 with hn | ⟨g, cap, cur, rfl, hb', hg, rest⟩
  · exact .inl hn
  · exact .inr ⟨g, cap, cur, rfl, hb', (hb.block g (Array.getElem?_eq_some_iff.1 hg).1).trans hg, rest⟩
/-- is it a walk? -/
def okW (f : Int) (l : List Int) : Bool := isP f && l.all isS
def WalkPost (f : Int) (l : List Int) (w : World) (e : Ending) (w' : World) : Prop :=
  ∃ v, e = .returned (.tuple #[v, .int .i64 (if okW f l then 0 else 1)]) ∧ ILst w' v (if okW f l then walkL f.toNat l else []) ∧ Below w.heap.size w w'
theorem info3 : (Tryd.prog.info? 3).map (fun i => (i.zero, i.size, i.bytes)) = some (some (.int .i64 0), 1, 8) := by kernel_rfl
theorem wlk_lt {f : Nat} (hf : f < 4) (l : List Int) : ∀ k, wlk f l k < 4
  | 0 => hf
  | k + 1 => by rw [wlk]; omega
theorem wlk_next {f : Nat} {l : List Int} {k : Nat} {z : Int} (hz : l[k]? = some z) (hs : isS z = true) : (wlk f l k + ((z + 4) % 4).toNat) % 4 = wlk f l (k + 1) := by
  rw [wlk, List.getD_eq_getElem?_getD, hz]
  have := (isS_iff z).1 hs
  simp only [Option.getD_some]
  omega
theorem alls_take {l : List Int} {k : Nat} {x : Int} (h : (l.take k).all isS = true) (hx : l[k]? = some x) (h2 : isS x = true) : (l.take (k + 1)).all isS = true := by
  obtain ⟨hk, rfl⟩ := List.getElem?_eq_some_iff.1 hx
  rw [List.take_succ_eq_append_getElem hk, List.all_append, h, Bool.true_and, List.all_cons, h2]; rfl
theorem alls_no {l : List Int} {k : Nat} {x : Int} (hx : l[k]? = some x) (h2 : isS x = false) : l.all isS = false := by
  rw [List.all_eq_false]
  exact ⟨x, List.mem_of_getElem? hx, by rw [h2]; decide⟩
theorem numV_some {a b n : Nat} (h : plc a b = some n) : numV a b = .tuple #[.int .i64 ((n : Nat) : Int), .bool true] := by unfold numV; rw [h]
theorem res_cell {w : World} {base g N k F : Nat} {l : List Int} (h : w.ownsRow base 3 1 (.slice (some ⟨g, 0, none⟩) N N) N (intC (resL F l k))) (hN : N = l.length) (hk : k < N) : w.cell? ⟨g, k, none⟩ = some (.int .i64 0) := by
  rw [h.cellAt k (by omega), intC_get]
  unfold resL
  rw [List.getElem?_map, List.getElem?_range (by omega)]
  simp
set_option maxRecDepth 100000 in
set_option maxHeartbeats 1600000 in
theorem walk_any (f : Int) (v : Value) (l : List Int) (w : World) (hL : ILst w v l) (hlen : l.length ≤ 35184372088832) : Calls Tryd.prog 18 #[.int .i64 f, v] w (WalkPost f l w) := by
  by_cases hf : isP f = true
  case neg =>
    have HR : Hid (∀ w', Below w.heap.size w w' → WalkPost f l w (.returned (.tuple #[.slice none 0 0, .int .i64 1])) w') := fun w' hb => by
      unfold WalkPost okW
      rw [Bool.eq_false_iff.2 hf]
      exact ⟨_, rfl, ILst.nil _ _, hb⟩
    obtain ⟨a, cap, rfl⟩ := hL.shape
    have m1 := fun W => unit_no f (Bool.eq_false_iff.2 hf) W
    generalize l.length = N at *
    generalize WalkPost f l w = Post at *
    clear hf hL
    go_enter Tryd.func18, Tryd.ntmps18
    go_wp2_with (first | (go_at_call 32; refine (m1 _).mono ?_; rintro e w1 ⟨rfl, hb1⟩))
    exact HR.out _ hb1
  case pos =>
    obtain ⟨F, hF, rfl⟩ := isP_nat hf
    obtain ⟨i0, hi, hz0, hz1, hz2⟩ := info_parts info3
    have HR : Hid (l.all isS = true → ∀ w' v', ILst w' v' (walkL F l) → Below w.heap.size w w' → WalkPost F l w (.returned (.tuple #[v', .int .i64 0])) w') := fun hs w' v' hv hb => by
      unfold WalkPost okW
      rw [hf, hs]
      exact ⟨_, rfl, by simpa using hv, hb⟩
    have HR2 : Hid (l.all isS = false → ∀ w', Below w.heap.size w w' → WalkPost F l w (.returned (.tuple #[.slice none 0 0, .int .i64 1])) w') := fun hs w' hb => by
      unfold WalkPost okW
      rw [hf, hs]
      exact ⟨_, rfl, ILst.nil _ _, hb⟩
    obtain ⟨a, b, off, cap, rfl, hA, hI⟩ := hL
    have HA := hide hA
    have HI := hide hI
    obtain ⟨N, hN⟩ : ∃ N, N = l.length := ⟨_, rfl⟩
    have HN := hide hN
    rw [← hN] at hlen ⊢
    have n5 : (N : Int) ≤ 35184372088832 := by omega
    have n0 : (0 : Int) ≤ (N : Int) := by omega
    have hmk : ∀ u : World, (Instr.makeSlice 41 (.int .i64 (N : Int)) (.int .i64 (N : Int))).run Tryd.prog u =
      .ok (.slice (some ⟨u.heap.size, 0, none⟩) N N) (u.alloc (.cells (madeCells #[.int .i64 0] N) 3)) := fun u => by
      have h := run_make (P := Tryd.prog) u 41 3 i0 (.int .i64 0) Tryd.underlying41 hi hz0 .i64 .i64 (N : Int) (N : Int) (by omega) (by omega) (by rw [hz2]; omega) (by omega)
      rw [Int.toNat_natCast] at h
      simpa [hz1, Value.cells] using h
    have m1 := fun W => unit_ok F hF W
    have HU := hide (u_plc hF)
    have HF := hide hF
    generalize uRe F = ux at *
    generalize uIm F = uy at *
    generalize WalkPost F l w = Post at *
    clear hf hA hI hN hF
    go_enter Tryd.func18, Tryd.ntmps18
    go_wp2_with (first | (go_at_call 32; refine (m1 _).mono ?_; rintro e w1 ⟨rfl, hb1⟩))
    have HS : Hid ((w1.alloc (.cells (madeCells #[.int .i64 0] N) 3)).ownsRow w.heap.size 3 1 (.slice (some ⟨w1.heap.size, 0, none⟩) N N) N (intC (resL F l 0))) := by
      have h := World.ownsRow_lit (base := w.heap.size) (e := 3) (size := 1) w1 (madeCells #[.int .i64 0] N) N hb1.size (by unfold maxLen; omega) (by simp [madeCells])
      have e : (madeCells #[.int .i64 0] N).toList = intC (resL F l 0) := by
        rw [resL_zero, ← HN.out]
        unfold madeCells intC
        refine List.ext_getElem (by simp) fun i h1 h2 => ?_
        simp [Nat.mod_one]
      rwa [e] at h
    have HB0 : Hid (Below w.heap.size w (w1.alloc (.cells (madeCells #[.int .i64 0] N) 3))) := hb1.alloc hb1.size _
    obtain ⟨g, hg⟩ : ∃ g, g = w1.heap.size := ⟨_, rfl⟩
    have hgw : g < (w1.alloc (.cells (madeCells #[.int .i64 0] N) 3)).heap.size := by rw [hg]; simp
    have HGB : Hid (w.heap.size ≤ g) := by rw [hg]; exact hb1.size
    rw [← hg] at HS ⊢
    generalize w1.alloc (.cells (madeCells #[.int .i64 0] N) 3) = w2 at *
    clear hb1 hg hmk hgw m1
    go_loopw [6, 9, 10, 11, 12, 26] (fun at_ _ _ _ _ i wr => ∃ k x y : Nat, k ≤ N ∧ i = .int .i64 (k : Int) ∧ at_ = .complex .f64 x y ∧ Hid (plc x y = some (wlk F l k) ∧ (l.take k).all isS = true ∧ wr.ownsRow w.heap.size 3 1 (.slice (some ⟨g, 0, none⟩) N N) N (intC (resL F l k)) ∧ Below w.heap.size w wr)) (fun _ _ _ _ _ i _ => N - (intOf i).toNat)
    case atStart => exact ⟨0, ux, uy, by omega, rfl, rfl, HU.out, rfl, HS.out, HB0.out⟩
    case round =>
      clear HU HS HB0
      obtain ⟨k, x, y, hk, rfl, rfl, hh⟩ := hrel
      have HP := hide hh.out.1
      have HT := hide hh.out.2.1
      have HO := hide hh.out.2.2.1
      have HB := hide hh.out.2.2.2
      clear hh
      by_cases hlt : k < N
      · have j1 : (k : Int) < (N : Int) := by omega
        have j0 : (0 : Int) ≤ (k : Int) := by omega
        obtain ⟨z, hz⟩ : ∃ z, l[k]? = some z := ⟨_, List.getElem?_eq_getElem (by rw [← HN.out]; exact hlt)⟩
        have HZ := hide hz
        obtain ⟨hbw, rfl⟩ := HA.out (by rw [← HN.out]; omega)
        have c0 := (HB.out.cell (p := ⟨b, off + k, none⟩) hbw).trans (HI.out k z hz)
        clear hz
        by_cases hs : isS z = true
        · have m1 := fun W => turnBy_some z ((isS_iff z).1 hs) W
          have HW := hide (wlk_next (f := F) HZ.out hs)
          have HT2 := hide (alls_take HT.out HZ.out hs)
          have HWL : Hid (wlk F l (k + 1) < 4) := wlk_lt HF.out l (k + 1)
          clear hs
          go_wp2_with (first | (go_at_call 33; refine (m1 _).mono ?_; rintro e w2 ⟨⟨tx, ty, rfl, htp⟩, rfl⟩; obtain ⟨px, py, e1, e2, e3, e4⟩ := mul_pl HP.out htp; have hmul : ∀ t W, (binOp .mul t (.complex .f64 x y) (.complex .f64 tx ty)).run Tryd.prog W = .ok (.complex .f64 px py) W := (fun t W => run_complex_mul W t _ _ _ _ _ _ e1); rw [HW.out] at e2; have m2 := fun W => number_any px py e3 e4 W; rw [numV_some e2] at m2; have HP2 := hide e2; clear e1 e2 e3 e4 htp m1) | (go_at_call 34; refine (m2 _).mono ?_; rintro e w3 ⟨rfl, hb3⟩; have HO3 := hide (own_on HO.out hb3); have c1 := res_cell HO3.out HN.out hlt; have f1 := HO3.out.frozenAt k))
          go_roundw
          case rel => exact ⟨k + 1, px, py, by omega, by go_num, rfl, HP2.out, HT2.out, by rw [← resL_set]; exact (HO3.out.stored k _).1, (HB.out.trans (hb3.mono HB.out.size)).setCell HGB.out _⟩
          case measure => simp [intOf]; omega
        · have h3 : ¬ (z = 0 ∨ z = 1 ∨ z = -1) := fun h => hs ((isS_iff z).2 h)
          have m1 := fun W => turnBy_none z (fun h => h3 (.inl h)) (fun h => h3 (.inr (.inl h))) (fun h => h3 (.inr (.inr h))) W
          have HE := hide (HR2.out (alls_no HZ.out (Bool.eq_false_iff.2 hs)) _ HB.out)
          clear h3 hs
          go_wp2_with (first | (go_at_call 33; refine (m1 _).mono ?_; rintro e w2 ⟨rfl, rfl⟩))
          exact HE.out
      · have hall : l.all isS = true := by
          have e : k = l.length := by rw [← HN.out]; omega
          have h4 := HT.out
          rwa [e, List.take_length] at h4
        have hL : ILst wr (.slice (some ⟨g, 0, none⟩) N N) (walkL F l) := by
          have e : k = l.length := by rw [← HN.out]; omega
          have h4 := HO.out
          rw [e, resL_end] at h4
          refine ILst.of_owns (base := w.heap.size) ?_
          rw [walkL_length, ← HN.out]
          exact h4
        have HE := hide (HR.out hall _ _ hL HB.out)
        have i5 : ¬ (k : Int) < (N : Int) := by omega
        clear hall hL hlt
        go_wp2
        exact HE.out
end Go.Proofs.YthifgfhgkdjkfaaDoor
