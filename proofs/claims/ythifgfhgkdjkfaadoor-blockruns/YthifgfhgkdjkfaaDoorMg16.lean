/- The book's SameNums, SpoilNums, LendNums, KeptNums. | The book's LendNums, KeptNums. | block.settable; slices.Clone at int64s. | block.Run. | A slice of calls among the arguments, opened. | The document's Fields. -/
import Derived.Test.YthifgfhgkdjkfaaDoorMg15
import Derived.Deep.QuietTactic
import Derived.Test.YthifgfhgkdjkfaaDoorMg8
import Derived.Test.YthifgfhgkdjkfaaDoorMg14
import Derived.Laws.CopyOwn
import Derived.Test.YthifgfhgkdjkfaaDoorMg3
import Derived.ChangeSame
namespace Go.Proofs.YthifgfhgkdjkfaaDoor
open Go.RowKit
set_option maxRecDepth 100000 in
set_option maxHeartbeats 1600000 in
theorem sameNums_one (va vb : Value) (l : List Int) (w : World) (hA : ILst w va l) (hB : ILst w vb l) (hlen : l.length ≤ 35184372088832) : Calls Tryd.prog 12 #[va, vb] w fun e w' => e = .returned (.bool true) ∧ Below w.heap.size w w' := by
  obtain ⟨aa, ab, aoff, acap, rfl, haA, haI⟩ := hA
  obtain ⟨ba, bb, boff, bcap, rfl, hbA, hbI⟩ := hB
  have HAA := hide haA
  have HAI := hide haI
  have HBA := hide hbA
  have HBI := hide hbI
  obtain ⟨n, hn⟩ : ∃ n, n = l.length := ⟨_, rfl⟩
  rw [← hn] at hlen ⊢
  have HN := hide hn
  have n0 : (0 : Int) ≤ (n : Int) := by omega
  have n5 : (n : Int) ≤ 35184372088832 := by omega
  clear hn haA haI hbA hbI
  go_enter Tryd.func12, Tryd.ntmps12
  go_wp2_with fail
  go_loopw [5] (fun i wr => ∃ k : Nat, k ≤ n ∧ i = .int .i64 (k : Int) ∧ Hid (Below w.heap.size w wr)) (fun i _ => n - (intOf i).toNat)
  case atStart => exact ⟨0, by omega, rfl, Below.refl _ _⟩
  case round =>
    obtain ⟨k, hk, rfl, HB⟩ := hrel
    by_cases hlt : k < n
    · have j1 : (k : Int) < (n : Int) := by omega
      have j0 : (0 : Int) ≤ (k : Int) := by omega
      obtain ⟨x, hx⟩ : ∃ x, l[k]? = some x := ⟨_, List.getElem?_eq_getElem (by rw [← HN.out]; exact hlt)⟩
      obtain ⟨hab, rfl⟩ := HAA.out (by rw [← HN.out]; omega)
      obtain ⟨hbb, rfl⟩ := HBA.out (by rw [← HN.out]; omega)
      have c1 := (HB.out.cell (p := ⟨ab, aoff + k, none⟩) hab).trans (HAI.out k x hx)
      have c2 := (HB.out.cell (p := ⟨bb, boff + k, none⟩) hbb).trans (HBI.out k x hx)
      clear hx
      go_wp2_with fail
      go_quiet (fail)
      go_wp2
      go_roundw
      case rel => exact ⟨k + 1, by omega, by go_num, below_drewN HB.out _⟩
      case measure => simp [intOf]; omega
    · have j1 : ¬ (k : Int) < (n : Int) := by omega
      go_wp2
      go_ret
      exact ⟨rfl, HB.out⟩
set_option maxRecDepth 100000 in
set_option maxHeartbeats 1600000 in
theorem spoil_some (g n : Nat) (m : Int) (cs : Array Value) (w : World) (h : Ob w g 2 cs) (hn : cs.size = n) (h6 : n ≤ 6) : Calls Tryd.prog 13 #[.slice (some ⟨g, 0, none⟩) n n, .int .i64 m] w fun e w' => e = .returned (.tuple #[]) ∧ Below g w w' := by
  have n0 : (0 : Int) ≤ (n : Int) := by omega
  have n6 : (n : Int) ≤ 6 := by omega
  have HO := hide h
  have HN := hide hn
  clear h hn
  go_enter Tryd.func13, Tryd.ntmps13
  go_wp2_with fail
  go_loopw [4] (fun i wr => ∃ k : Nat, k ≤ n ∧ i = .int .i64 (k : Int) ∧ Hid ((∃ ds : Array Value, Ob wr g 2 ds ∧ ds.size = n) ∧ Below g w wr)) (fun i _ => n - (intOf i).toNat)
  case atStart => exact ⟨0, by omega, rfl, ⟨cs, HO.out, HN.out⟩, Below.refl _ _⟩
  case round =>
    obtain ⟨k, hk, rfl, hh⟩ := hrel
    obtain ⟨⟨ds, ho, hs⟩, hb⟩ := hh.out
    have HB := hide hb
    have HO2 := hide ho
    have HS := hide hs
    clear hh hb
    by_cases hlt : k < n
    · have j1 : (k : Int) < (n : Int) := by omega
      have j0 : (0 : Int) ≤ (k : Int) := by omega
      have hk2 : k < ds.size := by rw [hs]; exact hlt
      obtain ⟨u, hu⟩ : ∃ u, ds[k]? = some u := ⟨_, Array.getElem?_eq_getElem hk2⟩
      have c1 := ho.cell k hu
      have f1 := ho.fr k
      clear hu hk2 ho hs
      go_wp2
      go_roundw
      case rel => exact ⟨k + 1, by omega, by go_num, ⟨_, HO2.out.set k _ rfl, by rw [Array.size_setIfInBounds]; exact HS.out⟩, HB.out.setCell (Nat.le_refl g) _⟩
      case measure => simp [intOf]; omega
    · have j1 : ¬ (k : Int) < (n : Int) := by omega
      clear ho hs
      go_wp2
      first | exact bodyPost_end (results_none rfl _ _ _) rfl ⟨rfl, HB.out⟩ | exact bodyPost_ret (results_none rfl _ _ _) rfl ⟨rfl, HB.out⟩
set_option maxRecDepth 100000 in
set_option maxHeartbeats 1600000 in
theorem spoil_none (m : Int) (w : World) : Calls Tryd.prog 13 #[.slice none 0 0, .int .i64 m] w fun e w' => e = .returned (.tuple #[]) ∧ w' = w := by
  go_enter Tryd.func13, Tryd.ntmps13
  go_wp2_with fail
  go_loopw [4] (fun i wr => i = .int .i64 0 ∧ wr = w) (fun i _ => 0)
  case atStart => exact ⟨rfl, rfl⟩
  case round =>
    obtain ⟨rfl, rfl⟩ := hrel
    go_wp2
    first | exact bodyPost_end (results_none rfl _ _ _) rfl ⟨rfl, rfl⟩ | exact bodyPost_ret (results_none rfl _ _ _) rfl ⟨rfl, rfl⟩
end Go.Proofs.YthifgfhgkdjkfaaDoor
namespace Go.Proofs.YthifgfhgkdjkfaaDoor
open Go.RowKit
theorem own_seven2 (w : World) (x : Int) : ILst (w.alloc (.cells #[.int .i64 x] 2)) (.slice (some ⟨w.heap.size, 0, none⟩) 1 1) [x] :=
  (Rw.of_ob (l := [x]) (Ob.new w 2 #[.int .i64 x])).ilst 1 1 rfl
set_option maxRecDepth 100000 in
set_option maxHeartbeats 1600000 in
theorem lend_any (cv : Value) (l : List Int) (w : World) (hL : ILst w cv l) (hlen : l.length * 8 ≤ 140737488351232) : Calls Tryd.prog 9 #[cv] w fun e w' => ∃ g cap, e = .returned (.slice (some ⟨g, 0, none⟩) l.length cap) ∧ l.length + 1 ≤ cap ∧ Rw w' g (l ++ [-77]) ∧ w.heap.size ≤ g ∧ Below w.heap.size w w' := by
  have HL := hide hL
  obtain ⟨ca, cb, coff, ccap, hcv, -, -⟩ := hL
  obtain ⟨n, hn⟩ : ∃ n, n = l.length := ⟨_, rfl⟩
  rw [← hn] at hcv hlen ⊢
  subst hcv
  have HN := hide hn
  have n0 : (0 : Int) ≤ (n : Int) := by omega
  have n5 : (n : Int) ≤ 17592186043904 := by omega
  clear hn
  go_enter Tryd.func9, Tryd.ntmps9
  go_wp2_with (first | (at_builtin; first | (refine wpList_append_nums (by rfl) _ _ (by rfl) w.heap.size 0 _ _ (by rfl) (own_none2 _ _ (Nat.le_refl _)) _ l (by rfl) (HL.out.on (blw_alloc (Below.refl _ _) _)) (by rw [← HN.out]; omega) (by simp) ?_; intro v' w2 hown hgr; have HB2 := hide (below_app2 (blw_alloc (Below.refl _ _) (.cells #[] 2)) (by simp) (own_none2 _ _ (Nat.le_refl _)) hgr); have hown2 : w2.ownsRow w.heap.size 2 1 v' n (intC l) := (by rw [← HN.out, Nat.zero_add] at hown; exact hown); have HO2 := hide hown2; obtain ⟨a2, cap2, rfl, hc2⟩ := owns_slice hown2; clear hown hgr hown2) | (refine wpList_append_nums (by rfl) _ _ (by rfl) w.heap.size n _ _ (by rfl) (HO2.out.alloc _) _ [-77] (by rfl) (own_seven2 _ _) (by simp only [List.length_cons, List.length_nil]; omega) (Nat.le_trans HB2.out.size (by simp)) ?_; intro v3 w3 hown3 hgr3; have HB3 := hide (below_app2 (blw_alloc HB2.out (.cells #[.int .i64 (-77)] 2)) (Nat.le_trans HB2.out.size (by simp)) (HO2.out.alloc _) hgr3); have hw3 : ∃ g cap, v3 = .slice (some ⟨g, 0, none⟩) (n + 1) cap ∧ w.heap.size ≤ g ∧ n + 1 ≤ cap ∧ Rw w3 g (l ++ [-77]) := (Rw.of_owns (n := n + 1) (l := l ++ [-77]) (by rw [intC_append]; exact hown3) (by omega) (by rw [HN.out]; simp)); obtain ⟨g, cap, rfl, hg3, hc3, hrw3⟩ := hw3; have HG3 := hide hg3; have HR3 := hide hrw3; have HC3 := hide hc3; have cc : (n : Int) ≤ (cap : Int) := (by omega); clear hown3 hgr3 hg3 hrw3)))
  go_ret
  exact ⟨g, cap, rfl, HC3.out, HR3.out, HG3.out, HB3.out⟩
set_option maxRecDepth 100000 in
set_option maxHeartbeats 1600000 in
theorem kept_any (g cap : Nat) (cv : Value) (l : List Int) (w : World) (hL : ILst w cv l) (hlen : l.length * 8 ≤ 140737488351232) (hr : Rw w g (l ++ [-77])) (hc : l.length + 1 ≤ cap) : Calls Tryd.prog 14 #[.slice (some ⟨g, 0, none⟩) l.length cap, cv] w fun e w' => e = .returned (.bool true) ∧ Below w.heap.size w w' := by
  have hI : ILst w (.slice (some ⟨g, 0, none⟩) l.length cap) l := by
    refine ⟨_, g, 0, cap, rfl, fun _ => ⟨hr.lt, rfl⟩, fun i x hx => ?_⟩
    rw [Nat.zero_add]
    exact hr.cell i (by rw [List.getElem?_append_left (List.getElem?_eq_some_iff.1 hx).1]; exact hx)
  have m1 := sameNums_one _ cv l w hI hL (by omega)
  have HK : Hid (∀ w1, Below w.heap.size w w1 → w1.cell? ⟨g, l.length, none⟩ = some (.int .i64 (-77))) := fun w1 hb => (hr.on hb hr.lt).cell l.length (by rw [List.getElem?_append_right (Nat.le_refl _), Nat.sub_self]; rfl)
  obtain ⟨ca, cb, coff, ccap, rfl, -, -⟩ := hL
  clear hI hr
  generalize l.length = n at *
  have n0 : (0 : Int) ≤ (n : Int) := by omega
  have n5 : (n : Int) ≤ 17592186043904 := by omega
  have cc : (n : Int) + 1 ≤ (cap : Int) := by omega
  go_enter Tryd.func14, Tryd.ntmps14
  go_wp2_with (first | (go_at_call 12; refine m1.mono ?_; rintro e w1 ⟨rfl, b1⟩; have B1 := hide b1; clear b1; have k1 := HK.out w1 B1.out))
  go_ret
  exact ⟨rfl, B1.out⟩
end Go.Proofs.YthifgfhgkdjkfaaDoor
namespace Go.Proofs.YthifgfhgkdjkfaaDoor
open Go.RowKit
/-- how many of the fields may be set -/
def setN : List (Int × Bool) → Nat
  | [] => 0
  | (_, true) :: r => setN r + 1
  | (_, false) :: _ => 0
theorem setN_drop : ∀ (fl : List (Int × Bool)) (k : Nat), (∀ j f, j < k → fl[j]? = some f → f.2 = true) → k ≤ fl.length → setN fl = k + setN (fl.drop k)
  | fl, 0, _, _ => by rw [Nat.zero_add]; rfl
  | [], k + 1, _, h => by simp at h
  | (t, true) :: r, k + 1, h, hl => by
    rw [setN, setN_drop r k (fun j f hj hf => h (j + 1) f (by omega) hf) (by simpa using hl), List.drop_succ_cons]; omega
  | (t, false) :: r, k + 1, h, hl => by
    have := h 0 (t, false) (by omega) rfl
    cases this
set_option maxRecDepth 100000 in
set_option maxHeartbeats 1600000 in
theorem settable_any (fv : Value) (fl : List (Int × Bool)) (w : World) (hf : FLst w fv fl) (h6 : fl.length ≤ 6) : Calls Tryd.prog 29 #[fv] w fun e w' => e = .returned (.int .i64 ((setN fl : Nat) : Int)) ∧ w' = w := by
  obtain ⟨fa, fb, fcap, rfl, hfA, hfI⟩ := hf
  have HFA := hide hfA
  have HFI := hide hfI
  obtain ⟨n, hn⟩ : ∃ n, n = fl.length := ⟨_, rfl⟩
  rw [← hn] at h6 ⊢
  have HN := hide hn
  have n0 : (0 : Int) ≤ (n : Int) := by omega
  have n6 : (n : Int) ≤ 6 := by omega
  have HS : Hid (∀ k, (∀ j f, j < k → fl[j]? = some f → f.2 = true) → k ≤ n → (k = n ∨ ∃ t, fl[k]? = some (t, false)) → setN fl = k) := fun k h1 h2 h3 => by
    rw [setN_drop fl k h1 (by rw [← hn]; exact h2)]
    rcases h3 with rfl | ⟨t, ht⟩
    · rw [List.drop_eq_nil_of_le (by rw [hn]; exact Nat.le_refl _)]; rfl
    · obtain ⟨hk, e⟩ := List.getElem?_eq_some_iff.1 ht
      rw [List.drop_eq_getElem_cons hk, e]; rfl
  generalize setN fl = M at *
  clear hn hfA hfI
  go_enter Tryd.func29, Tryd.ntmps29
  go_wp2_with fail
  go_loopw [3] (fun i wr => ∃ k : Nat, k ≤ n ∧ i = .int .i64 (k : Int) ∧ Hid ((∀ j f, j < k → fl[j]? = some f → f.2 = true) ∧ wr = w)) (fun i _ => n - (intOf i).toNat)
  case atStart => exact ⟨0, by omega, rfl, fun j f hj => absurd hj (Nat.not_lt_zero _), rfl⟩
  case round =>
    obtain ⟨k, hk, rfl, hh⟩ := hrel
    obtain ⟨hA, rfl⟩ := hh.out
    have HA := hide hA
    clear hh hA
    by_cases hlt : k < n
    · have j1 : (k : Int) < (n : Int) := by omega
      have j0 : (0 : Int) ≤ (k : Int) := by omega
      obtain ⟨f, hf⟩ : ∃ f, fl[k]? = some f := ⟨_, List.getElem?_eq_getElem (by rw [← HN.out]; exact hlt)⟩
      obtain ⟨hfb, rfl⟩ := HFA.out (by rw [← HN.out]; omega)
      obtain ⟨s, q0, q1, q2⟩ := HFI.out k f hf
      obtain ⟨t, b⟩ := f
      simp only [] at q2
      have HF := hide hf
      clear q0 q1 hf
      cases b
      · have HE : Hid (M = k) := HS.out k HA.out hk (.inr ⟨t, HF.out⟩)
        go_wp2
        go_ret
        exact ⟨by rw [HE.out]; rfl, rfl⟩
      · go_wp2
        go_roundw
        case rel => exact ⟨k + 1, by omega, by go_num, fun j f' hj hf' => (by
            rcases Nat.lt_or_eq_of_le (Nat.le_of_lt_succ hj) with h | rfl
            · exact HA.out j f' h hf'
            · rw [HF.out] at hf'
              obtain rfl := Option.some.inj hf'
              rfl), by first | trivial | rfl⟩
        case measure => simp [intOf]; omega
    · have j1 : ¬ (k : Int) < (n : Int) := by omega
      have HE : Hid (M = k) := HS.out k HA.out hk (.inl (by omega))
      go_wp2
      go_ret
      exact ⟨by rw [HE.out]; rfl, rfl⟩
set_option maxRecDepth 100000 in
theorem nil_not (a : Addr) (n cap : Nat) (W : World) : (binOp .eql 22 (.slice (some a) n cap) (.slice none 0 0)).run Tryd.prog W = .ok (.bool false) W := by rfl
set_option maxRecDepth 100000 in
set_option maxHeartbeats 1600000 in
theorem clone_some (a : Addr) (n cap : Nat) (l : List Int) (hn0 : 0 < n) (hn : n = l.length) (w : World) (hL : ILst w (.slice (some a) n cap) l) (hlen : n ≤ 17592186043904) : Calls Tryd.prog 30 #[.slice (some a) n cap] w fun e w' => ∃ g c2, e = .returned (.slice (some ⟨g, 0, none⟩) n c2) ∧ Rw w' g l ∧ w.heap.size ≤ g ∧ Below w.heap.size w w' := by
  have HL := hide hL
  have HN := hide hn
  have HN0 := hide hn0
  have q1 := nil_not
  clear hL hn hn0
  go_enter Tryd.func30, Tryd.ntmps30
  go_wp2_with (first | (at_builtin; refine wpList_append_nums (by rfl) _ _ (by rfl) w.heap.size 0 _ _ (by rfl) (own_none2 _ _ (Nat.le_refl _)) _ l (by rfl) (HL.out.on (blw_alloc (Below.refl _ _) _)) (by rw [← HN.out]; omega) (by simp) ?_; intro v' w2 hown hgr; have HB2 := hide (below_app2 (blw_alloc (Below.refl _ _) (.cells #[] 2)) (by simp) (own_none2 _ _ (Nat.le_refl _)) hgr); have hw2 : ∃ g c2, v' = .slice (some ⟨g, 0, none⟩) n c2 ∧ w.heap.size ≤ g ∧ n ≤ c2 ∧ Rw w2 g l := (Rw.of_owns (n := n) (l := l) (by rw [← HN.out, Nat.zero_add] at hown; exact hown) HN0.out HN.out); obtain ⟨g, c2, rfl, hg2, hc2, hrw⟩ := hw2; have HG2 := hide hg2; have HR2 := hide hrw; clear hown hgr hg2 hrw hc2))
  go_ret
  exact ⟨g, c2, rfl, HR2.out, HG2.out, HB2.out⟩
end Go.Proofs.YthifgfhgkdjkfaaDoor
namespace Go.Proofs.YthifgfhgkdjkfaaDoor
open Go.RowKit
/-- a slice of calls -/
def CLst (w : World) (v : Value) (cl : List (Int × List Int)) : Prop :=
  ∃ a b off cap, v = .slice a cl.length cap ∧ (0 < cl.length → b < w.heap.size ∧ a = some ⟨b, off, none⟩) ∧
    ∀ i q, cl[i]? = some q → w.cell? ⟨b, off + i * 2, none⟩ = some (.int .i64 q.1) ∧ ∃ sv, w.cell? ⟨b, off + i * 2 + 1, none⟩ = some sv ∧ ILst w sv q.2
/-- the first cells set -/
def putL (ins c : List Int) : List Int := ins ++ c.drop ins.length
theorem putL_len {ins c : List Int} (h : ins.length ≤ c.length) : (putL ins c).length = c.length := by unfold putL; simp; omega
/-- what calls leave, or why they do not -/
def runP (k : Int) : List (Int × List Int) → List Int → List Int × Int
  | [], c => (c, 0)
  | (now, ins) :: r, c => if setN (fldK k) < ins.length then ([], 4) else if mayP (fldK k) (putL ins c) now = 0 then runP k r (stepL k (putL ins c) now) else ([], mayP (fldK k) (putL ins c) now)
theorem setN_le : ∀ fl : List (Int × Bool), setN fl ≤ fl.length
  | [] => Nat.le_refl _
  | (_, true) :: r => by rw [setN, List.length_cons]; have := setN_le r; omega
  | (_, false) :: r => by rw [setN]; omega
theorem Rw.splice {w : World} {g : Nat} {l ins : List Int} {cur : Array Value} (hl : ins.length ≤ l.length) (h1 : cur.toList.take l.length = intC l) (h2 : w.heap[g]? = some (.cells (Go.splice cur.toList 0 (intC ins)).toArray 2 (0, 0))) : Rw w g (putL ins l) := by
  refine ⟨_, h2, ?_⟩
  rw [putL_len hl]
  have hs : l.length ≤ cur.toList.length := by
    have := congrArg List.length h1
    rw [List.length_take, intC_length] at this
    omega
  refine List.ext_getElem? fun i => ?_
  by_cases hi : i < l.length
  · rw [List.getElem?_take_of_lt hi]
    unfold Go.splice putL
    simp only [List.take_zero, List.nil_append, Nat.zero_add]
    rw [intC_append]
    by_cases hj : i < ins.length
    · rw [List.getElem?_append_left (by rw [intC_length]; exact hj), List.getElem?_append_left (by rw [intC_length]; exact hj)]
    · rw [List.getElem?_append_right (by rw [intC_length]; omega), List.getElem?_append_right (by rw [intC_length]; omega), intC_length, List.getElem?_drop, intC_get, List.getElem?_drop, ← intC_get, ← h1, List.getElem?_take_of_lt (by omega)]
  · rw [List.getElem?_eq_none (by rw [List.length_take]; omega), List.getElem?_eq_none (by rw [intC_length, putL_len hl]; omega)]
end Go.Proofs.YthifgfhgkdjkfaaDoor
namespace Go.Proofs.YthifgfhgkdjkfaaDoor
open Go.ChangeShapes Go.WideShapes Go.ChangeAt Go.RowKit
theorem cells34 : Tryd.prog.cellsOf 34 = 2 := by kernel_rfl
theorem cells22 : Tryd.prog.cellsOf 22 = 1 := by kernel_rfl
theorem nl_shape {H : Type} {enc : TypeId × Value → H} {W : World} {fuel : Nat} {v : Value} {x : DataW H × List MemPlace} (h : DataW.trod enc Tryd.prog W 0 (fun _ => true) true fuel 22 [v] = some x) : ∃ a l c, v = .slice a l c := by
  rcases Deep.open_slice Tryd.underlying22 h with ⟨q, _⟩ | ⟨a', len', cap', m, n, D, Pl, q, _⟩
  · simp at q; exact ⟨_, _, _, q⟩
  · simp at q; exact ⟨_, _, _, q⟩
set_option maxRecDepth 100000 in
theorem open_cl {H : Type} {enc : TypeId × Value → H} {W : World} {fuel len cap : Nat} {a : Option Addr} {x : DataW H × List MemPlace} {cs : List Value} (h : DataW.trod enc Tryd.prog W 0 (fun _ => true) true fuel 31 cs = some x) (hcs0 : cs = [.slice a len cap]) :
    ∃ l : List (Int × List Int), CLst W (.slice a len cap) l := by
  subst hcs0
  rcases Deep.open_slice Tryd.underlying31 h with ⟨hcs, rfl⟩ | ⟨a', len', cap', m, n, D, Pl, hcs, hb, hl, hm, hmm, rfl, hx⟩
  · simp at hcs
    obtain ⟨rfl, rfl, rfl⟩ := hcs
    exact ⟨[], none, 0, 0, 0, rfl, fun h => absurd h (Nat.lt_irrefl 0), fun i x hx => by cases hx⟩
  · simp at hcs
    obtain ⟨rfl, rfl, rfl⟩ := hcs
    simp only [if_true] at hmm
    subst hmm
    rw [cells34] at hx
    have each : ∀ i, i < len → ∃ y : Int × List Int, W.cell? (a'.add (i * 2)) = some (.int .i64 y.1) ∧ ∃ sv, W.cell? (a'.add (i * 2 + 1)) = some sv ∧ ILst W sv y.2 := fun i hi => by
      obtain ⟨cs', h1, h2⟩ := hx i (by omega)
      obtain ⟨_, hlen, hcell⟩ := World.cells?_some h1
      obtain ⟨y0, y1, k, hxy, _, g0, g1⟩ := trod_struct2 Tryd.underlying34 h2
      obtain ⟨v0, v1, rfl⟩ : ∃ v0 v1, cs' = [v0, v1] := by
        match cs', hlen with
        | [v0, v1], _ => exact ⟨v0, v1, rfl⟩
      have g0' : DataW.trod enc Tryd.prog W 0 (fun _ => true) true k 2 [v0] = some y0 := by simpa [cells2] using g0
      have g1' : DataW.trod enc Tryd.prog W 0 (fun _ => true) true k 22 [v1] = some y1 := by simpa [cells22] using g1
      obtain ⟨n0, e0, _, w0⟩ := DataW.trod_int Tryd.underlying2 g0'
      obtain ⟨aa, ll, cc, rfl⟩ := nl_shape g1'
      obtain ⟨l1, p1, _, L1, _⟩ := open_nl g1' rfl
      have d0 := hcell 0 (by omega)
      have d1 := hcell 1 (by omega)
      rw [Deep.add_add] at d0 d1
      injection e0 with e0
      subst e0
      exact ⟨(n0, l1), d0, _, d1, L1⟩
    obtain ⟨f, hf⟩ := @Deep.choose_lt (Int × List Int) ⟨(0, [])⟩ _ _ each
    refine ⟨(List.range len).map f, ?_⟩
    by_cases hl0 : len = 0
    · subst hl0
      exact ⟨some a', 0, 0, m, rfl, fun h => absurd h (Nat.lt_irrefl 0), fun i x hx => by cases hx⟩
    · obtain ⟨b, off, spot⟩ := a'
      have hspot : spot = none := by simpa [Addr.add] using World.cell?_spot (hf 0 (by omega)).1
      subst hspot
      have hbW : b < W.heap.size := World.block_lt_of_cell? W _ (by have := (hf 0 (by omega)).1; rwa [add_at] at this)
      refine ⟨some ⟨b, off, none⟩, b, off, m, by simp, fun _ => ⟨hbW, rfl⟩, fun i y hy => ?_⟩
      have hi : i < len := by have := (List.getElem?_eq_some_iff.1 hy).1; simpa using this
      have hfy : f i = y := by simpa [hi] using hy
      obtain ⟨q0, sv, q1, q2⟩ := hf i hi
      rw [add_at] at q0 q1
      rw [hfy] at q0 q2
      exact ⟨q0, sv, q1, q2⟩
end Go.Proofs.YthifgfhgkdjkfaaDoor
namespace Go.Proofs.YthifgfhgkdjkfaaDoor
open Go.RowKit
set_option maxRecDepth 100000 in
set_option maxHeartbeats 3200000 in
theorem rfields_ok (k : Int) (h : 1 ≤ k ∧ k ≤ 10) (w : World) : Calls Tryd.prog 31 #[.int .i64 k] w fun e w' => (∃ v, e = .returned (.tuple #[v, .int .i64 0]) ∧ FLst w' v (fldK k)) ∧ Below w.heap.size w w' := by
  have hk : k = 1 ∨ k = 2 ∨ k = 3 ∨ k = 4 ∨ k = 5 ∨ k = 6 ∨ k = 7 ∨ k = 8 ∨ k = 9 ∨ k = 10 := by omega
  clear h
  rcases hk with rfl | rfl | rfl | rfl | rfl | rfl | rfl | rfl | rfl | rfl
  all_goals
    go_enter Tryd.func31, Tryd.ntmps31
    go_wp2
    go_ret2
    refine ⟨⟨_, rfl, ?_⟩, (Below.refl w.heap.size w).alloc (Nat.le_refl _) _⟩
    refine FLst.new w _ 67 _ ?_ _ ?_
    · rfl
    · simp [rowsOk, fldK]
set_option maxRecDepth 100000 in
set_option maxHeartbeats 3200000 in
theorem rfields_no (k : Int) (h : ¬ (1 ≤ k ∧ k ≤ 10)) (w : World) : Calls Tryd.prog 31 #[.int .i64 k] w fun e w' => e = .returned (.tuple #[.slice none 0 0, .int .i64 92]) ∧ w' = w := by
  have h1 : (k == 1) = false := by rw [beq_eq_false_iff_ne]; omega
  have h2 : (k == 2) = false := by rw [beq_eq_false_iff_ne]; omega
  have h3 : (k == 3) = false := by rw [beq_eq_false_iff_ne]; omega
  have h4 : (k == 4) = false := by rw [beq_eq_false_iff_ne]; omega
  have h5 : (k == 5) = false := by rw [beq_eq_false_iff_ne]; omega
  have h6 : (k == 6) = false := by rw [beq_eq_false_iff_ne]; omega
  have h7 : (k == 7) = false := by rw [beq_eq_false_iff_ne]; omega
  have h8 : (k == 8) = false := by rw [beq_eq_false_iff_ne]; omega
  have h9 : (k == 9) = false := by rw [beq_eq_false_iff_ne]; omega
  have h10 : (k == 10) = false := by rw [beq_eq_false_iff_ne]; omega
  clear h
  go_enter Tryd.func31, Tryd.ntmps31
  go_wp2
  go_ret2
  exact ⟨rfl, rfl⟩
end Go.Proofs.YthifgfhgkdjkfaaDoor
