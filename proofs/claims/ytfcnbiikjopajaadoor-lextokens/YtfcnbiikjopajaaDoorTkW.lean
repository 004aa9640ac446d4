/- The walk of the law LexTokens. -/
import Derived.Test.YtfcnbiikjopajaaDoorRTokW
import Derived.Test.YtfcnbiikjopajaaDoorBSamW
import Derived.Test.YtfcnbiikjopajaaDoorWorksW
namespace Go.Proofs.YtfcnbiikjopajaaDoor
open Go.RowKit
def ansP (l : Bs) : Int := match toks l with
  | .error (n, _) => ((l.length - n : Nat) : Int)
  | .ok _ => 0
def ansC (l : Bs) : Int := match toks l with
  | .error (_, c) => c
  | .ok _ => 0
def ansL (l : Bs) : List Tv := match toks l with
  | .error _ => []
  | .ok ts => ts.map (tvOf l.length)
theorem ansL_len (l : Bs) : (ansL l).length ≤ 1048576 := by
  unfold ansL
  cases h : toks l with
  | error e => simp
  | ok ts => have := (toks_lexes h).2.1; simp only [List.length_map]; omega
theorem tks_lst {base : Nat} {l : Bs} {e : Ending} {w' : World} (h : TksOut base l e w') : ∃ a n cap, e = .returned (.tuple #[.slice a n cap, .agg #[.int .i64 (ansP l), .int .i64 (ansC l)]]) ∧ Hid (Lst w' (.slice a n cap) (ansL l)) := by
  unfold TksOut at h
  unfold ansP ansC ansL
  cases ht : toks l with
  | error x =>
    obtain ⟨n, c⟩ := x
    rw [ht] at h
    exact ⟨none, 0, 0, h, ⟨none, 0, 0, 0, rfl, fun h => absurd h (Nat.lt_irrefl 0), fun i x hx => by cases hx⟩⟩
  | ok ts =>
    rw [ht] at h
    obtain ⟨v, h1, h2⟩ := h
    obtain ⟨a, cap, rfl⟩ := own_form h2
    exact ⟨a, ts.length, cap, h1, Lst.of_tks h2⟩
set_option maxRecDepth 100000 in
set_option maxHeartbeats 6400000 in
theorem toks_any (l : Bs) (hl : l.length ≤ 140737488351232) (w : World) (hg : Glo w) : Calls Tryd.prog 3 #[.string ⟨l.toArray⟩] w fun e w' => e = .returned (.bool true) ∧ Below w.heap.size w w' := by
  have HG := hide hg
  have c0 := fun W h => works_any W h
  have c1 := fun W h => tokens_any l W h
  have c2 := fun W => rtokens_any l W
  have c3 := fun W => upper_any l (by omega) W
  have c4 := fun W => rupper_any l (by omega) W
  have HLn := hide (ansL_len l)
  generalize (⟨(upL l).toArray⟩ : ByteArray) = u at *
  generalize (⟨l.toArray⟩ : ByteArray) = s at *
  clear hg hl
  obtain ⟨p, hp⟩ : ∃ p, p = ansP l := ⟨_, rfl⟩
  obtain ⟨c, hc⟩ : ∃ c, c = ansC l := ⟨_, rfl⟩
  have HP := hide (And.intro hp hc)
  clear hp hc
  go_enter Tryd.func3, Tryd.ntmps3
  go_wp2_with fail
  refine (c1 _ HG.out).mono ?_
  rintro e w1 ⟨h1, hb1⟩
  obtain ⟨a1, n1, cap1, he1, L1⟩ := tks_lst h1
  rw [← HP.out.1, ← HP.out.2] at he1
  subst he1
  have B1 := hb1.alloc hb1.size (.cells #[.int .i64 p, .int .i64 c] 25)
  clear c1 h1
  go_wp2_with fail
  refine (c2 _).mono ?_
  rintro e w2 ⟨h2, hb2⟩
  obtain ⟨a2, n2, cap2, he2, L2⟩ := tks_lst h2
  rw [← HP.out.1, ← HP.out.2] at he2
  subst he2
  have z1 : w1.heap.size < w2.heap.size := by have := hb2.size; rw [World.size_alloc] at this; omega
  have B2 := B1.trans (hb2.mono B1.size)
  have B3 := hide (B2.alloc B2.size (.cells #[.int .i64 p, .int .i64 c] 25))
  have D2 := ((Below.refl w1.heap.size w1).alloc (Nat.le_refl _) (.cells #[.int .i64 p, .int .i64 c] 25)).trans (hb2.mono (by simp))
  have D3 := D2.alloc (o := .cells #[.int .i64 p, .int .i64 c] 25) (by omega)
  have LA := hide (L1.out.below D3 (Nat.le_refl _))
  have LB := hide (L2.out.below ((Below.refl w2.heap.size w2).alloc (Nat.le_refl _) (.cells #[.int .i64 p, .int .i64 c] 25)) (Nat.le_refl _))
  have e0 := (hb2.cell (p := ⟨w1.heap.size, 0, none⟩) (by simp)).trans (show _ = some (Value.int .i64 p) by simp)
  have e1 := (hb2.cell (p := ⟨w1.heap.size, 1, none⟩) (by simp)).trans (show _ = some (Value.int .i64 c) by simp)
  have m0 : (w2.alloc (.cells #[.int .i64 p, .int .i64 c] 25)).cell? ⟨w1.heap.size, 0, none⟩ = some (.int .i64 p) := (World.cell?_alloc_lt _ _ _ z1).trans e0
  have m1 : (w2.alloc (.cells #[.int .i64 p, .int .i64 c] 25)).cell? ⟨w1.heap.size, 1, none⟩ = some (.int .i64 c) := (World.cell?_alloc_lt _ _ _ z1).trans e1
  have n0 : (w2.alloc (.cells #[.int .i64 p, .int .i64 c] 25)).cell? ⟨w2.heap.size, 0, none⟩ = some (.int .i64 p) := by simp
  have n1' : (w2.alloc (.cells #[.int .i64 p, .int .i64 c] 25)).cell? ⟨w2.heap.size, 1, none⟩ = some (.int .i64 c) := by simp
  have hs1 : w1.heap.size < (w2.alloc (.cells #[.int .i64 p, .int .i64 c] 25)).heap.size := by rw [World.size_alloc]; omega
  have hs2 : w2.heap.size < (w2.alloc (.cells #[.int .i64 p, .int .i64 c] 25)).heap.size := by rw [World.size_alloc]; omega
  have cs := bsame_one (.slice a1 n1 cap1) (.slice a2 n2 cap2) (ansL l) _ LA.out LB.out HLn.out
  clear c2 h2 hb1 hb2 B1 B2 D2 D3 L1 L2 e0 e1 LA LB
  go_wp2_with fail
  refine cs.mono ?_
  rintro e w4 ⟨rfl, hb4⟩
  have k0 := (hb4.cell (p := ⟨w1.heap.size, 0, none⟩) hs1).trans m0
  have k1 := (hb4.cell (p := ⟨w1.heap.size, 1, none⟩) hs1).trans m1
  have k2 := (hb4.cell (p := ⟨w2.heap.size, 0, none⟩) hs2).trans n0
  have k3 := (hb4.cell (p := ⟨w2.heap.size, 1, none⟩) hs2).trans n1'
  have B4 := hide (B3.out.trans (hb4.mono B3.out.size))
  clear cs m0 m1 n0 n1' hs1 hs2 hb4 B3
  go_wp2_with fail
  refine (c3 _).mono ?_
  rintro e w5 ⟨rfl, hb5⟩
  have B5 := hide (B4.out.trans (hb5.mono B4.out.size))
  clear c3 hb5 B4
  go_wp2_with fail
  refine (c4 _).mono ?_
  rintro e w6 ⟨rfl, hb6⟩
  have B6 := hide (B5.out.trans (hb6.mono B5.out.size))
  clear c4 hb6 B5
  go_wp2_with fail
  refine (c0 _ (HG.out.below B6.out HG.out.lt)).mono ?_
  rintro e w7 ⟨rfl, hb7⟩
  have B7 := hide (B6.out.trans (hb7.mono B6.out.size))
  clear c0 hb7 B6
  go_wp2
  go_ret
  exact ⟨rfl, B7.out⟩
theorem toks_row (s : ByteArray) (hs : s.size ≤ 140737488351232) (w : World) (hg : Glo w) : Calls Tryd.prog 3 #[.string s] w fun e w' => e = .returned (.bool true) ∧ Below w.heap.size w w' := by
  rw [to_list s]
  exact toks_any s.data.toList (by rw [text_len]; exact hs) w hg
end Go.Proofs.YtfcnbiikjopajaaDoor
