/- The walk of QuadWalks. -/
import Derived.Test.YtaffoannpnifmaaWoW
namespace Go.Proofs.Ytaffoannpnifmaa
open Go.RowKit
theorem own_empty (w : World) (base : Nat) (hb : base ≤ w.heap.size) : (w.alloc (.cells #[] 3)).ownsRow base 3 1 (.slice (some ⟨w.heap.size, 0, none⟩) 0 0) 0 [] :=
  World.ownsRow_lit (e := 3) (size := 1) w #[] 0 hb (by decide) rfl
theorem blw_alloc {w w1 : World} (h : Below w.heap.size w w1) (o : Obj) : Below w.heap.size w (w1.alloc o) := h.alloc h.size o
theorem blw_app {w w1 w2 : World} {n : Nat} {v : Value} {xs : List Value} (h : Below w.heap.size w w1) (ho : w1.ownsRow w.heap.size 3 1 v n xs) (hg : w1.grownBy w2 v.ownBlock) : Below w.heap.size w w2 := below_app h h.size ho hg
theorem ILst.owned {w : World} {base : Nat} {v : Value} {l : List Int} (h : w.ownsRow base 3 1 v (0 + l.length) ([] ++ intC l)) : ILst w v l := by
  rw [Nat.zero_add, List.nil_append] at h
  exact ILst.of_owns h
set_option maxRecDepth 100000 in
set_option maxHeartbeats 3200000 in
theorem walks_law (f : Int) (sv : Value) (s : List Int) (pv : Value) (p : List Int) (w : World) (hS : ILst w sv s) (hs : s.length * 8 ≤ 140737488351232) (hP : ILst w pv p) (hp : p.length * 8 ≤ 140737488351232) :
    Calls Try.prog 5 #[.int .i64 f, sv, pv] w fun e w' => e = .returned (.bool true) ∧ Below w.heap.size w w' := by
  have mw := fun W => works_any W
  have HS := hide hS
  have HP := hide hP
  obtain ⟨sa, scap, hsv⟩ := hS.shape
  obtain ⟨pa, pcap, hpv⟩ := hP.shape
  obtain ⟨R, hR⟩ : ∃ R, R = (if okW f s then walkL f.toNat s else []) := ⟨_, rfl⟩
  obtain ⟨E, hE⟩ : ∃ E : Int, E = (if okW f s then 0 else 1) := ⟨_, rfl⟩
  obtain ⟨⟨C1, C2, C3⟩, hC⟩ : ∃ C, C = cntV p := ⟨_, rfl⟩
  have HLL : Hid (R.length ≤ s.length) := by
    show _ ≤ _
    rw [hR]
    split
    · rw [walkL_length]; exact Nat.le_refl _
    · exact Nat.zero_le _
  have m1 : Hid (∀ W v, ILst W v s → Calls Try.prog 20 #[.int .i64 f, v] W fun e w' => ∃ v', e = .returned (.tuple #[v', .int .i64 E]) ∧ ILst w' v' R ∧ Below W.heap.size W w') := fun W v h => by
    rw [hR, hE]; exact walk_any f v s W h (by omega)
  have m2 : Hid (∀ W, Below w.heap.size w W → Calls Try.prog 21 #[.int .i64 f, sv] W fun e w' => ∃ v', e = .returned (.tuple #[v', .int .i64 E]) ∧ ILst w' v' R ∧ Below W.heap.size W w') := fun W h => by
    rw [hR, hE]; exact refWalk_any f sv s W (HS.out.on h) (by omega)
  have m3 : Hid (∀ W v, ILst W v p → Calls Try.prog 22 #[v] W fun e w' => e = .returned (.tuple #[.int .i64 C1, .int .i64 C2, .int .i64 C3]) ∧ Below W.heap.size W w') := fun W v h => by
    have h := count_any v p W h (by omega)
    rw [← hC] at h; exact h
  have m4 : Hid (∀ W, Below w.heap.size w W → Calls Try.prog 23 #[pv] W fun e w' => e = .returned (.tuple #[.int .i64 C1, .int .i64 C2, .int .i64 C3]) ∧ Below W.heap.size W w') := fun W h => by
    have h := refCount_any pv p W (HP.out.on h) (by omega)
    rw [← hC] at h; exact h
  have m5 : Hid (∀ W u v, ILst W u R → ILst W v R → Calls Try.prog 24 #[u, v] W fun e w' => e = .returned (.bool true) ∧ Below W.heap.size W w') := fun W u v hu hv => same_any u v R W hu hv (Nat.le_trans HLL.out (by omega))
  have BS : Hid (((0 + s.length) + (0 + s.length) / 4 + 192) * 8 ≤ 281474976710656) := by show _ ≤ _; omega
  have BP : Hid (((0 + p.length) + (0 + p.length) / 4 + 192) * 8 ≤ 281474976710656) := by show _ ≤ _; omega
  clear hS hP hs hp hR hE hC HLL
  subst hsv hpv
  go_enter Try.func5, Try.ntmps5
  go_wp2_with (first | (at_builtin; first | (refine wpList_append_ints (by rfl) _ _ (by rfl) w.heap.size 0 _ _ (by rfl) (own_empty _ _ (Nat.le_refl _)) _ s (by rfl) (HS.out.on (blw_alloc (Below.refl _ _) _)) BS.out (by simp) ?_; intro v1 w1 hown1 hgr1; have HB1 := hide (blw_app (blw_alloc (Below.refl _ _) _) (own_empty _ _ (Nat.le_refl _)) hgr1)) | (refine wpList_append_ints (by rfl) _ _ (by rfl) w.heap.size 0 _ _ (by rfl) (own_empty _ _ HB3.out.size) _ p (by rfl) (HP.out.on (blw_alloc HB3.out _)) BP.out (Nat.le_trans HB3.out.size (by simp)) ?_; intro v4 w4 hown4 hgr4; have HB4 := hide (blw_app (blw_alloc HB3.out _) (own_empty _ _ HB3.out.size) hgr4); have hb4 := blw_app (blw_alloc (Below.refl _ _) _) (own_empty _ _ (Nat.le_refl _)) hgr4)) | (go_at_call 20; refine (m1.out _ _ (ILst.owned hown1)).mono ?_; rintro e w2 ⟨v2, rfl, hv2, hb2⟩; have HB2 := hide (HB1.out.trans (hb2.mono HB1.out.size)); have HV2 := hide hv2) | (go_at_call 21; refine (m2.out _ HB2.out).mono ?_; rintro e w3 ⟨v3, rfl, hv3, hb3⟩; have HB3 := hide (HB2.out.trans (hb3.mono HB2.out.size)); have HV3 := hide hv3) | (go_at_call 22; refine (m3.out _ _ (ILst.owned hown4)).mono ?_; rintro e w5 ⟨rfl, hb5⟩; have HB5 := hide (HB4.out.trans (hb5.mono HB4.out.size))) | (go_at_call 23; refine (m4.out _ HB5.out).mono ?_; rintro e w6 ⟨rfl, hb6⟩; have HB6 := hide (HB5.out.trans (hb6.mono HB5.out.size))) | (go_at_call 24; refine (m5.out _ _ _ ((((HV2.out.on hb3).on hb4).on hb5).on hb6) (((HV3.out.on hb4).on hb5).on hb6)).mono ?_; rintro e w7 ⟨rfl, hb7⟩; have HB7 := hide (HB6.out.trans (hb7.mono HB6.out.size))) | (go_at_call 17; refine (mw _).mono ?_; rintro e w8 ⟨rfl, hb8⟩))
  go_ret
  exact ⟨rfl, HB7.out.trans (hb8.mono HB7.out.size)⟩
end Go.Proofs.Ytaffoannpnifmaa
