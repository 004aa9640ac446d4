/- The contract of the laws' works: the chapter's example. -/
import Derived.Test.YtelhfdhgcojmlaaDoorEncW
namespace Go.Proofs.YtelhfdhgcojmlaaDoor
open Go.RowKit
theorem ex_list (w : World) : Lst (w.alloc (.cells #[.bool false, .int .i64 1, .string ⟨#[]⟩, .bool true, .int .i64 0, .string ⟨#[97, 98]⟩] 38)) (.slice (some ⟨w.heap.size, 0, none⟩) 2 2) exList :=
  Lst.of_owns (base := w.heap.size) (World.ownsRow_lit w _ 2 (Nat.le_refl _) (by unfold maxLen; omega) rfl)
theorem ex_ok : okL exList := by
  refine ⟨by decide, fun x hx => ?_⟩
  rcases List.mem_cons.1 hx with rfl | hx
  · exact ⟨by decide, by decide⟩
  · rw [List.mem_singleton.1 hx]; exact ⟨by decide, by decide⟩
theorem ex_encL : encL exList = [0, 2, 35, 0, 0, 0, 0, 0, 0, 0, 1, 36, 0, 2, 97, 98] := by
  unfold encL; rw [if_pos ex_enc.1, ex_enc.2]
set_option maxRecDepth 100000 in
set_option maxHeartbeats 1600000 in
theorem works_any (w : World) (hg : Glo w) : Calls Tryd.prog 14 #[] w fun e w' => e = .returned (.bool true) ∧ Below w.heap.size w w' := by
  have HG := hide hg
  have h0 := hg.lt
  have c1 := encode_any _ _ _ (ex_list w) ex_ok
  rw [ex_encL, ex_enc.1] at c1
  have c2 : ∀ W, Glo W → Calls Tryd.prog 10 #[.string ⟨#[0, 1, 35, 255, 255, 255, 255, 255, 255, 255, 255]⟩] W (DecOut [0, 1, 35, 255, 255, 255, 255, 255, 255, 255, 255] W) := fun W hG => decode_any ⟨#[0, 1, 35, 255, 255, 255, 255, 255, 255, 255, 255]⟩ (by decide) W hG
  have hd := hide ex_dec
  clear hg
  go_enter Tryd.func14, Tryd.ntmps14
  go_wp2_with fail
  refine c1.mono ?_
  rintro e w1 ⟨rfl, hb1⟩
  have B1 : Hid (Below w.heap.size w w1) := ((Below.refl _ _).alloc (Nat.le_refl _) _).trans (hb1.mono (by simp))
  clear hb1 c1
  go_wp2_with fail
  refine (c2 _ (HG.out.below B1.out h0)).mono ?_
  rintro e w2 ⟨v, l, p, c, hdec, rfl, hown, hb2⟩
  rw [hd.out] at hdec
  injection hdec with e1 e2
  injection e2 with e2 e3
  subst e1 e2 e3
  obtain ⟨g, cap, rfl, _, hgl⟩ := hown.form (by decide)
  have d1 : w2.cell? ⟨g, 1, none⟩ = some (.int .i64 (-1)) := hown.cellAt 1 (by decide)
  have B2 : Hid (Below w.heap.size w w2) := B1.out.trans (hb2.mono B1.out.size)
  have hlen : exOne.length = 1 := rfl
  rw [hlen]
  clear hb2 c2 B1 hown hlen hd
  go_wp2
  go_ret
  exact ⟨rfl, B2.out.alloc B2.out.size _⟩
end Go.Proofs.YtelhfdhgcojmlaaDoor
