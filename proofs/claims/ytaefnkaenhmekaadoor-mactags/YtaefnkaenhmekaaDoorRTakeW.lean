/- The contract of the document's take: a block is taken in. -/
import Derived.Test.YtaefnkaenhmekaaDoorWordsW
import Derived.Test.YtaefnkaenhmekaaDoorConstW
namespace Go.Proofs.YtaefnkaenhmekaaDoor
open Go.RowKit
attribute [local go_sem] wrap_V wrap_add bits_xor bits_and bits_or bits_not
attribute [local go_sem ↓] unary_not_V bits_not' shl_any shr_any
theorem quiet_rot (x : BitVec 32) (n : Int) (h : n ≤ 32) (hn : 0 < n) (w : World) (m : Nat) :
    Calls Tryd.prog 38 #[.int .u32 (V x), .int .i64 n] (w.drewN m) fun e w'' => e = .returned (.int .u32 (V (rotr x n.toNat))) ∧ ∃ q, w'' = w.drewN q :=
  (refrot_any x n h hn (w.drewN m)).mono fun _ _ ⟨h1, k, h2⟩ => ⟨h1, m + k, by rw [h2, World.drewN_drewN]⟩
/-- eight words in a block -/
def S8 (w : World) (g : Nat) (s : St) : Prop := w.cell? ⟨g, 0, none⟩ = some (.int .u32 (V s.a)) ∧ w.cell? ⟨g, 1, none⟩ = some (.int .u32 (V s.b)) ∧ w.cell? ⟨g, 2, none⟩ = some (.int .u32 (V s.c)) ∧ w.cell? ⟨g, 3, none⟩ = some (.int .u32 (V s.d)) ∧
  w.cell? ⟨g, 4, none⟩ = some (.int .u32 (V s.e)) ∧ w.cell? ⟨g, 5, none⟩ = some (.int .u32 (V s.f)) ∧ w.cell? ⟨g, 6, none⟩ = some (.int .u32 (V s.g)) ∧ w.cell? ⟨g, 7, none⟩ = some (.int .u32 (V s.h))
theorem S8.below {w w' : World} {g B : Nat} {s : St} (h : S8 w g s) (hb : Below B w w') (hg : g < B) : S8 w' g s := by
  unfold S8 at *
  rw [hb.cell (p := ⟨g, 0, none⟩) hg, hb.cell (p := ⟨g, 1, none⟩) hg, hb.cell (p := ⟨g, 2, none⟩) hg, hb.cell (p := ⟨g, 3, none⟩) hg, hb.cell (p := ⟨g, 4, none⟩) hg, hb.cell (p := ⟨g, 5, none⟩) hg, hb.cell (p := ⟨g, 6, none⟩) hg, hb.cell (p := ⟨g, 7, none⟩) hg]
  exact h
theorem S8.of_row {w : World} {g : Nat} {s : St} {t : TypeId} {fr : Nat × Nat} (h : w.heap[g]? = some (.cells (encS s) t fr)) : S8 w g s := by
  unfold S8
  simp only [cell_of_row _ _ _ _ _ _ h]
  exact ⟨rfl, rfl, rfl, rfl, rfl, rfl, rfl, rfl⟩
theorem S8_new (w : World) (F : St) (c : Array Value) (h : c = encS F) : S8 (w.alloc (.cells c 42)).drew w.heap.size F := by
  subst h; exact S8.of_row (t := 42) (fr := (0, 0)) (by rw [heap_drew, heap_alloc_new])
set_option maxRecDepth 100000 in
set_option maxHeartbeats 3200000 in
theorem rtake_any (s : St) (bl : List UInt8) (gs cs gb o cb : Nat) (w : World) (hgs : gs < w.heap.size) (hgb : gb < w.heap.size) (hs : S8 w gs s) (hc : ∀ i, i < 64 → w.cell? ⟨gb, o + i, none⟩ = some (.int .u8 ((byteAt bl i).toNat : Int))) :
    Calls Tryd.prog 29 #[.slice (some ⟨gs, 0, none⟩) 8 cs, .slice (some ⟨gb, o, none⟩) 64 cb] w fun e w' => ∃ h, e = .returned (.slice (some ⟨h, 0, none⟩) 8 8) ∧ S8 w' h (takeB s bl) ∧ h < w'.heap.size ∧ Below w.heap.size w w' := by
  have hwords := words_any bl gb o cb w hgb hc
  have hfin : Hid (∀ r, r = rounds (wk bl 64) s 64 → takeB s bl = addSt s r) := fun r hr => by rw [hr]; rfl
  generalize takeB s bl = F at *
  generalize wk bl 64 = ws at *
  have HS : Hid (S8 w gs s) := hs
  clear hs hc
  go_enter Tryd.func29, Tryd.ntmps29
  go_wp2_with fail
  refine hwords.mono ?_
  rintro e w1 ⟨hw, capw, rfl, hwc, hwl, hb1⟩
  clear hwords
  have z1 := hb1.size
  have HW : Hid (∀ t, t < 64 → w1.cell? ⟨hw, t, none⟩ = some (.int .u32 (V (at32 ws t)))) := hwc
  clear hwc
  go_wp2_with fail
  refine (constants_any w1).mono ?_
  rintro e W0 ⟨rfl, hkc, hkl, hb2⟩
  have b2 : Below w.heap.size w W0 := hb1.trans (hb2.mono z1)
  have HK : Hid (∀ t, t < 64 → W0.cell? ⟨w1.heap.size, t, none⟩ = some (.int .u32 (V (kAt t)))) := hkc
  have HW0 : Hid (∀ t, t < 64 → W0.cell? ⟨hw, t, none⟩ = some (.int .u32 (V (at32 ws t)))) := fun t ht => (hb2.cell (p := ⟨hw, t, none⟩) hwl).trans (HW.out t ht)
  have hS0 : S8 W0 gs s := HS.out.below b2 hgs
  have gs0 : gs < W0.heap.size := by have := b2.size; omega
  have B0 : Hid (Below w.heap.size w W0) := b2
  clear hkc hb1 hb2 b2 HW HS z1 hkl
  generalize w1.heap.size = gk at *
  obtain ⟨c0, c1, c2, c3, c4, c5, c6, c7⟩ := hS0
  go_wp2
  go_quiet (fail)
  go_wp2
  go_quiet (fail)
  go_wp2
  go_loopw [7, 8, 9, 10, 11, 12, 13, 14, 15] (fun a b c d e f g h i wr => ∃ (k : Nat) (r : St), k ≤ 64 ∧ i = .int .i64 k ∧ Hid (r = rounds ws s k) ∧ a = .int .u32 (V r.a) ∧ b = .int .u32 (V r.b) ∧ c = .int .u32 (V r.c) ∧ d = .int .u32 (V r.d) ∧ e = .int .u32 (V r.e) ∧ f = .int .u32 (V r.f) ∧ g = .int .u32 (V r.g) ∧ h = .int .u32 (V r.h) ∧ Same W0 wr) (fun _ _ _ _ _ _ _ _ i _ => 64 - (intOf i).toNat)
  case atStart => exact ⟨0, s, by omega, rfl, rfl, rfl, rfl, rfl, rfl, rfl, rfl, rfl, rfl, ⟨rfl, rfl, rfl, rfl⟩⟩
  case round =>
    obtain ⟨k, r, hk, rfl, hr, rfl, rfl, rfl, rfl, rfl, rfl, rfl, rfl, hS⟩ := hrel
    by_cases hlt : k < 64
    · clear c0 c1 c2 c3 c4 c5 c6 c7
      have i0 : (0 : Int) ≤ (k : Int) := by omega
      have i1 : (k : Int) < 64 := by omega
      have t0 : wr.cell? ⟨gk, k, none⟩ = some (.int .u32 (V (kAt k))) := (hS.cell _).trans (HK.out k hlt)
      have t1 := (hS.cell _).trans (HW0.out k hlt)
      go_wp2
      go_quiet ((go_at_call 38; exact quiet_rot _ _ (by omega) (by omega) _ _))
      go_wp2_with (go_at_call 38; refine (refrot_any _ _ (by omega) (by omega) _).mono ?_; rintro e w' ⟨rfl, n, rfl⟩)
      go_roundw
      case rel => exact ⟨k + 1, round r (kAt k) (at32 ws k), by omega, by go_num, by rw [hr.out]; rfl, rfl, rfl, rfl, rfl, rfl, rfl, rfl, rfl, hS.drewN _⟩
      case measure => simp [intOf]; omega
    · have hF : Hid (F = addSt s r) := hfin.out r (by
        have e : k = 64 := by omega
        rw [hr.out, e])
      clear hfin hr
      have i1 : ¬ (k : Int) < 64 := by omega
      clear hlt hk
      generalize (k : Int) = k64 at *
      clear k
      rw [← hS.cell] at c0 c1 c2 c3 c4 c5 c6 c7
      rw [← hS.1] at gs0
      have hB : Hid (Below w.heap.size w wr) := hS.below B0.out
      clear hS B0 HK HW0
      go_wp2
      go_region_held3 (fun w' => w'.cell? ⟨gs, 0, none⟩ = some (.int .u32 (V s.a)) ∧ w'.cell? ⟨gs, 1, none⟩ = some (.int .u32 (V s.b)) ∧ w'.cell? ⟨gs, 2, none⟩ = some (.int .u32 (V s.c)) ∧ w'.cell? ⟨gs, 3, none⟩ = some (.int .u32 (V s.d)) ∧ w'.cell? ⟨gs, 4, none⟩ = some (.int .u32 (V s.e)) ∧ w'.cell? ⟨gs, 5, none⟩ = some (.int .u32 (V s.f)) ∧ w'.cell? ⟨gs, 6, none⟩ = some (.int .u32 (V s.g)) ∧ w'.cell? ⟨gs, 7, none⟩ = some (.int .u32 (V s.h))) (go_keep) (fail)
      go_wp2
      go_ret
      refine ⟨wr.heap.size, rfl, S8_new wr F _ (by rw [hF.out]; rfl), ?_, ?_⟩
      · simp
      · exact (hB.out.alloc hB.out.size _).drew
end Go.Proofs.YtaefnkaenhmekaaDoor
