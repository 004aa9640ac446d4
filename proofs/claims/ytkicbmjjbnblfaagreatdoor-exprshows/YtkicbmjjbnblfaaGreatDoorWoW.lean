/- The contract of the law's works. -/
import Derived.Test.YtkicbmjjbnblfaaGreatDoorRdW
import Derived.Test.YtkicbmjjbnblfaaGreatDoorSpA
namespace Go.Proofs.YtkicbmjjbnblfaaGreatDoor
open Go.RowKit
def pvOf (p : Pt) : Pv := ⟨p.kind, p.n, p.t, ⟨p.s.toArray⟩, ⟨p.f.toArray⟩⟩
theorem pv_back (x : Pv) : pvOf (ptV x) = x := by
  obtain ⟨a, b, c, d, e⟩ := x
  simp [pvOf, ptV]
theorem pvs_back {xs : List Pv} {x : List Pt} (h : xs.map ptV = x) : xs = x.map pvOf := by
  rw [← h, List.map_map]
  have : (pvOf ∘ ptV) = id := funext pv_back
  rw [this, List.map_id]
theorem PLst.own {w w' : World} {base : Nat} {v : Value} {l : List Pv} (h : w.ownsRow base 39 5 v l.length (pvsC l)) (hb : Below w.heap.size w w') : PLst w' v l := (PLst.of_owns h).below hb (Nat.le_refl _)
theorem own_lit (w : World) (l : List Pv) (arr : Array Value) (h : arr.toList = pvsC l) (hl : l.length ≤ 1000) : (w.alloc (.cells arr 39)).ownsRow w.heap.size 39 5 (.slice (some ⟨w.heap.size, 0, none⟩) l.length l.length) l.length (pvsC l) := by
  have hz : arr.size = l.length * 5 := by rw [← Array.length_toList, h, pvsC_length]
  refine ⟨pvsC_length l, .inr ⟨w.heap.size, l.length, arr, rfl, Nat.le_refl _, heap_alloc_new w _, Nat.le_refl _, by unfold maxLen; omega, hz, ?_⟩⟩
  rw [h, List.take_of_length_le (by rw [pvsC_length]; exact Nat.le_refl _)]
set_option maxRecDepth 100000 in
set_option maxHeartbeats 6400000 in
theorem works_ok (w : World) (hg : Glo w) : Calls Tryz.prog 16 #[] w fun e w' => e = .returned (.bool true) ∧ Below w.heap.size w w' := by
  have c1 := read_ok t1 x1 read1 w hg
  have HG := hide hg
  unfold t1 at c1
  clear hg
  go_enter Tryz.func16, Tryz.ntmps16
  go_wp2_with fail
  refine c1.mono ?_
  rintro e w1 ⟨v, xs, rfl, hxs, hown, hb1⟩
  have c2 := read_ok t2 x2 read2 w1 (HG.out.on hb1)
  unfold t2 at c2
  have hxe := pvs_back hxs
  have HO1 := hide hown
  have B1 := hide hb1
  obtain ⟨va, vcap, hv, hvc⟩ := own_form3 hown
  have HXE := hide hxe
  have hx7 : xs.length = 7 := by rw [hxe]; rfl
  rw [hx7] at hv
  subst hv
  clear c1 hxs hown hb1 hxe
  go_wp2_with fail
  refine c2.mono ?_
  rintro e w2 ⟨u, ys, rfl, hys, hown2, hb2⟩
  have hye := pvs_back hys
  have B2 := hide (B1.out.trans (hb2.mono B1.out.size))
  have HP1 := hide (PLst.own HO1.out hb2)
  have HP2 := hide (PLst.of_owns hown2)
  obtain ⟨ua, ucap, hu, huc⟩ := own_form3 hown2
  have hy7 : ys.length = 7 := by rw [hye]; rfl
  rw [hy7] at hu
  subst hu
  clear c2 hys hown2 hb2
  have c3 := sameParts_any (.slice va 7 vcap) (.slice (some ⟨w2.heap.size, 0, none⟩) 7 7) xs (x1.map pvOf) (w2.alloc (.cells #[.int .i64 2, .int .i64 0, .int .i64 0, .string ⟨#[65]⟩, .string ⟨#[]⟩, .int .i64 2, .int .i64 0, .int .i64 0, .string ⟨#[66]⟩, .string ⟨#[]⟩, .int .i64 1, .int .i64 2, .int .i64 0, .string ⟨#[]⟩, .string ⟨#[]⟩, .int .i64 5, .int .i64 3, .int .i64 0, .string ⟨#[]⟩, .string ⟨#[]⟩, .int .i64 5, .int .i64 1, .int .i64 0, .string ⟨#[]⟩, .string ⟨#[]⟩, .int .i64 1, .int .i64 7, .int .i64 0, .string ⟨#[]⟩, .string ⟨#[]⟩, .int .i64 5, .int .i64 11, .int .i64 0, .string ⟨#[]⟩, .string ⟨#[]⟩] 39)) (HP1.out.below ((Below.refl w2.heap.size w2).alloc (Nat.le_refl _) _) (Nat.le_refl _)) (PLst.of_owns (own_lit w2 (x1.map pvOf) _ rfl (by decide))) (by omega) (by decide)
  have BB := hide ((Below.refl w2.heap.size w2).alloc (Nat.le_refl _) (.cells #[.int .i64 2, .int .i64 0, .int .i64 0, .string ⟨#[65]⟩, .string ⟨#[]⟩, .int .i64 2, .int .i64 0, .int .i64 0, .string ⟨#[66]⟩, .string ⟨#[]⟩, .int .i64 1, .int .i64 2, .int .i64 0, .string ⟨#[]⟩, .string ⟨#[]⟩, .int .i64 5, .int .i64 3, .int .i64 0, .string ⟨#[]⟩, .string ⟨#[]⟩, .int .i64 5, .int .i64 1, .int .i64 0, .string ⟨#[]⟩, .string ⟨#[]⟩, .int .i64 1, .int .i64 7, .int .i64 0, .string ⟨#[]⟩, .string ⟨#[]⟩, .int .i64 5, .int .i64 11, .int .i64 0, .string ⟨#[]⟩, .string ⟨#[]⟩] 39))
  go_wp2_with fail
  refine c3.mono ?_
  rintro e w3 ⟨⟨bb, rfl, hbb⟩, hb3⟩
  obtain rfl : bb = true := hbb.2 HXE.out
  have b3 := BB.out.trans (hb3.mono BB.out.size)
  have B3 := hide (B2.out.trans (b3.mono B2.out.size))
  obtain ⟨q, qb, qo, qc, hq1, hq2, hq3⟩ := HP2.out.below b3 (Nat.le_refl _)
  injection hq1 with e1 e2 e3
  subst e1 e3
  obtain ⟨hq4, rfl⟩ := hq2 (by omega)
  obtain ⟨g0, g1, g2, g3, g4⟩ := hq3 3 ⟨3, 0, 0, ⟨#[65]⟩, ⟨#[]⟩⟩ (by rw [hye]; rfl)
  obtain ⟨f0, f1, f2, f3, f4⟩ := hq3 5 ⟨4, 0, 0, ⟨#[84]⟩, ⟨#[81]⟩⟩ (by rw [hye]; rfl)
  simp only [] at g0 g1 g2 g3 g4 f0 f1 f2 f3 f4
  clear c3 hbb hb3 b3 hq3 HP2 HP1 HXE hye HO1 e2
  go_wp2
  go_ret
  exact ⟨rfl, B3.out⟩
end Go.Proofs.YtkicbmjjbnblfaaGreatDoor
