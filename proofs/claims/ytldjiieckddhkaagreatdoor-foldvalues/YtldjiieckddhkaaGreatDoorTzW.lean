import Derived.Test.YtldjiieckddhkaaGreatDoorMg12
import Derived.Lib.QuietBelow
import Derived.BigQuiet
namespace Go.Proofs.YtldjiieckddhkaaGreatDoor
open Go.RowKit Go.Sort
set_option maxRecDepth 100000 in
set_option maxHeartbeats 1600000 in
theorem among_any (a b c : Int) (ts : List Int) (g cap : Nat) (w : World) (hg : Glo w) (hgl : g < w.heap.size) (hc : ∀ j t, ts[j]? = some t → w.cell? ⟨g, j, none⟩ = some (.int .i64 t)) (hl : ts.length ≤ 1000) :
    Calls Tryz.prog 140 #[.agg #[.int .i64 a, .int .i64 b, .int .i64 c], .slice (some ⟨g, 0, none⟩) ts.length cap] w fun e w' => e = .returned (.int .i64 (kAmong ⟨a, b, c⟩ ts)) ∧ Below w.heap.size w w' := by
  have B0 := hide ((Below.refl w.heap.size w).alloc (Nat.le_refl _) (.cells #[.int .i64 a, .int .i64 b, .int .i64 c] 52))
  have cf := kfits_any a b c 3 _ (hg.below B0.out hg.lt)
  have HC : Hid (∀ j t, ts[j]? = some t → (w.alloc (.cells #[.int .i64 a, .int .i64 b, .int .i64 c] 52)).cell? ⟨g, j, none⟩ = some (.int .i64 t)) := fun j t h => (B0.out.cell (p := ⟨g, j, none⟩) hgl).trans (hc j t h)
  have HK : Hid (kAmong ⟨a, b, c⟩ ts = if ts.any (fun t => decide ((⟨a, b, c⟩ : Kd) = kT t)) then 0 else kFits ⟨a, b, c⟩ 3) := rfl
  have hz : (w.alloc (.cells #[.int .i64 a, .int .i64 b, .int .i64 c] 52)).heap.size = w.heap.size + 1 := World.size_alloc _ _
  rw [hz] at cf
  have d0 : ∀ j u, (#[.int .i64 a, .int .i64 b, .int .i64 c] : Array Value)[j]? = some u → (w.alloc (.cells #[.int .i64 a, .int .i64 b, .int .i64 c] 52)).cell? ⟨w.heap.size, j, none⟩ = some u := fun j u h => by rw [Lib.cell_of_heap (heap_alloc_new w _)]; exact h
  have e0 := d0 0 _ rfl
  have e1 := d0 1 _ rfl
  have e2 := d0 2 _ rfl
  clear hg hgl hc hz d0
  generalize kAmong ⟨a, b, c⟩ ts = R at *
  obtain ⟨n, hn⟩ : ∃ n, n = ts.length := ⟨_, rfl⟩
  rw [← hn] at hl ⊢
  have HN := hide hn
  clear hn
  have n0 : (0 : Int) ≤ (n : Int) := by omega
  go_enter Tryz.func140, Tryz.ntmps140
  go_wp2_with fail
  generalize w.alloc (.cells #[.int .i64 a, .int .i64 b, .int .i64 c] 52) = W0 at *
  go_loopw [9] (fun i wr => ∃ k : Nat, k ≤ n ∧ i = .int .i64 (k : Int) ∧ wr = W0 ∧ Hid (∀ t ∈ ts.take k, (⟨a, b, c⟩ : Kd) ≠ kT t)) (fun i _ => n - (intOf i).toNat)
  case atStart => exact ⟨0, by omega, rfl, rfl, fun t h => by simp at h⟩
  case round =>
    obtain ⟨k, hk, rfl, rfl, HT⟩ := hrel
    by_cases hlt : k < n
    · have j1 : (k : Int) < (n : Int) := by omega
      have j0 : (0 : Int) ≤ (k : Int) := by omega
      obtain ⟨t, ht⟩ : ∃ t, ts[k]? = some t := ⟨_, List.getElem?_eq_getElem (by rw [← HN.out]; exact hlt)⟩
      have c0 := HC.out k t ht
      have HTT := hide ht
      have hq := eq52 a b c t 0 0
      clear ht
      by_cases he : a = t ∧ b = 0 ∧ c = 0
      · rw [decide_eq_true he] at hq
        have HF : Hid (R = 0) := by
          show _ = _
          rw [HK.out, if_pos]
          exact List.any_eq_true.2 ⟨t, List.mem_of_getElem? HTT.out, by obtain ⟨rfl, rfl, rfl⟩ := he; exact decide_eq_true rfl⟩
        clear he cf
        go_wp2
        go_ret
        exact ⟨by rw [HF.out]; rfl, B0.out⟩
      · rw [decide_eq_false he] at hq
        have HT2 : Hid (∀ t ∈ ts.take (k + 1), (⟨a, b, c⟩ : Kd) ≠ kT t) := by
          intro u hu
          rw [List.take_add_one, HTT.out, List.mem_append] at hu
          rcases hu with hu | hu
          · exact HT.out u hu
          · rw [List.mem_singleton.1 hu]; exact fun h => he (by unfold kT at h; injection h with h3 h4 h5; exact ⟨h3, h4, h5⟩)
        clear he cf
        go_wp2
        go_roundw
        case rel => exact ⟨k + 1, by omega, by go_num, by simp, HT2.out⟩
        case measure => simp [intOf]; omega
    · obtain rfl : k = n := by omega
      have HF : Hid (R = kFits ⟨a, b, c⟩ 3) := by
        show _ = _
        rw [HK.out, if_neg]
        intro h
        obtain ⟨t, ht, e⟩ := List.any_eq_true.1 h
        exact HT.out t (by rw [List.take_of_length_le (by rw [← HN.out]; omega)]; exact ht) (of_decide_eq_true e)
      go_wp2_with fail
      refine cf.mono ?_
      rintro e w1 ⟨rfl, hb⟩
      have HB := hide (B0.out.trans (hb.mono (by omega)))
      clear cf hb
      go_wp2
      go_ret
      exact ⟨by rw [HF.out]; rfl, HB.out⟩
def FindOut (l : List Vv) (s : Bs) (sh : Bool × Bool) (x : Vv) (e : Int) : Prop := match findV (l.map vrV) s sh with
  | .ok u => e = 0 ∧ vrV x = u
  | .error er => e = er ∧ e ≠ 0
def zV : Vv := ⟨⟨#[]⟩, 0, 0, 0, 0⟩
theorem eq159 (a b a' b' : Bool) (W : World) : (binOp .neq 159 (.agg #[.bool a, .bool b]) (.agg #[.bool a', .bool b'])).run Tryz.prog W = .ok (.bool (decide ((a, b) ≠ (a', b')))) W := by
  cases a <;> cases b <;> cases a' <;> cases b' <;> simp [go_sem]
set_option maxRecDepth 100000 in
set_option maxHeartbeats 1600000 in
theorem find_any (v : Value) (l : List Vv) (s : ByteArray) (a b : Bool) (w : World) (hL : VLst w v l) (hlen : l.length ≤ 4398046510976) :
    Calls Tryz.prog 139 #[v, .string s, .agg #[.bool a, .bool b]] w fun e w' => (∃ x e', e = .returned (.tuple #[.agg #[.string x.s, .int .i64 x.ty, .int .i64 x.len, .int .i64 x.init, .int .i64 x.dir], .int .i64 e']) ∧ FindOut l s.data.toList (a, b) x e') ∧ Below w.heap.size w w' := by
  obtain ⟨av, bl, off, cap, rfl, hA, hI⟩ := hL
  have B0 := hide (((Below.refl w.heap.size w).alloc (Nat.le_refl _) (.cells #[.bool a, .bool b] 159)).alloc (by simp) (.cells #[.string ⟨#[]⟩, .int .i64 0, .int .i64 0, .int .i64 0, .int .i64 0] 50))
  have HA := hide hA
  have HI := hide hI
  obtain ⟨N, hN⟩ : ∃ N, N = l.length := ⟨_, rfl⟩
  have HN := hide hN
  rw [← hN] at hlen ⊢
  have n0 : (0 : Int) ≤ (N : Int) := by omega
  clear hN hA hI
  go_enter Tryz.func139, Tryz.ntmps139
  go_wp2_with fail
  go_loopw [12] (fun i wr => ∃ k : Nat, k ≤ N ∧ i = .int .i64 (k : Int) ∧ Hid (wr.heap[w.heap.size]? = some (.cells #[.bool a, .bool b] 159) ∧ wr.heap[w.heap.size + 1]? = some (.cells #[.string ⟨#[]⟩, .int .i64 0, .int .i64 0, .int .i64 0, .int .i64 0] 50) ∧ Below w.heap.size w wr ∧ findV ((l.map vrV).drop k) s.data.toList (a, b) = findV (l.map vrV) s.data.toList (a, b))) (fun i _ => N - (intOf i).toNat)
  case atStart => exact ⟨0, by omega, rfl, by rw [Lib.alloc_old _ _ _ (by simp)]; exact heap_alloc_new w _, by have := heap_alloc_new (w.alloc (.cells #[.bool a, .bool b] 159)) (.cells #[.string ⟨#[]⟩, .int .i64 0, .int .i64 0, .int .i64 0, .int .i64 0] 50); rwa [World.size_alloc] at this, B0.out, rfl⟩
  case round =>
    clear B0
    obtain ⟨k, hk, rfl, hh⟩ := hrel
    have hs := hh.out.1
    have hblk := hh.out.2.1
    have HB := hide hh.out.2.2.1
    have HF := hide hh.out.2.2.2
    have z0 : w.heap.size + 1 < wr.heap.size := (Array.getElem?_eq_some_iff.1 hblk).1
    clear hh
    by_cases hlt : k < N
    · have j1 : (k : Int) < (N : Int) := by omega
      have j0 : (0 : Int) ≤ (k : Int) := by omega
      obtain ⟨y, hy⟩ : ∃ y, l[k]? = some y := ⟨_, List.getElem?_eq_getElem (by rw [← HN.out]; exact hlt)⟩
      obtain ⟨hbw, rfl⟩ := HA.out (by rw [← HN.out]; omega)
      obtain ⟨q0, q1, q2, q3, q4⟩ := HI.out k y hy
      have c0 := (HB.out.cell (p := ⟨bl, off + k * 5, none⟩) hbw).trans q0
      have c1 := (HB.out.cell (p := ⟨bl, off + k * 5 + 1, none⟩) hbw).trans q1
      have c2 := (HB.out.cell (p := ⟨bl, off + k * 5 + 2, none⟩) hbw).trans q2
      have c3 := (HB.out.cell (p := ⟨bl, off + k * 5 + 3, none⟩) hbw).trans q3
      have c4 := (HB.out.cell (p := ⟨bl, off + k * 5 + 4, none⟩) hbw).trans q4
      have HD : Hid ((l.map vrV).drop k = vrV y :: (l.map vrV).drop (k + 1)) := by
        show _ = _
        have hkl : k < (l.map vrV).length := by rw [List.length_map, ← HN.out]; exact hlt
        rw [List.drop_eq_getElem_cons hkl]
        congr 1
        rw [List.getElem_map]
        exact congrArg vrV (Option.some.inj ((List.getElem?_eq_getElem (by rw [← HN.out]; exact hlt)).symm.trans hy))
      clear q0 q1 q2 q3 q4 hy
      have zr := HB.out.size
      obtain ⟨W1, hW1⟩ : ∃ W1, W1 = wr.alloc (.cells #[.string y.s, .int .i64 y.ty, .int .i64 y.len, .int .i64 y.init, .int .i64 y.dir] 50) := ⟨_, rfl⟩
      have HB1 : Hid (Below w.heap.size w W1) := by rw [hW1]; exact HB.out.alloc zr _
      have hs1 : W1.heap[w.heap.size]? = some (.cells #[.bool a, .bool b] 159) := by rw [hW1, Lib.alloc_old wr _ _ (by omega)]; exact hs
      have hblk1 : W1.heap[w.heap.size + 1]? = some (.cells #[.string ⟨#[]⟩, .int .i64 0, .int .i64 0, .int .i64 0, .int .i64 0] 50) := by rw [hW1, Lib.alloc_old wr _ _ z0]; exact hblk
      have hy1 : W1.heap[wr.heap.size]? = some (.cells #[.string y.s, .int .i64 y.ty, .int .i64 y.len, .int .i64 y.init, .int .i64 y.dir] 50) := by rw [hW1]; exact heap_alloc_new wr _
      have HW1 := hide hW1
      clear hW1
      by_cases hname : y.s = s
      · have hnn : (y.s.toList == s.toList) = true := by rw [beq_text]; exact decide_eq_true hname
        have d : ∀ j u, (#[.string y.s, .int .i64 y.ty, .int .i64 y.len, .int .i64 y.init, .int .i64 y.dir] : Array Value)[j]? = some u → ∀ dd os, (grow (redrawn W1 dd) os).cell? ⟨wr.heap.size, j, none⟩ = some u := fun j u h => cell_regrown (by rw [Lib.cell_of_heap hy1]; exact h)
        have d0 := d 0 _ rfl
        have d1 := d 1 _ rfl
        have d2 := d 2 _ rfl
        have d3 := d 3 _ rfl
        have d4 := d 4 _ rfl
        have f : ∀ j u, (#[.bool a, .bool b] : Array Value)[j]? = some u → ∀ dd os, (grow (redrawn W1 dd) os).cell? ⟨w.heap.size, j, none⟩ = some u := fun j u h => cell_regrown (by rw [Lib.cell_of_heap hs1]; exact h)
        have f0 := f 0 _ rfl
        have f1 := f 1 _ rfl
        have cs : ∀ dd os, Calls Tryz.prog 160 #[.agg #[.string y.s, .int .i64 y.ty, .int .i64 y.len, .int .i64 y.init, .int .i64 y.dir]] (grow (redrawn W1 dd) os) fun e w2 => e = .returned (.agg #[.bool (decide (0 < y.len)), .bool (decide (100 < y.ty))]) ∧ ∃ q : Regrown, w2 = grow (redrawn W1 q.d) q.os := fun dd os => Calls.regrown_of (shapeOf_any _ _ _ _ _ _)
        have hq := eq159 (decide (0 < y.len)) (decide (100 < y.ty)) a b
        have HR : Hid (∀ dd os, (grow (redrawn W1 dd) os).heap[w.heap.size + 1]? = some (.cells #[.string ⟨#[]⟩, .int .i64 0, .int .i64 0, .int .i64 0, .int .i64 0] 50) ∧ (grow (redrawn W1 dd) os).heap[wr.heap.size]? = some (.cells #[.string y.s, .int .i64 y.ty, .int .i64 y.len, .int .i64 y.init, .int .i64 y.dir] 50) ∧ Below w.heap.size w (grow (redrawn W1 dd) os)) := fun dd os =>
          ⟨((below_regrown W1 dd os).block _ (Array.getElem?_eq_some_iff.1 hblk1).1).trans hblk1, ((below_regrown W1 dd os).block _ (Array.getElem?_eq_some_iff.1 hy1).1).trans hy1, HB1.out.trans ((below_regrown W1 dd os).mono HB1.out.size)⟩
        have HFS : Hid (findV (l.map vrV) s.data.toList (a, b) = if shV (vrV y) = (a, b) then .ok (vrV y) else .error 91) := by
          show _ = _
          rw [← HF.out, HD.out, findV, if_pos (show (vrV y).name = s.data.toList by show y.s.data.toList = _; rw [hname])]
        have HSH : Hid (shV (vrV y) = (decide (0 < y.len), decide (100 < y.ty))) := rfl
        clear d f hs hblk hs1 hblk1 hy1 hname
        generalize decide (0 < y.len) = L1 at *
        generalize decide (100 < y.ty) = L2 at *
        cases hsh : decide ((L1, L2) ≠ (a, b)) with
        | true =>
          rw [hsh] at hq
          have HSS := hide hsh
          clear hsh
          go_wp2_with fail
          rw [← HW1.out]
          refine wp_region_quiet_below (by kernel_rfl) (by kernel_rfl) ?_
          repeat (go_big_quiet_step (first | (go_at_call 160; with_reducible exact cs _ _)))
          refine wpQuiet_nil ?_
          intro _ hw'
          obtain ⟨⟨dq, osq⟩, hw''⟩ := hw'
          subst hw''
          obtain ⟨hb1, hb2, hb3⟩ := HR.out dq osq
          have HB3 := hide hb3
          have g0 := d0 dq osq
          have g1 := d1 dq osq
          have g2 := d2 dq osq
          have g3 := d3 dq osq
          have g4 := d4 dq osq
          generalize grow (redrawn W1 dq) osq = W2 at *
          have e0 : ∀ j, W2.frozen? ⟨w.heap.size + 1, j, none⟩ = false := fun j => Lib.frozen_of_heap hb1 j
          have r : ∀ j u, (#[.string ⟨#[]⟩, .int .i64 0, .int .i64 0, .int .i64 0, .int .i64 0] : Array Value)[j]? = some u → W2.cell? ⟨w.heap.size + 1, j, none⟩ = some u := fun j u h => by rw [Lib.cell_of_heap hb1]; exact h
          have r0 := r 0 _ rfl
          have r1 := r 1 _ rfl
          have r2 := r 2 _ rfl
          have r3 := r 3 _ rfl
          have r4 := r 4 _ rfl
          have zw : w.heap.size + 1 ≠ wr.heap.size := by omega
          clear r d0 d1 d2 d3 d4 f0 f1 cs hb1 hb2 hb3 HR
          go_wp2
          refine bodyPost_ret (v := .tuple #[.agg #[.string ⟨#[]⟩, .int .i64 0, .int .i64 0, .int .i64 0, .int .i64 0], .int .i64 91]) (by simp [results, Tryz.results139, go_sem, *]) rfl ⟨⟨zV, 91, rfl, ?_⟩, ?_⟩
          · unfold FindOut
            rw [HFS.out, HSH.out, if_neg (of_decide_eq_true HSS.out)]
            exact ⟨rfl, by decide⟩
          · exact (((((HB3.out.setCell (p := ⟨w.heap.size + 1, 0, none⟩) (by show w.heap.size ≤ w.heap.size + 1; omega) _).setCell (p := ⟨w.heap.size + 1, 1, none⟩) (by show w.heap.size ≤ w.heap.size + 1; omega) _).setCell (p := ⟨w.heap.size + 1, 2, none⟩) (by show w.heap.size ≤ w.heap.size + 1; omega) _).setCell (p := ⟨w.heap.size + 1, 3, none⟩) (by show w.heap.size ≤ w.heap.size + 1; omega) _).setCell (p := ⟨w.heap.size + 1, 4, none⟩) (by show w.heap.size ≤ w.heap.size + 1; omega) _)
        | false =>
          rw [hsh] at hq
          have HSS := hide hsh
          clear hsh
          go_wp2_with fail
          rw [← HW1.out]
          refine wp_region_quiet_below (by kernel_rfl) (by kernel_rfl) ?_
          repeat (go_big_quiet_step (first | (go_at_call 160; with_reducible exact cs _ _)))
          refine wpQuiet_nil ?_
          intro _ hw'
          obtain ⟨⟨dq, osq⟩, hw''⟩ := hw'
          subst hw''
          obtain ⟨hb1, hb2, hb3⟩ := HR.out dq osq
          have HB3 := hide hb3
          have g0 := d0 dq osq
          have g1 := d1 dq osq
          have g2 := d2 dq osq
          have g3 := d3 dq osq
          have g4 := d4 dq osq
          generalize grow (redrawn W1 dq) osq = W2 at *
          have e0 : ∀ j, W2.frozen? ⟨w.heap.size + 1, j, none⟩ = false := fun j => Lib.frozen_of_heap hb1 j
          have r : ∀ j u, (#[.string ⟨#[]⟩, .int .i64 0, .int .i64 0, .int .i64 0, .int .i64 0] : Array Value)[j]? = some u → W2.cell? ⟨w.heap.size + 1, j, none⟩ = some u := fun j u h => by rw [Lib.cell_of_heap hb1]; exact h
          have r0 := r 0 _ rfl
          have r1 := r 1 _ rfl
          have r2 := r 2 _ rfl
          have r3 := r 3 _ rfl
          have r4 := r 4 _ rfl
          have zw : w.heap.size + 1 ≠ wr.heap.size := by omega
          clear r d0 d1 d2 d3 d4 f0 f1 cs hb1 hb2 hb3 HR
          go_wp2
          refine bodyPost_ret (v := .tuple #[.agg #[.string y.s, .int .i64 y.ty, .int .i64 y.len, .int .i64 y.init, .int .i64 y.dir], .int .i64 0]) (by simp [results, Tryz.results139, go_sem, *]) rfl ⟨⟨y, 0, rfl, ?_⟩, ?_⟩
          · unfold FindOut
            rw [HFS.out, HSH.out, if_pos (Decidable.byContradiction (of_decide_eq_false HSS.out))]
            exact ⟨rfl, rfl⟩
          · exact (((((HB3.out.setCell (p := ⟨w.heap.size + 1, 0, none⟩) (by show w.heap.size ≤ w.heap.size + 1; omega) _).setCell (p := ⟨w.heap.size + 1, 1, none⟩) (by show w.heap.size ≤ w.heap.size + 1; omega) _).setCell (p := ⟨w.heap.size + 1, 2, none⟩) (by show w.heap.size ≤ w.heap.size + 1; omega) _).setCell (p := ⟨w.heap.size + 1, 3, none⟩) (by show w.heap.size ≤ w.heap.size + 1; omega) _).setCell (p := ⟨w.heap.size + 1, 4, none⟩) (by show w.heap.size ≤ w.heap.size + 1; omega) _)
      · have hnn : (y.s.toList == s.toList) = false := by rw [beq_text]; exact decide_eq_false hname
        have HFS : Hid (findV ((l.map vrV).drop (k + 1)) s.data.toList (a, b) = findV (l.map vrV) s.data.toList (a, b)) := by
          show _ = _
          rw [← HF.out, HD.out, findV, if_neg (show ¬ (vrV y).name = s.data.toList from fun h => hname (text_ext h))]
        have BB := hide (And.intro hs1 (And.intro hblk1 HB1.out))
        clear hs hblk hs1 hblk1 hy1 hname HB
        go_wp2_with fail
        rw [← HW1.out]
        go_wp2
        go_roundw
        case rel => exact ⟨k + 1, by omega, by go_num, BB.out.1, BB.out.2.1, BB.out.2.2, HFS.out⟩
        case measure => simp [intOf]; omega
    · obtain rfl : k = N := by omega
      have HFS : Hid (findV (l.map vrV) s.data.toList (a, b) = .error 90) := by
        show _ = _
        rw [← HF.out, List.drop_of_length_le (by rw [List.length_map, ← HN.out]; omega)]; rfl
      have e0 : ∀ j, wr.frozen? ⟨w.heap.size + 1, j, none⟩ = false := fun j => Lib.frozen_of_heap hblk j
      have r : ∀ j u, (#[.string ⟨#[]⟩, .int .i64 0, .int .i64 0, .int .i64 0, .int .i64 0] : Array Value)[j]? = some u → wr.cell? ⟨w.heap.size + 1, j, none⟩ = some u := fun j u h => by rw [Lib.cell_of_heap hblk]; exact h
      have r0 := r 0 _ rfl
      have r1 := r 1 _ rfl
      have r2 := r 2 _ rfl
      have r3 := r 3 _ rfl
      have r4 := r 4 _ rfl
      clear r hs hblk
      go_wp2
      refine bodyPost_ret (v := .tuple #[.agg #[.string ⟨#[]⟩, .int .i64 0, .int .i64 0, .int .i64 0, .int .i64 0], .int .i64 90]) (by simp [results, Tryz.results139, go_sem, *]) rfl ⟨⟨zV, 90, rfl, ?_⟩, ?_⟩
      · unfold FindOut
        rw [HFS.out]
        exact ⟨rfl, by decide⟩
      · exact (((((HB.out.setCell (p := ⟨w.heap.size + 1, 0, none⟩) (by show w.heap.size ≤ w.heap.size + 1; omega) _).setCell (p := ⟨w.heap.size + 1, 1, none⟩) (by show w.heap.size ≤ w.heap.size + 1; omega) _).setCell (p := ⟨w.heap.size + 1, 2, none⟩) (by show w.heap.size ≤ w.heap.size + 1; omega) _).setCell (p := ⟨w.heap.size + 1, 3, none⟩) (by show w.heap.size ≤ w.heap.size + 1; omega) _).setCell (p := ⟨w.heap.size + 1, 4, none⟩) (by show w.heap.size ≤ w.heap.size + 1; omega) _)
end Go.Proofs.YtldjiieckddhkaaGreatDoor
