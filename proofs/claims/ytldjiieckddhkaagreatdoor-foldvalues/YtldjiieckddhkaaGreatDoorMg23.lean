/- CpW | CqW | TmW -/
import Derived.Test.YtldjiieckddhkaaGreatDoorMg22
namespace Go.Proofs.YtldjiieckddhkaaGreatDoor
open Go.RowKit Go.Sort
theorem in38 : (Tryz.prog.info? 38).map (fun i => (i.zero, i.size, i.bytes)) = some (some (.agg #[.int .i64 0, .int .i64 0, .int .i64 0, .string ⟨#[]⟩, .string ⟨#[]⟩]), 5, 56) := by kernel_rfl
set_option maxRecDepth 100000 in
theorem eq23 (a : Addr) (n cap : Nat) (W : World) : (binOp .eql 23 (.slice (some a) n cap) (.slice none 0 0)).run Tryz.prog W = .ok (.bool false) W := by rfl
set_option maxRecDepth 100000 in
set_option maxHeartbeats 1600000 in
theorem pclone_any (b off cap : Nat) (x : List Pv) (w : World) (hb : b < w.heap.size) (hI : PvAt w b off x) (h1 : 1 ≤ x.length) (hlen : x.length ≤ 1000000) :
    Calls Tryz.prog 81 #[.slice (some ⟨b, off, none⟩) x.length cap] w fun e w' => (∃ g c, e = .returned (.slice (some ⟨g, 0, none⟩) x.length c) ∧ w'.ownsRow w.heap.size 38 5 (.slice (some ⟨g, 0, none⟩) x.length c) x.length (pvsC x)) ∧ Below w.heap.size w w' := by
  have HP := hide (pv_cells hI)
  have H1 := hide (pvsC_one x)
  have HL := hide (pvsC_length x)
  obtain ⟨i0, hi, hz0, hz1, hz2⟩ := info_parts in38
  obtain ⟨n, hn⟩ : ∃ n, n = x.length := ⟨_, rfl⟩
  rw [← hn] at h1 hlen HL ⊢
  clear hI hn
  have e0 := eq23 ⟨b, off, none⟩ n cap
  have O0 : Hid ((w.alloc (.cells #[] 38)).ownsRow w.heap.size 38 5 (.slice (some ⟨w.heap.size, 0, none⟩) 0 0) 0 []) := by
    refine ⟨rfl, .inr ⟨w.heap.size, 0, #[], rfl, Nat.le_refl _, heap_alloc_new w _, Nat.le_refl _, ?_, ?_, ?_⟩⟩ <;> first | rfl | simp
  have HP1 : Hid (∀ j u, (pvsC x)[j]? = some u → (w.alloc (.cells #[] 38)).cell? ((⟨b, off, none⟩ : Addr).add j) = some u) := fun j u hu => by
    have h := HP.out j u hu
    rw [Addr.add_mid] at h ⊢
    exact (((Below.refl w.heap.size w).alloc (Nat.le_refl _) (.cells #[] 38)).cell (p := ⟨b, off + j, none⟩) hb).trans h
  have B0 := hide ((Below.refl w.heap.size w).alloc (Nat.le_refl _) (.cells #[] 38))
  go_enter Tryz.func81, Tryz.ntmps81
  go_wp2_with (at_builtin; go_must (refine wpList_append_lies _ rfl _ _ 23 rfl w.heap.size 38 i0 _ 5 56 Tryz.underlying23 hi hz0 hz1 hz2 rfl (by omega) (.slice (some ⟨w.heap.size, 0, none⟩) 0 0) 0 [] rfl O0.out ⟨b, off, none⟩ n cap (pvsC x) rfl HL.out HP1.out H1.out (by omega) (by unfold maxLen; omega) (by omega) (by simp) (w.heap.size + 1) (by simp) ?_; intro g c w1 hown hgrow hat hlt))
  have HO := hide hown
  have HB := hide (B0.out.grown hgrow (by simp) (fun r hr => by have := (O0.out.lt r hr).1; omega))
  clear hown hgrow hat hlt
  go_wp2
  go_ret
  exact ⟨⟨g, c, by simp, by have := HO.out; simpa using this⟩, HB.out⟩
end Go.Proofs.YtldjiieckddhkaaGreatDoor
namespace Go.Proofs.YtldjiieckddhkaaGreatDoor
open Go.RowKit Go.Sort
theorem heap_setCell_id {w : World} {g j t : Nat} {cs : Array Value} {v : Value} (h : w.heap[g]? = some (.cells cs t)) (hv : w.cell? ⟨g, j, none⟩ = some v) : (w.setCell ⟨g, j, none⟩ v).heap[g]? = some (.cells cs t) := by
  rw [heap_setCell_same w g j cs t v h]
  rw [Lib.cell_of_heap h] at hv
  congr 2
  apply Array.ext
  · simp
  · intro i h1 h2
    rw [Array.getElem_setIfInBounds]
    split
    · rename_i e
      subst e
      exact (Option.some.inj ((Array.getElem?_eq_getElem h2).symm.trans hv)).symm
    · rfl
def SC (w : World) (g k : Nat) (y : Pv) (cs : Array Value) (W : World) : Prop := W.cell? ⟨g, k * 5 + 3, none⟩ = some (.string y.s) ∧ W.cell? ⟨g, k * 5 + 4, none⟩ = some (.string y.f) ∧ W.heap[g]? = some (.cells cs 38) ∧ Below w.heap.size w W
theorem SC.set3 {w W : World} {g k : Nat} {y : Pv} {cs : Array Value} (h : SC w g k y cs W) (hg : w.heap.size ≤ g) : SC w g k y cs (W.setCell ⟨g, k * 5 + 3, none⟩ (.string y.s)) := by
  have hb := heap_setCell_id h.2.2.1 h.1
  have e : ∀ j, (W.setCell ⟨g, k * 5 + 3, none⟩ (.string y.s)).cell? ⟨g, j, none⟩ = W.cell? ⟨g, j, none⟩ := fun j => by rw [Lib.cell_of_heap hb, Lib.cell_of_heap h.2.2.1]
  exact ⟨(e _).trans h.1, (e _).trans h.2.1, hb, h.2.2.2.setCell (p := ⟨g, _, none⟩) hg _⟩
theorem SC.set4 {w W : World} {g k : Nat} {y : Pv} {cs : Array Value} (h : SC w g k y cs W) (hg : w.heap.size ≤ g) : SC w g k y cs (W.setCell ⟨g, k * 5 + 4, none⟩ (.string y.f)) := by
  have hb := heap_setCell_id h.2.2.1 h.2.1
  have e : ∀ j, (W.setCell ⟨g, k * 5 + 4, none⟩ (.string y.f)).cell? ⟨g, j, none⟩ = W.cell? ⟨g, j, none⟩ := fun j => by rw [Lib.cell_of_heap hb, Lib.cell_of_heap h.2.2.1]
  exact ⟨(e _).trans h.1, (e _).trans h.2.1, hb, h.2.2.2.setCell (p := ⟨g, _, none⟩) hg _⟩
set_option maxRecDepth 100000 in
set_option maxHeartbeats 3200000 in
theorem copied_any (v : Value) (x : List Pv) (w : World) (hX : PLst w v x) (h1 : 1 ≤ x.length) (hlen : x.length ≤ 1000000) (hs : ∀ y ∈ x, y.s.size ≤ 140737488355000 ∧ y.f.size ≤ 140737488355000) :
    Calls Tryz.prog 41 #[v] w fun e w' => (∃ g c cs, e = .returned (.slice (some ⟨g, 0, none⟩) x.length c) ∧ x.length ≤ c ∧ w.heap.size ≤ g ∧ w'.heap[g]? = some (.cells cs 38) ∧ cs.toList.take (x.length * 5) = pvsC x) ∧ Below w.heap.size w w' := by
  obtain ⟨a, b, off, cap, rfl, hA, hI⟩ := hX
  obtain ⟨hbw, rfl⟩ := hA (by omega)
  have c := pclone_any b off cap x w hbw hI h1 hlen
  have HSZ := hide hs
  obtain ⟨n, hn⟩ : ∃ n, n = x.length := ⟨_, rfl⟩
  have HN := hide hn
  have n5 : (n : Int) ≤ 1000000 := by omega
  have n0 : (0 : Int) ≤ (n : Int) := by omega
  rw [← hn] at c ⊢
  clear hA hI hn hs h1 hlen
  go_enter Tryz.func41, Tryz.ntmps41
  go_wp2_with fail
  refine c.mono ?_
  rintro e W1 ⟨⟨g, cp, rfl, hown⟩, hb⟩
  clear c
  obtain ⟨cs, hg, hgh, hcap, htk⟩ : ∃ cs, w.heap.size ≤ g ∧ W1.heap[g]? = some (.cells cs 38) ∧ n ≤ cp ∧ cs.toList.take (n * 5) = pvsC x := by
    rcases hown.2 with ⟨h1, h2⟩ | ⟨g', cap', cur, h1, r2, r3, r4, r5, r6, r7⟩
    · cases h1
    · injection h1 with e1 e2 e3
      injection e1 with e1
      injection e1 with e1
      subst e1 e3
      exact ⟨cur, r2, r3, r4, r7⟩
  have HT := hide htk
  have HCP := hide hcap
  have HG := hide hg
  have HH := hide hgh
  have HB := hide hb
  clear hown htk hgh hb
  go_wp2_with fail
  go_loopw [9] (fun i wr => ∃ k : Nat, k ≤ n ∧ i = .int .i64 (k : Int) ∧ Hid (wr.heap[g]? = some (.cells cs 38) ∧ Below w.heap.size w wr)) (fun i _ => n - (intOf i).toNat)
  case atStart => exact ⟨0, by omega, rfl, HH.out, HB.out⟩
  case round =>
    obtain ⟨k, hk, rfl, hh⟩ := hrel
    have HH2 := hide hh.out.1
    have HB2 := hide hh.out.2
    clear hh
    by_cases hlt : k < n
    · have j1 : (k : Int) < (n : Int) := by omega
      have j0 : (0 : Int) ≤ (k : Int) := by omega
      obtain ⟨y, hy⟩ : ∃ y, x[k]? = some y := ⟨_, List.getElem?_eq_getElem (by rw [← HN.out]; exact hlt)⟩
      have hyS := HSZ.out y (List.mem_of_getElem? hy)
      have gt : ∀ j, j < 5 → wr.cell? ⟨g, k * 5 + j, none⟩ = (pvC y)[j]? := fun j hj => by
        have hkl : k < x.length := by rw [← HN.out]; exact hlt
        have e := pvsC_get x k j hkl hj
        rw [Option.some.inj ((List.getElem?_eq_getElem hkl).symm.trans hy)] at e
        rw [Lib.cell_of_heap HH2.out, ← Array.getElem?_toList, ← e, ← HT.out, List.getElem?_take, if_pos (by omega)]
      have S0 : SC w g k y cs wr := ⟨gt 3 (by omega), gt 4 (by omega), HH2.out, HB2.out⟩
      have CC : Hid (∀ s : ByteArray, s.size ≤ 140737488355000 → ∀ W, SC w g k y cs W → Calls Tryz.prog 37 #[.string s] W fun e w' => e = .returned (.string s) ∧ SC w g k y cs w') := fun s hs W h =>
        (sclone_any s hs W).mono fun e w' ⟨h1, hb⟩ => ⟨h1, (hb.cell (p := ⟨g, k * 5 + 3, none⟩) (World.block_lt_of_cell? W _ h.1)).trans h.1, (hb.cell (p := ⟨g, k * 5 + 4, none⟩) (World.block_lt_of_cell? W _ h.2.1)).trans h.2.1, (hb.block g (World.block_lt_of_cell? W _ h.1)).trans h.2.2.1, h.2.2.2.trans (hb.mono h.2.2.2.size)⟩
      have SD : SC w g k y cs wr.drew := ⟨S0.1, S0.2.1, S0.2.2.1, S0.2.2.2.drew⟩
      have K3 : ∀ {W : World}, SC w g k y cs W → SC w g k y cs (W.setCell ⟨g, k * 5 + 3, none⟩ (.string y.s)) := fun h => h.set3 hg
      have K4 : ∀ {W : World}, SC w g k y cs W → SC w g k y cs (W.setCell ⟨g, k * 5 + 4, none⟩ (.string y.f)) := fun h => h.set4 hg
      have FZ : ∀ {W : World}, SC w g k y cs W → ∀ j, W.frozen? ⟨g, j, none⟩ = false := fun h j => Lib.frozen_of_heap h.2.2.1 j
      clear gt hy
      unfold SC at S0 SD CC K3 K4 FZ
      go_wp2_with fail
      go_region_held3 (fun W => W.cell? ⟨g, k * 5 + 3, none⟩ = some (.string y.s) ∧ W.cell? ⟨g, k * 5 + 4, none⟩ = some (.string y.f) ∧ W.heap[g]? = some (.cells cs 38) ∧ Below w.heap.size w W) (first | assumption | (with_reducible exact SD) | (with_reducible exact K3 (by assumption)) | (with_reducible exact K4 (by assumption)) | (with_reducible exact K3 (K4 (by assumption))) | (with_reducible exact K4 (K3 (by assumption))))
        (first | (go_at_call 37; (first | (with_reducible refine (CC.out _ hyS.1 _ ?_).mono ?_) | (with_reducible refine (CC.out _ hyS.2 _ ?_).mono ?_)); (first | assumption | (with_reducible exact SD)); rintro e W5 ⟨rfl, hS5⟩; have fz5 := FZ hS5))
      all_goals
        have HS := hide (K4 (K3 hS5))
        clear K3 K4 FZ CC SD S0
        go_wp2
        go_roundw
        case rel => exact ⟨k + 1, by omega, by go_num, HS.out.2.2.1, HS.out.2.2.2⟩
        case measure => simp [intOf]; omega
    · obtain rfl : k = n := by omega
      go_wp2
      go_ret
      exact ⟨⟨g, cp, cs, rfl, HCP.out, HG.out, HH2.out, HT.out⟩, HB2.out⟩
end Go.Proofs.YtldjiieckddhkaaGreatDoor
namespace Go.Proofs.YtldjiieckddhkaaGreatDoor
open Go.RowKit Go.Sort
def nmV (t : Int) : Pv := ⟨1, 0, t, ⟨#[]⟩, ⟨#[]⟩⟩
theorem five_news {w : World} {g : Nat} {a b c d e : Value} (h : w.heap[g]? = some (.cells #[a, b, c, d, e] 38)) : ∀ j u, ([a, b, c, d, e] : List Value)[j]? = some u → w.cell? ((⟨g, 0, none⟩ : Addr).add j) = some u := fun j u hj => by
  rw [show (⟨g, 0, none⟩ : Addr).add j = ⟨g, j, none⟩ by rw [Addr.add_mid, Nat.zero_add], Lib.cell_of_heap h]
  rw [← List.getElem?_toArray] at hj; exact hj
set_option maxRecDepth 100000 in
set_option maxHeartbeats 3200000 in
theorem typeMade_any (v ov : Value) (l : List Vv) (y : Pv) (of : List Int) (w : World) (hL : VLst w v l) (hlen : l.length ≤ 4398046510976) (hcp : CapOk v) (hO : ILst w ov of) (ho2 : of.length ≤ 2) (hg : Glo w) :
    Calls Tryz.prog 43 #[v, .agg #[.int .i64 y.k, .int .i64 y.n, .int .i64 y.t, .string y.s, .string y.f], ov] w fun e w' => (∃ t, e = .returned (.int .i64 t) ∧ ∃ k e', t = k.typ ∧ KOut (askP (l.map vrV) ((of.map fun t => numP 0 t) ++ [ptV y])) k e') ∧ Below w.heap.size w w' := by
  obtain ⟨a, b, cap, rfl, hA, hI⟩ := hO
  have HA := hide hA
  have HI := hide hI
  have HG := hide hg
  have HVL := hide hL
  have HLC := hide (And.intro hlen hcp)
  obtain ⟨va, vn, vcp, rfl⟩ : ∃ a n cp, v = .slice a n cp := by obtain ⟨a, b, off, cap, h, -⟩ := hL; exact ⟨a, _, cap, h⟩
  obtain ⟨N, hN⟩ : ∃ N, N = of.length := ⟨_, rfl⟩
  have HN := hide hN
  rw [← hN] at ho2 ⊢
  have n5 : (N : Int) ≤ 2 := by omega
  have n0 : (0 : Int) ≤ (N : Int) := by omega
  obtain ⟨i0, hi, hz0, hz1, hz2⟩ := info_parts in38
  have B0 := hide ((Below.refl w.heap.size w).alloc (Nat.le_refl _) (.cells #[.int .i64 y.k, .int .i64 y.n, .int .i64 y.t, .string y.s, .string y.f] 38))
  clear hN hA hI hg hL hlen hcp
  go_enter Tryz.func43, Tryz.ntmps43
  go_wp2_with fail
  go_loopw [7, 14] (fun xv i wr => ∃ (k : Nat) (xv' : Value), k ≤ N ∧ i = .int .i64 (k : Int) ∧ xv' = xv ∧ Hid (wr.heap[w.heap.size]? = some (.cells #[.int .i64 y.k, .int .i64 y.n, .int .i64 y.t, .string y.s, .string y.f] 38) ∧ wr.ownsRow (w.heap.size + 1) 38 5 xv' k (pvsC ((of.take k).map nmV)) ∧ Below w.heap.size w wr)) (fun _ i _ => N - (intOf i).toNat)
  case atStart => exact ⟨0, .slice none 0 0, by omega, rfl, rfl, heap_alloc_new w _, World.ownsRow_nil _ _ _ _, B0.out⟩
  case round =>
    clear B0
    obtain ⟨k, xv, hk, rfl, rfl, hh⟩ := hrel
    have HR := hide hh.out.1
    have O := hide hh.out.2.1
    have HB := hide hh.out.2.2
    clear hh
    obtain ⟨da, dcap, hdv, hdc⟩ := own_form3 O.out
    subst hdv
    have zz : w.heap.size < wr.heap.size := (Array.getElem?_eq_some_iff.1 HR.out).1
    by_cases hlt : k < N
    · have j1 : (k : Int) < (N : Int) := by omega
      have j0 : (0 : Int) ≤ (k : Int) := by omega
      obtain ⟨t, ht⟩ : ∃ t, of[k]? = some t := ⟨_, List.getElem?_eq_getElem (by rw [← HN.out]; exact hlt)⟩
      obtain ⟨hbw, rfl⟩ := HA.out (by rw [← HN.out]; omega)
      have c0 := (HB.out.cell (p := ⟨b, k, none⟩) hbw).trans (HI.out k t ht)
      have HTK : Hid (pvsC ((of.take (k + 1)).map nmV) = pvsC ((of.take k).map nmV) ++ [.int .i64 1, .int .i64 0, .int .i64 t, .string ⟨#[]⟩, .string ⟨#[]⟩]) := by
        show _ = _
        rw [List.take_add_one, ht, List.map_append, pvsC_append]; rfl
      clear ht
      go_wp2_with (at_builtin; go_must (refine wpList_append_lies _ rfl _ _ 23 rfl (w.heap.size + 1) 38 i0 _ 5 56 Tryz.underlying23 hi hz0 hz1 hz2 rfl (by omega) (.slice da k dcap) k _ rfl (O.out.alloc _) ⟨wr.heap.size, 0, none⟩ 1 1 [.int .i64 1, .int .i64 0, .int .i64 t, .string ⟨#[]⟩, .string ⟨#[]⟩] rfl rfl (five_news (heap_alloc_new wr _)) (by simp [Value.oneCell']) (by omega) (by unfold maxLen; omega) (by omega) (by simp; omega) (wr.heap.size + 1) (by simp) ?_; intro g c w1 hown hgrow hat hlt2))
      have HO := hide (show w1.ownsRow (w.heap.size + 1) 38 5 (.slice (some ⟨g, 0, none⟩) (k + 1) c) (k + 1) (pvsC ((of.take (k + 1)).map nmV)) by rw [HTK.out]; exact hown)
      have HB1 := hide ((HB.out.alloc HB.out.size _).grown hgrow (by rw [World.size_alloc]; omega) (fun r hr => by have := (O.out.lt r hr).1; omega))
      have HR1 : Hid (w1.heap[w.heap.size]? = some (.cells #[.int .i64 y.k, .int .i64 y.n, .int .i64 y.t, .string y.s, .string y.f] 38)) := by
        show _ = _
        rw [hgrow.block _ (by rw [World.size_alloc]; omega) (fun hr => by have := (O.out.lt _ hr.symm).1; omega), Lib.alloc_old wr _ _ zz]
        exact HR.out
      clear hown hgrow hat hlt2
      go_wp2
      go_roundw
      case rel => exact ⟨k + 1, _, by omega, by go_num, rfl, HR1.out, HO.out, HB1.out⟩
      case measure => simp [intOf]; omega
    · obtain rfl : k = N := by omega
      have HTK : Hid (pvsC (of.map nmV ++ [y]) = pvsC ((of.take k).map nmV) ++ [.int .i64 y.k, .int .i64 y.n, .int .i64 y.t, .string y.s, .string y.f]) := by
        show _ = _
        rw [List.take_of_length_le (by rw [← HN.out]; omega), pvsC_append]; rfl
      have r0 : wr.cell? ⟨w.heap.size, 0, none⟩ = some (.int .i64 y.k) := by rw [Lib.cell_of_heap HR.out]; rfl
      have r1 : wr.cell? ⟨w.heap.size, 1, none⟩ = some (.int .i64 y.n) := by rw [Lib.cell_of_heap HR.out]; rfl
      have r2 : wr.cell? ⟨w.heap.size, 2, none⟩ = some (.int .i64 y.t) := by rw [Lib.cell_of_heap HR.out]; rfl
      have r3 : wr.cell? ⟨w.heap.size, 3, none⟩ = some (.string y.s) := by rw [Lib.cell_of_heap HR.out]; rfl
      have r4 : wr.cell? ⟨w.heap.size, 4, none⟩ = some (.string y.f) := by rw [Lib.cell_of_heap HR.out]; rfl
      have CT : Hid (∀ W g c, W.ownsRow (w.heap.size + 1) 38 5 (.slice (some ⟨g, 0, none⟩) (k + 1) c) (k + 1) (pvsC (of.map nmV ++ [y])) → Below w.heap.size w W → Calls Tryz.prog 18 #[.slice va vn vcp, .slice (some ⟨g, 0, none⟩) (k + 1) c] W fun e w' => (∃ t e', e = .returned (.tuple #[.int .i64 t, .int .i64 e']) ∧ Hid (∃ k, t = k.typ ∧ KOut (askP (l.map vrV) ((of.map fun t => numP 0 t) ++ [ptV y])) k e')) ∧ Below W.heap.size W w') := fun W g c hO hW => by
        have hle : (of.map nmV ++ [y]).length = k + 1 := by rw [List.length_append, List.length_map, ← HN.out]; rfl
        have hP : PLst W (.slice (some ⟨g, 0, none⟩) (k + 1) c) (of.map nmV ++ [y]) := PLst.of_owns (base := w.heap.size + 1) (by rw [hle]; exact hO)
        have h := typeT_any _ _ l _ W (HVL.out.below hW (Nat.le_refl _)) HLC.out.1 HLC.out.2 hP (by rw [hle]; omega) (HG.out.below hW HG.out.lt)
        rw [List.map_append, List.map_map] at h
        exact h
      clear HA HI HVL HLC HG
      go_wp2_with (first | (at_builtin; go_must (refine wpList_append_lies _ rfl _ _ 23 rfl (w.heap.size + 1) 38 i0 _ 5 56 Tryz.underlying23 hi hz0 hz1 hz2 rfl (by omega) (.slice da k dcap) k _ rfl (O.out.alloc _) ⟨wr.heap.size, 0, none⟩ 1 1 [.int .i64 y.k, .int .i64 y.n, .int .i64 y.t, .string y.s, .string y.f] rfl rfl (five_news (heap_alloc_new wr _)) (by simp [Value.oneCell']) (by omega) (by unfold maxLen; omega) (by omega) (by simp; omega) (wr.heap.size + 1) (by simp) ?_; intro g c w1 hown hgrow hat hlt2; have HO := hide hown; have HGR := hide hgrow; clear hown hgrow hat hlt2)) | fail)
      have HB1 := hide ((HB.out.alloc HB.out.size _).grown HGR.out (by rw [World.size_alloc]; omega) (fun r hr => by have := (O.out.lt r hr).1; omega))
      refine (CT.out w1 g c (by rw [HTK.out]; exact HO.out) HB1.out).mono ?_
      rintro e W2 ⟨⟨t, e', rfl, HK⟩, hb⟩
      have HB2 := hide (HB1.out.trans (hb.mono HB1.out.size))
      clear hb
      go_wp2
      go_ret
      exact ⟨⟨t, rfl, by obtain ⟨k, h1, h2⟩ := HK.out; exact ⟨k, e', h1, h2⟩⟩, HB2.out⟩
end Go.Proofs.YtldjiieckddhkaaGreatDoor
