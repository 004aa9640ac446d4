/- The walk of the law MacKeys. -/
import Derived.Test.YtaefnkaenhmekaaDoorBackW
namespace Go.Proofs.YtaefnkaenhmekaaDoor
open Go.RowKit
theorem keyL_sha (k : List UInt8) : keyL (shaB k) = shaB k := by unfold keyL; rw [if_neg (by rw [shaB_length]; omega)]
theorem fitL_sha (k : List UInt8) (h : 64 < k.length) : fitL (shaB k) = fitL k := by
  have e : keyL k = shaB k := by unfold keyL; rw [if_pos h]
  unfold fitL
  rw [keyL_sha, e]
theorem fitL_zeros (k : List UInt8) (n : Nat) (h : k.length + n ≤ 64) : fitL (k ++ List.replicate n 0) = fitL k := by
  have e1 : keyL k = k := by unfold keyL; rw [if_neg (by omega)]
  have e2 : keyL (k ++ List.replicate n 0) = k ++ List.replicate n 0 := by unfold keyL; rw [if_neg (by rw [List.length_append, List.length_replicate]; omega)]
  unfold fitL
  rw [e1, e2, List.append_assoc, List.replicate_append_replicate, List.length_append, List.length_replicate]
  congr 2
  omega
theorem tagS_sha (k m : ByteArray) (h : 64 < k.size) : tagS ⟨(shaB k.data.toList).toArray⟩ m = tagS k m := by
  unfold tagS tagL
  simp only []
  rw [fitL_sha _ (by rw [text_len]; exact h)]
theorem tagS_zeros (k m : ByteArray) (n : Nat) (h : k.size + n ≤ 64) : tagS (k ++ ⟨(List.replicate n 0).toArray⟩) m = tagS k m := by
  unfold tagS tagL
  rw [join_list]
  simp only []
  rw [fitL_zeros _ _ (by rw [text_len]; exact h)]
theorem made_zeros (n j : Nat) (hj : j < n) : (madeCells #[Value.int .u8 0] n)[j]? = some (.int .u8 0) := by
  have h : j % 1 = 0 := by omega
  simp [madeCells, hj, h]
theorem rem_key (more : Int) (n : Nat) (h : n ≤ 64) : ∃ r : Nat, (IntKind.u64.wrap more).tmod (65 - (n : Int)) = (r : Int) ∧ n + r ≤ 64 := by
  have h0 : 0 ≤ IntKind.u64.wrap more := by simp [IntKind.wrap, IntKind.bits, IntKind.signed]; omega
  generalize IntKind.u64.wrap more = x at *
  have e := Int.tmod_eq_emod_of_nonneg (a := x) (b := 65 - (n : Int)) h0
  have h1 := Int.emod_nonneg x (b := 65 - (n : Int)) (by omega)
  have h2 := Int.emod_lt_of_pos x (b := 65 - (n : Int)) (by omega)
  exact ⟨(x % (65 - (n : Int))).toNat, by rw [e]; omega, by omega⟩
set_option maxRecDepth 100000 in
set_option maxHeartbeats 1600000 in
theorem keys_any (k m : ByteArray) (more : Int) (hk : k.size ≤ 140737488351232) (hm : m.size ≤ 140737488351232) (w : World) (hTab : Tab w) (h0 : 0 < w.heap.size) :
    Calls Tryd.prog 6 #[.string k, .string m, .int .i64 more] w fun e w' => e = .returned (.bool true) ∧ Below w.heap.size w w' := by
  have HT : Hid (Tab w) := hTab
  have c0 := works_any w hTab h0
  have c1 : ∀ W, Tab W → 0 < W.heap.size → Calls Tryd.prog 9 #[.string k, .string m] W fun e w' => e = .returned (.string (tagS k m)) ∧ Below W.heap.size W w' := fun W hT h0 => tag_any k m (by omega) (by omega) W hT h0
  by_cases hbig : 64 < k.size
  · have i1 : (64 : Int) < (k.size : Int) := by omega
    have c2 := fun W hT h0 => sum_any k (by omega) W hT h0
    have hl : (shaB k.data.toList).length = 32 := shaB_length _
    have c3 : ∀ W, Tab W → 0 < W.heap.size → Calls Tryd.prog 9 #[.string ⟨(shaB k.data.toList).toArray⟩, .string m] W fun e w' => e = .returned (.string (tagS k m)) ∧ Below W.heap.size W w' := fun W hT h0 => by
      have := tag_any ⟨(shaB k.data.toList).toArray⟩ m (by rw [list_size, hl]; omega) (by omega) W hT h0
      rw [← tagS_sha k m hbig]
      exact this
    generalize (⟨(shaB k.data.toList).toArray⟩ : ByteArray) = S at *
    generalize tagS k m = T at *
    clear hTab hl
    go_enter Tryd.func6, Tryd.ntmps6
    go_wp2_with fail
    refine c0.mono ?_
    rintro e w1 ⟨rfl, b1⟩
    have z1 := b1.size
    clear c0
    go_wp2_with fail
    refine (c1 w1 (HT.out.below b1 h0) (by omega)).mono ?_
    rintro e w2 ⟨rfl, hb2⟩
    have b2 : Below w.heap.size w w2 := b1.trans (hb2.mono z1)
    have z2 := b2.size
    clear c1 hb2 b1 z1
    go_wp2_with fail
    refine (c2 w2 (HT.out.below b2 h0) (by omega)).mono ?_
    rintro e w3 ⟨rfl, hb3⟩
    have b3 : Below w.heap.size w w3 := b2.trans (hb3.mono z2)
    have z3 := b3.size
    clear c2 hb3 b2 z2
    go_wp2_with fail
    refine (c3 w3 (HT.out.below b3 h0) (by omega)).mono ?_
    rintro e w4 ⟨rfl, hb4⟩
    have b4 : Hid (Below w.heap.size w w4) := b3.trans (hb4.mono z3)
    clear c3 hb4 b3 z3
    go_wp2
    go_ret
    exact ⟨rfl, b4⟩
  · have i1 : ¬ (64 : Int) < (k.size : Int) := by omega
    have i2 : (k.size : Int) ≤ 64 := by omega
    have i3 : (0 : Int) ≤ (k.size : Int) := by omega
    obtain ⟨r, hr, hrn⟩ := rem_key more k.size (by omega)
    have i4 : (r : Int) ≤ 64 := by omega
    obtain ⟨i0, hi, hz0, hz1, hz2⟩ := info_parts i5w
    have hmk : ∀ u : World, (Instr.makeSlice 32 (.int .i64 (r : Int)) (.int .i64 (r : Int))).run Tryd.prog u =
        .ok (.slice (some ⟨u.heap.size, 0, none⟩) r r) (u.alloc (.cells (madeCells #[.int .u8 0] r) 5)) := fun u => by
      have h := run_make (P := Tryd.prog) u 32 5 i0 (.int .u8 0) Tryd.underlying32 hi hz0 .i64 .i64 (r : Int) (r : Int) (by omega) (by omega) (by rw [hz2]; omega) (by omega)
      simpa [hz1, Value.cells] using h
    have hconv : ∀ u : World, (convert 32 9 (.slice (some ⟨u.heap.size, 0, none⟩) r r)).run Tryd.prog (u.alloc (.cells (madeCells #[.int .u8 0] r) 5)) = .ok (.string ⟨(List.replicate r 0).toArray⟩) (u.alloc (.cells (madeCells #[.int .u8 0] r) 5)) := fun u => by
      have h := run_convert_bytes_back (P := Tryd.prog) (u.alloc (.cells (madeCells #[.int .u8 0] r) 5)) 32 9 5 ⟨u.heap.size, 0, none⟩ r (List.replicate r 0) Tryd.underlying32 Tryd.underlying5 Tryd.underlying9 (fun j hj => by
        rw [List.length_replicate] at hj
        rw [addr_add, cell_of_row _ _ _ _ _ _ (heap_alloc_new u _), made_zeros r j hj, List.getElem_replicate]; rfl)
      rwa [List.length_replicate] at h
    have hjs : (k ++ ⟨(List.replicate r 0).toArray⟩ : ByteArray).size ≤ 64 := by rw [join_size, list_size (List.replicate r 0), List.length_replicate]; exact hrn
    have c3 : ∀ W, Tab W → 0 < W.heap.size → Calls Tryd.prog 9 #[.string (k ++ ⟨(List.replicate r 0).toArray⟩), .string m] W fun e w' => e = .returned (.string (tagS k m)) ∧ Below W.heap.size W w' := fun W hT h0 => by
      have := tag_any (k ++ ⟨(List.replicate r 0).toArray⟩) m (by omega) (by omega) W hT h0
      rw [← tagS_zeros k m r hrn]
      exact this
    have a1 : ∀ W : World, (Op.stringOp .add k ⟨(List.replicate r 0).toArray⟩).run Tryd.prog W = .ok (.string (k ++ ⟨(List.replicate r 0).toArray⟩)) W := fun W => run_string_add_sum W _ _ (by rw [join_size] at hjs; omega)
    generalize (⟨(List.replicate r 0).toArray⟩ : ByteArray) = Z at *
    generalize k ++ Z = K at *
    generalize tagS k m = T at *
    generalize madeCells #[.int .u8 0] r = M at *
    clear hTab hrn hjs hi hbig
    go_enter Tryd.func6, Tryd.ntmps6
    go_wp2_with fail
    refine c0.mono ?_
    rintro e w1 ⟨rfl, b1⟩
    have z1 := b1.size
    clear c0
    have b2 : Below w.heap.size w (w1.alloc (.cells M 5)) := b1.alloc z1 _
    have z2 := b2.size
    have p2 : 0 < (w1.alloc (.cells M 5)).heap.size := by omega
    have hc3 := c3 (w1.alloc (.cells M 5)) (HT.out.below b2 h0) p2
    clear b1 c3
    go_wp2_with fail
    refine hc3.mono ?_
    rintro e w3 ⟨rfl, hb3⟩
    have b3 : Below w.heap.size w w3 := b2.trans (hb3.mono z2)
    have z3 := b3.size
    clear hc3 hb3 b2 z2 p2
    go_wp2_with fail
    refine (c1 w3 (HT.out.below b3 h0) (by omega)).mono ?_
    rintro e w4 ⟨rfl, hb4⟩
    have b4 : Hid (Below w.heap.size w w4) := b3.trans (hb4.mono z3)
    clear c1 hb4 b3 z3
    go_wp2
    go_ret
    exact ⟨rfl, b4⟩
end Go.Proofs.YtaefnkaenhmekaaDoor
