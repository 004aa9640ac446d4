/- The contracts of wire.readTextItem and wire.readItem. -/
import Derived.Test.YtelhfdhgcojmlaaDoorNumW
import Derived.Test.YtelhfdhgcojmlaaDoorCloneW
namespace Go.Proofs.YtelhfdhgcojmlaaDoor
open Go.RowKit
theorem drop_text (t : ByteArray) (n : Nat) : (t.extract n t.size).data.toList = t.data.toList.drop n := by
  rw [ByteArray.data_extract, Array.toList_extract, List.extract_eq_take_drop]
  apply List.take_of_length_le
  rw [List.length_drop, text_len]
  exact Nat.le_refl _
theorem mid_text (t : ByteArray) (a b : Nat) : (t.extract a b).data.toList = (t.data.toList.drop a).take (b - a) := by
  rw [ByteArray.data_extract, Array.toList_extract, List.extract_eq_take_drop]
theorem of_list (t : ByteArray) (l : List UInt8) (h : t.data.toList = l) : t = ⟨l.toArray⟩ := text_ext (by rw [h])
theorem slice_from (s : ByteArray) (n : Nat) (h : n ≤ s.size) (W : World) : (Instr.slice 9 (.string s) (some (.int .i64 (n : Int))) none none).run Tryd.prog W = .ok (.string ⟨(s.data.toList.drop n).toArray⟩) W := by
  rw [run_slice_string_from_if _ _ _ _ _ Tryd.underlying9, if_pos ⟨by omega, by omega⟩, Int.toNat_natCast, of_list _ _ (drop_text s n)]
theorem slice_mid (s : ByteArray) (a b : Nat) (h : a ≤ b) (h2 : b ≤ s.size) (W : World) : (Instr.slice 9 (.string s) (some (.int .i64 (a : Int))) (some (.int .i64 (b : Int))) none).run Tryd.prog W = .ok (.string ⟨((s.data.toList.drop a).take (b - a)).toArray⟩) W := by
  rw [run_slice_string _ _ _ _ _ _ _ Tryd.underlying9 (by omega) (by omega) (by omega), Int.toNat_natCast, Int.toNat_natCast, of_list _ _ (mid_text s a b)]
theorem list_size (l : List UInt8) : (⟨l.toArray⟩ : ByteArray).size = l.length := by show l.toArray.size = _; simp
theorem rdT_short {q : List UInt8} (h : q.length < 2) : rdT q = .error 30 := by
  match q, h with
  | [], _ => rfl
  | [_], _ => rfl
theorem hide {p : Prop} (h : p) : Hid p := h
theorem two_heads {q : List UInt8} (h : ¬ q.length < 2) : ∃ a b z, q = a :: b :: z := by
  match q, h with
  | a :: b :: z, _ => exact ⟨a, b, z, rfl⟩
  | [], h => exact absurd (by simp) h
  | [_], h => exact absurd (by simp) h
set_option maxRecDepth 100000 in
set_option maxHeartbeats 1600000 in
theorem readText_any (s : ByteArray) (c : UInt8) (q : List UInt8) (hq : s.data.toList = c :: q) (hs : s.size ≤ 65536) (w : World) :
    Calls Tryd.prog 32 #[.string s] w fun e w' => e = .returned (rdOut (rdT q)) ∧ Below w.heap.size w w' := by
  have hz := list_size_cons hq
  by_cases h2 : q.length < 2
  · rw [rdT_short h2]
    have i1 : (s.size : Int) < 3 := by omega
    clear hq
    go_enter Tryd.func32, Tryd.ntmps32
    go_wp2
    refine bodyPost_ret (v := rdOut (.error 30)) ?_ rfl ⟨rfl, ?_⟩
    · simp [results, Tryd.results32, go_sem, rdOut]
    · exact (Below.refl _ _).alloc (Nat.le_refl _) _
  · obtain ⟨h, l, z, rfl⟩ := two_heads h2
    have i1 : ¬ (s.size : Int) < 3 := by simp only [List.length_cons] at hz; omega
    have x1 : ∀ W, (Instr.slice 9 (.string s) (some (.int .i64 1)) none none).run Tryd.prog W = .ok (.string ⟨(h :: l :: z).toArray⟩) W := fun W => by
      have := slice_from s 1 (by omega) W
      rw [hq] at this; exact this
    have c1 := fun W => readPair_any ⟨(h :: l :: z).toArray⟩ h l rfl rfl W
    have hn : h.toNat * 256 + l.toNat < 65536 := by have := h.toNat_lt; have := l.toNat_lt; omega
    rw [rdT]
    have hzz : s.size = z.length + 3 := by simp only [List.length_cons] at hz; omega
    have x2 : h.toNat * 256 + l.toNat ≤ z.length → ∀ W, (Instr.slice 9 (.string s) (some (.int .i64 3)) (some (.int .i64 (3 + ((h.toNat * 256 + l.toNat : Nat) : Int)))) none).run Tryd.prog W = .ok (.string ⟨(z.take (h.toNat * 256 + l.toNat)).toArray⟩) W := fun hle W => by
      have := slice_mid s 3 (3 + (h.toNat * 256 + l.toNat)) (by omega) (by omega) W
      rw [hq] at this
      rw [show ((3 + (h.toNat * 256 + l.toNat) : Nat) : Int) = 3 + ((h.toNat * 256 + l.toNat : Nat) : Int) from by omega, Nat.add_sub_cancel_left] at this
      exact this
    generalize (⟨(h :: l :: z).toArray⟩ : ByteArray) = t at *
    generalize h.toNat * 256 + l.toNat = n at *
    clear hq hz h2
    by_cases hlt : z.length < n
    · rw [if_pos hlt]
      have i2 : (s.size : Int) < 3 + (n : Int) := by omega
      have i3 : (n : Int) ≤ 1000000 := by omega
      clear x2 hzz hn hlt
      go_enter Tryd.func32, Tryd.ntmps32
      go_wp2_with fail
      refine (c1 _).mono ?_
      rintro e w1 ⟨rfl, hb1⟩
      have z1 : w.heap.size + 1 ≤ w1.heap.size := by have := hb1.size; simpa using this
      have k0 : w1.cell? ⟨w.heap.size, 0, none⟩ = some (.bool false) := (hb1.cell (p := ⟨w.heap.size, 0, none⟩) (by simp)).trans (by simp)
      have k1 : w1.cell? ⟨w.heap.size, 1, none⟩ = some (.int .i64 0) := (hb1.cell (p := ⟨w.heap.size, 1, none⟩) (by simp)).trans (by simp)
      have k2 : w1.cell? ⟨w.heap.size, 2, none⟩ = some (.string ⟨#[]⟩) := (hb1.cell (p := ⟨w.heap.size, 2, none⟩) (by simp)).trans (by simp)
      have f0 : w1.frozen? ⟨w.heap.size, 0, none⟩ = false := (hb1.frozen (p := ⟨w.heap.size, 0, none⟩) (by simp)).trans (by simp)
      have f1 : w1.frozen? ⟨w.heap.size, 1, none⟩ = false := (hb1.frozen (p := ⟨w.heap.size, 1, none⟩) (by simp)).trans (by simp)
      have f2 : w1.frozen? ⟨w.heap.size, 2, none⟩ = false := (hb1.frozen (p := ⟨w.heap.size, 2, none⟩) (by simp)).trans (by simp)
      have B1 : Hid (Below w.heap.size w w1) := ((Below.refl _ _).alloc (Nat.le_refl _) _).trans (hb1.mono (by simp))
      clear hb1 c1
      go_wp2
      refine bodyPost_ret (v := rdOut (.error 30)) ?_ rfl ⟨rfl, ?_⟩
      · simp [results, Tryd.results32, go_sem, rdOut, k0, k1, k2]
      · exact ((B1.out.setCell (by simp) _).setCell (by simp) _).setCell (by simp) _
    · rw [if_neg hlt]
      obtain ⟨m, hm⟩ : ∃ m : Nat, 3 + (n : Int) = (m : Int) := ⟨3 + n, by omega⟩
      have i2 : ¬ (s.size : Int) < (m : Int) := by omega
      have i3 : (n : Int) ≤ 1000000 := by omega
      have x3 := x2 (by omega)
      rw [hm] at x3
      have c2 := fun W => sclone_any ⟨(z.take n).toArray⟩ (by rw [list_size, List.length_take]; omega) W
      clear x2
      have hT : Hid (textIt (z.take n) = ⟨true, 0, ⟨(z.take n).toArray⟩⟩) := rfl
      generalize textIt (z.take n) = T at *
      generalize (⟨(z.take n).toArray⟩ : ByteArray) = u at *
      clear hzz hn hlt hs
      go_enter Tryd.func32, Tryd.ntmps32
      go_wp2_with fail
      refine (c1 _).mono ?_
      rintro e w0 ⟨rfl, hb0⟩
      have HB0 := hide hb0
      clear c1 hb0
      go_wp2_with fail
      refine (c2 _).mono ?_
      rintro e w1 ⟨rfl, hb2⟩
      have hb1 := HB0.out.trans (hb2.mono HB0.out.size)
      clear c2 HB0 hb2
      have z1 : w.heap.size + 1 ≤ w1.heap.size := by have := hb1.size; simpa using this
      have k0 : w1.cell? ⟨w.heap.size, 0, none⟩ = some (.bool false) := (hb1.cell (p := ⟨w.heap.size, 0, none⟩) (by simp)).trans (by simp)
      have k1 : w1.cell? ⟨w.heap.size, 1, none⟩ = some (.int .i64 0) := (hb1.cell (p := ⟨w.heap.size, 1, none⟩) (by simp)).trans (by simp)
      have k2 : w1.cell? ⟨w.heap.size, 2, none⟩ = some (.string ⟨#[]⟩) := (hb1.cell (p := ⟨w.heap.size, 2, none⟩) (by simp)).trans (by simp)
      have f0 : w1.frozen? ⟨w.heap.size, 0, none⟩ = false := (hb1.frozen (p := ⟨w.heap.size, 0, none⟩) (by simp)).trans (by simp)
      have f1 : w1.frozen? ⟨w.heap.size, 1, none⟩ = false := (hb1.frozen (p := ⟨w.heap.size, 1, none⟩) (by simp)).trans (by simp)
      have f2 : w1.frozen? ⟨w.heap.size, 2, none⟩ = false := (hb1.frozen (p := ⟨w.heap.size, 2, none⟩) (by simp)).trans (by simp)
      have B1 : Hid (Below w.heap.size w w1) := ((Below.refl _ _).alloc (Nat.le_refl _) _).trans (hb1.mono (by simp))
      clear hb1
      go_wp2
      refine bodyPost_ret (v := rdOut (.ok (T, z.drop n))) ?_ rfl ⟨rfl, ?_⟩
      · rw [hT.out]
        simp [results, Tryd.results32, go_sem, rdOut, itA, k0, k1, k2]
      · exact ((B1.out.setCell (by simp) _).setCell (by simp) _).setCell (by simp) _
end Go.Proofs.YtelhfdhgcojmlaaDoor
