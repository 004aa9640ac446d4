/- The contracts of wire.readItem and wire.readCount. -/
import Derived.Test.YtelhfdhgcojmlaaDoorTextW
namespace Go.Proofs.YtelhfdhgcojmlaaDoor
open Go.RowKit
theorem rdOut_form (r : Except Int (It × List UInt8)) : ∃ (t : Bool) (n : Int) (s : ByteArray) (e : Value), rdOut r = .tuple #[.agg #[.bool t, .int .i64 n, .string s], e] := by
  match r with
  | .error e => exact ⟨_, _, _, _, rfl⟩
  | .ok (x, _) => exact ⟨_, _, _, _, rfl⟩
set_option maxRecDepth 100000 in
set_option maxHeartbeats 1600000 in
theorem readItem_any (s : ByteArray) (hs : s.size ≤ 65536) (w : World) :
    Calls Tryd.prog 28 #[.string s] w fun e w' => e = .returned (rdOut (rd s.data.toList)) ∧ Below w.heap.size w w' := by
  match hq : s.data.toList with
  | [] =>
    obtain rfl : s = ⟨#[]⟩ := text_ext hq
    clear hq
    go_enter Tryd.func28, Tryd.ntmps28
    go_wp2
    refine bodyPost_ret (v := rdOut (rd [])) ?_ rfl ⟨rfl, ?_⟩
    · simp [results, Tryd.results28, go_sem, rdOut, rd]
    · exact (Below.refl _ _).alloc (Nat.le_refl _) _
  | c :: q =>
    have hne : s.toList.isEmpty = false := by rw [empty_list]; exact decide_eq_false (by rw [list_size_cons hq]; omega)
    have x0 : ∀ W, (Instr.index 9 (.string s) (.int .i64 0)).run Tryd.prog W = .ok (.int .u8 (c.toNat : Int)) W := run_idx s 0 c (by rw [hq]; rfl)
    have cN := fun W => readNum_any s c q hq hs W
    have cT := fun W => readText_any s c q hq hs W
    rw [rd]
    clear hq hs
    by_cases h35 : c = 35
    · rw [if_pos h35]
      have e35 : ((c.toNat : Int) == 35) = true := by rw [h35]; rfl
      clear h35 cT
      obtain ⟨t, n, u, e, hr⟩ := rdOut_form (rdN q)
      rw [hr] at cN ⊢
      clear hr
      go_enter Tryd.func28, Tryd.ntmps28
      go_wp2_with fail
      refine (cN _).mono ?_
      rintro e w1 ⟨rfl, hb1⟩
      have z1 : w.heap.size + 1 ≤ w1.heap.size := by have := hb1.size; simpa using this
      have k0 : w1.cell? ⟨w.heap.size, 0, none⟩ = some (.bool false) := (hb1.cell (p := ⟨w.heap.size, 0, none⟩) (by simp)).trans (by simp)
      have k1 : w1.cell? ⟨w.heap.size, 1, none⟩ = some (.int .i64 0) := (hb1.cell (p := ⟨w.heap.size, 1, none⟩) (by simp)).trans (by simp)
      have k2 : w1.cell? ⟨w.heap.size, 2, none⟩ = some (.string ⟨#[]⟩) := (hb1.cell (p := ⟨w.heap.size, 2, none⟩) (by simp)).trans (by simp)
      have f0 : w1.frozen? ⟨w.heap.size, 0, none⟩ = false := (hb1.frozen (p := ⟨w.heap.size, 0, none⟩) (by simp)).trans (by simp)
      have f1 : w1.frozen? ⟨w.heap.size, 1, none⟩ = false := (hb1.frozen (p := ⟨w.heap.size, 1, none⟩) (by simp)).trans (by simp)
      have f2 : w1.frozen? ⟨w.heap.size, 2, none⟩ = false := (hb1.frozen (p := ⟨w.heap.size, 2, none⟩) (by simp)).trans (by simp)
      have B1 : Hid (Below w.heap.size w w1) := ((Below.refl _ _).alloc (Nat.le_refl _) _).trans (hb1.mono (by simp))
      clear hb1 cN
      go_wp2
      refine bodyPost_ret (v := .tuple #[.agg #[.bool t, .int .i64 n, .string u], e]) ?_ rfl ⟨rfl, ?_⟩
      · simp [results, Tryd.results28, go_sem, k0, k1, k2]
      · exact ((B1.out.setCell (by simp) _).setCell (by simp) _).setCell (by simp) _
    · rw [if_neg h35]
      have e35 : ((c.toNat : Int) == 35) = false := by
        rw [beq_eq_false_iff_ne]
        intro h
        exact h35 (UInt8.toNat_inj.1 (by show c.toNat = 35; omega))
      clear h35 cN
      by_cases h36 : c = 36
      · rw [if_pos h36]
        have e36 : ((c.toNat : Int) == 36) = true := by rw [h36]; rfl
        clear h36
        obtain ⟨t, n, u, e, hr⟩ := rdOut_form (rdT q)
        rw [hr] at cT ⊢
        clear hr
        go_enter Tryd.func28, Tryd.ntmps28
        go_wp2_with fail
        refine (cT _).mono ?_
        rintro e w1 ⟨rfl, hb1⟩
        have z1 : w.heap.size + 1 ≤ w1.heap.size := by have := hb1.size; simpa using this
        have k0 : w1.cell? ⟨w.heap.size, 0, none⟩ = some (.bool false) := (hb1.cell (p := ⟨w.heap.size, 0, none⟩) (by simp)).trans (by simp)
        have k1 : w1.cell? ⟨w.heap.size, 1, none⟩ = some (.int .i64 0) := (hb1.cell (p := ⟨w.heap.size, 1, none⟩) (by simp)).trans (by simp)
        have k2 : w1.cell? ⟨w.heap.size, 2, none⟩ = some (.string ⟨#[]⟩) := (hb1.cell (p := ⟨w.heap.size, 2, none⟩) (by simp)).trans (by simp)
        have f0 : w1.frozen? ⟨w.heap.size, 0, none⟩ = false := (hb1.frozen (p := ⟨w.heap.size, 0, none⟩) (by simp)).trans (by simp)
        have f1 : w1.frozen? ⟨w.heap.size, 1, none⟩ = false := (hb1.frozen (p := ⟨w.heap.size, 1, none⟩) (by simp)).trans (by simp)
        have f2 : w1.frozen? ⟨w.heap.size, 2, none⟩ = false := (hb1.frozen (p := ⟨w.heap.size, 2, none⟩) (by simp)).trans (by simp)
        have B1 : Hid (Below w.heap.size w w1) := ((Below.refl _ _).alloc (Nat.le_refl _) _).trans (hb1.mono (by simp))
        clear hb1 cT
        go_wp2
        refine bodyPost_ret (v := .tuple #[.agg #[.bool t, .int .i64 n, .string u], e]) ?_ rfl ⟨rfl, ?_⟩
        · simp [results, Tryd.results28, go_sem, k0, k1, k2]
        · exact ((B1.out.setCell (by simp) _).setCell (by simp) _).setCell (by simp) _
      · rw [if_neg h36]
        have e36 : ((c.toNat : Int) == 36) = false := by
          rw [beq_eq_false_iff_ne]
          intro h
          exact h36 (UInt8.toNat_inj.1 (by show c.toNat = 36; omega))
        clear h36 cT
        go_enter Tryd.func28, Tryd.ntmps28
        go_wp2
        refine bodyPost_ret (v := rdOut (.error 3)) ?_ rfl ⟨rfl, ?_⟩
        · simp [results, Tryd.results28, go_sem, rdOut]
        · exact (Below.refl _ _).alloc (Nat.le_refl _) _
/-- what readCount answers: the number, or an error -/
def cntOut (b : List UInt8) : Value :=
  if 65536 < b.length then .tuple #[.int .i64 0, .iface 61 (.int .i64 2)]
  else if b.length < 2 then .tuple #[.int .i64 0, .iface 61 (.int .i64 30)]
  else if 1000 < manyB b then .tuple #[.int .i64 0, .iface 61 (.int .i64 2)]
  else .tuple #[.int .i64 (manyB b : Int), .nilIface]
set_option maxRecDepth 100000 in
set_option maxHeartbeats 1600000 in
theorem readCount_any (s : ByteArray) (hs : s.size ≤ 140737488355328) (w : World) :
    Calls Tryd.prog 27 #[.string s] w fun e w' => e = .returned (cntOut s.data.toList) ∧ Below w.heap.size w w' := by
  unfold cntOut
  rw [text_len]
  by_cases h1 : 65536 < s.size
  · rw [if_pos h1]
    have i1 : (65536 : Int) < (s.size : Int) := by omega
    clear hs h1
    go_enter Tryd.func27, Tryd.ntmps27
    go_wp2
    go_ret2
    exact ⟨rfl, Below.refl _ _⟩
  · rw [if_neg h1]
    have i1 : ¬ (65536 : Int) < (s.size : Int) := by omega
    by_cases h2 : s.size < 2
    · rw [if_pos h2]
      have i2 : (s.size : Int) < 2 := by omega
      clear hs h1 h2
      go_enter Tryd.func27, Tryd.ntmps27
      go_wp2
      go_ret2
      exact ⟨rfl, Below.refl _ _⟩
    · rw [if_neg h2]
      have i2 : ¬ (s.size : Int) < 2 := by omega
      obtain ⟨h, l, z, hq⟩ := two_heads (q := s.data.toList) (by rw [text_len]; exact h2)
      have c1 := fun W => readPair_any s h l (by rw [hq]; rfl) (by rw [hq]; rfl) W
      have hm : manyB s.data.toList = h.toNat * 256 + l.toNat := by rw [hq]; rfl
      have hb : h.toNat * 256 + l.toNat ≤ 65535 := by have := h.toNat_lt; have := l.toNat_lt; omega
      rw [← hm] at c1 hb
      generalize manyB s.data.toList = n at *
      clear hm hq hs h1 h2
      have i4 : (n : Int) ≤ 1000000 := by omega
      by_cases h3 : 1000 < n
      · rw [if_pos h3]
        have i3 : (1000 : Int) < (n : Int) := by omega
        clear hb h3
        go_enter Tryd.func27, Tryd.ntmps27
        go_wp2_with fail
        refine (c1 _).mono ?_
        rintro e w1 ⟨rfl, hb1⟩
        have B1 := hide hb1
        clear hb1 c1
        go_wp2
        go_ret2
        exact ⟨rfl, B1.out⟩
      · rw [if_neg h3]
        have i3 : ¬ (1000 : Int) < (n : Int) := by omega
        clear hb h3
        go_enter Tryd.func27, Tryd.ntmps27
        go_wp2_with fail
        refine (c1 _).mono ?_
        rintro e w1 ⟨rfl, hb1⟩
        have B1 := hide hb1
        clear hb1 c1
        go_wp2
        go_ret2
        exact ⟨rfl, B1.out⟩
end Go.Proofs.YtelhfdhgcojmlaaDoor
