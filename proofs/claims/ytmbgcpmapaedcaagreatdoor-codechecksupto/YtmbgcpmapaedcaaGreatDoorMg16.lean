/- The contracts of wire.readTextItem and wire.readItem. | The contracts of wire.readItem and wire.readCount. | Reading items one by one: plain facts. -/
import Derived.Test.YtmbgcpmapaedcaaGreatDoorMg15
namespace Go.Proofs.YtmbgcpmapaedcaaGreatDoor.Wi
open Go.RowKit
theorem drop_text (t : ByteArray) (n : Nat) : (t.extract n t.size).data.toList = t.data.toList.drop n := by
  rw [ByteArray.data_extract, Array.toList_extract, List.extract_eq_take_drop]
  apply List.take_of_length_le
  rw [List.length_drop, text_len]
  exact Nat.le_refl _
theorem mid_text (t : ByteArray) (a b : Nat) : (t.extract a b).data.toList = (t.data.toList.drop a).take (b - a) := by
  rw [ByteArray.data_extract, Array.toList_extract, List.extract_eq_take_drop]
theorem of_list (t : ByteArray) (l : List UInt8) (h : t.data.toList = l) : t = ⟨l.toArray⟩ := text_ext (by rw [h])
theorem slice_from (s : ByteArray) (n : Nat) (h : n ≤ s.size) (W : World) : (Instr.slice 9 (.string s) (some (.int .i64 (n : Int))) none none).run Tryz.prog W = .ok (.string ⟨(s.data.toList.drop n).toArray⟩) W := by
  rw [run_slice_string_from_if _ _ _ _ _ Tryz.underlying9, if_pos ⟨by omega, by omega⟩, Int.toNat_natCast, of_list _ _ (drop_text s n)]
theorem slice_mid (s : ByteArray) (a b : Nat) (h : a ≤ b) (h2 : b ≤ s.size) (W : World) : (Instr.slice 9 (.string s) (some (.int .i64 (a : Int))) (some (.int .i64 (b : Int))) none).run Tryz.prog W = .ok (.string ⟨((s.data.toList.drop a).take (b - a)).toArray⟩) W := by
  rw [run_slice_string _ _ _ _ _ _ _ Tryz.underlying9 (by omega) (by omega) (by omega), Int.toNat_natCast, Int.toNat_natCast, of_list _ _ (mid_text s a b)]
theorem list_size (l : List UInt8) : (⟨l.toArray⟩ : ByteArray).size = l.length := by show l.toArray.size = _; simp
theorem rdT_short {q : List UInt8} (h : q.length < 2) : rdT q = .error 30 := by
  match q, h with
  | [], _ => rfl
  | [_], _ => rfl
theorem hide {p : Prop} (h : p) : Hid p := h
theorem two_heads {q : List UInt8} (h : ¬ q.length < 2) : ∃ a b z, q = a :: b :: z := by
  match q, h with
  | a :: b :: z, _ => exact ⟨a, b, z, rfl⟩
  | [], h => exact absurd (by simp) h
  | [_], h => exact absurd (by simp) h
set_option maxRecDepth 100000 in
set_option maxHeartbeats 1600000 in
theorem readText_any (s : ByteArray) (c : UInt8) (q : List UInt8) (hq : s.data.toList = c :: q) (hs : s.size ≤ 65536) (w : World) :
    Calls Tryz.prog 106 #[.string s] w fun e w' => e = .returned (rdOut (rdT q)) ∧ Below w.heap.size w w' := by
  have hz := list_size_cons hq
  by_cases h2 : q.length < 2
  · rw [rdT_short h2]
    have i1 : (s.size : Int) < 3 := by omega
    clear hq
    go_enter Tryz.func106, Tryz.ntmps106
    go_wp2
    refine bodyPost_ret (v := rdOut (.error 30)) ?_ rfl ⟨rfl, ?_⟩
    · simp [results, Tryz.results106, go_sem, rdOut]
    · exact (Below.refl _ _).alloc (Nat.le_refl _) _
  · obtain ⟨h, l, z, rfl⟩ := two_heads h2
    have i1 : ¬ (s.size : Int) < 3 := by simp only [List.length_cons] at hz; omega
    have x1 : ∀ W, (Instr.slice 9 (.string s) (some (.int .i64 1)) none none).run Tryz.prog W = .ok (.string ⟨(h :: l :: z).toArray⟩) W := fun W => by
      have := slice_from s 1 (by omega) W
      rw [hq] at this; exact this
    have c1 := fun W => readPair_any ⟨(h :: l :: z).toArray⟩ h l rfl rfl W
    have hn : h.toNat * 256 + l.toNat < 65536 := by have := h.toNat_lt; have := l.toNat_lt; omega
    rw [rdT]
    have hzz : s.size = z.length + 3 := by simp only [List.length_cons] at hz; omega
    have x2 : h.toNat * 256 + l.toNat ≤ z.length → ∀ W, (Instr.slice 9 (.string s) (some (.int .i64 3)) (some (.int .i64 (3 + ((h.toNat * 256 + l.toNat : Nat) : Int)))) none).run Tryz.prog W = .ok (.string ⟨(z.take (h.toNat * 256 + l.toNat)).toArray⟩) W := fun hle W => by
      have := slice_mid s 3 (3 + (h.toNat * 256 + l.toNat)) (by omega) (by omega) W
      rw [hq] at this
      rw [show ((3 + (h.toNat * 256 + l.toNat) : Nat) : Int) = 3 + ((h.toNat * 256 + l.toNat : Nat) : Int) from by omega, Nat.add_sub_cancel_left] at this
      exact this
    generalize (⟨(h :: l :: z).toArray⟩ : ByteArray) = t at *
    generalize h.toNat * 256 + l.toNat = n at *
    clear hq hz h2
    by_cases hlt : z.length < n
    · rw [if_pos hlt]
      have i2 : (s.size : Int) < 3 + (n : Int) := by omega
      have i3 : (n : Int) ≤ 1000000 := by omega
      clear x2 hzz hn hlt
      go_enter Tryz.func106, Tryz.ntmps106
      go_wp2_with fail
      refine (c1 _).mono ?_
      rintro e w1 ⟨rfl, hb1⟩
      have z1 : w.heap.size + 1 ≤ w1.heap.size := by have := hb1.size; simpa using this
      have k0 : w1.cell? ⟨w.heap.size, 0, none⟩ = some (.bool false) := (hb1.cell (p := ⟨w.heap.size, 0, none⟩) (by simp)).trans (by simp)
      have k1 : w1.cell? ⟨w.heap.size, 1, none⟩ = some (.int .i64 0) := (hb1.cell (p := ⟨w.heap.size, 1, none⟩) (by simp)).trans (by simp)
      have k2 : w1.cell? ⟨w.heap.size, 2, none⟩ = some (.string ⟨#[]⟩) := (hb1.cell (p := ⟨w.heap.size, 2, none⟩) (by simp)).trans (by simp)
      have f0 : w1.frozen? ⟨w.heap.size, 0, none⟩ = false := (hb1.frozen (p := ⟨w.heap.size, 0, none⟩) (by simp)).trans (by simp)
      have f1 : w1.frozen? ⟨w.heap.size, 1, none⟩ = false := (hb1.frozen (p := ⟨w.heap.size, 1, none⟩) (by simp)).trans (by simp)
      have f2 : w1.frozen? ⟨w.heap.size, 2, none⟩ = false := (hb1.frozen (p := ⟨w.heap.size, 2, none⟩) (by simp)).trans (by simp)
      have B1 : Hid (Below w.heap.size w w1) := ((Below.refl _ _).alloc (Nat.le_refl _) _).trans (hb1.mono (by simp))
      clear hb1 c1
      go_wp2
      refine bodyPost_ret (v := rdOut (.error 30)) ?_ rfl ⟨rfl, ?_⟩
      · simp [results, Tryz.results106, go_sem, rdOut, k0, k1, k2]
      · exact ((B1.out.setCell (by simp) _).setCell (by simp) _).setCell (by simp) _
    · rw [if_neg hlt]
      obtain ⟨m, hm⟩ : ∃ m : Nat, 3 + (n : Int) = (m : Int) := ⟨3 + n, by omega⟩
      have i2 : ¬ (s.size : Int) < (m : Int) := by omega
      have i3 : (n : Int) ≤ 1000000 := by omega
      have x3 := x2 (by omega)
      rw [hm] at x3
      have c2 := fun W => sclone_any ⟨(z.take n).toArray⟩ (by rw [list_size, List.length_take]; omega) W
      clear x2
      have hT : Hid (textIt (z.take n) = ⟨true, 0, ⟨(z.take n).toArray⟩⟩) := rfl
      generalize textIt (z.take n) = T at *
      generalize (⟨(z.take n).toArray⟩ : ByteArray) = u at *
      clear hzz hn hlt hs
      go_enter Tryz.func106, Tryz.ntmps106
      go_wp2_with fail
      refine (c1 _).mono ?_
      rintro e w0 ⟨rfl, hb0⟩
      have HB0 := hide hb0
      clear c1 hb0
      go_wp2_with fail
      refine (c2 _).mono ?_
      rintro e w1 ⟨rfl, hb2⟩
      have hb1 := HB0.out.trans (hb2.mono HB0.out.size)
      clear c2 HB0 hb2
      have z1 : w.heap.size + 1 ≤ w1.heap.size := by have := hb1.size; simpa using this
      have k0 : w1.cell? ⟨w.heap.size, 0, none⟩ = some (.bool false) := (hb1.cell (p := ⟨w.heap.size, 0, none⟩) (by simp)).trans (by simp)
      have k1 : w1.cell? ⟨w.heap.size, 1, none⟩ = some (.int .i64 0) := (hb1.cell (p := ⟨w.heap.size, 1, none⟩) (by simp)).trans (by simp)
      have k2 : w1.cell? ⟨w.heap.size, 2, none⟩ = some (.string ⟨#[]⟩) := (hb1.cell (p := ⟨w.heap.size, 2, none⟩) (by simp)).trans (by simp)
      have f0 : w1.frozen? ⟨w.heap.size, 0, none⟩ = false := (hb1.frozen (p := ⟨w.heap.size, 0, none⟩) (by simp)).trans (by simp)
      have f1 : w1.frozen? ⟨w.heap.size, 1, none⟩ = false := (hb1.frozen (p := ⟨w.heap.size, 1, none⟩) (by simp)).trans (by simp)
      have f2 : w1.frozen? ⟨w.heap.size, 2, none⟩ = false := (hb1.frozen (p := ⟨w.heap.size, 2, none⟩) (by simp)).trans (by simp)
      have B1 : Hid (Below w.heap.size w w1) := ((Below.refl _ _).alloc (Nat.le_refl _) _).trans (hb1.mono (by simp))
      clear hb1
      go_wp2
      refine bodyPost_ret (v := rdOut (.ok (T, z.drop n))) ?_ rfl ⟨rfl, ?_⟩
      · rw [hT.out]
        simp [results, Tryz.results106, go_sem, rdOut, itA, k0, k1, k2]
      · exact ((B1.out.setCell (by simp) _).setCell (by simp) _).setCell (by simp) _
end Go.Proofs.YtmbgcpmapaedcaaGreatDoor.Wi
namespace Go.Proofs.YtmbgcpmapaedcaaGreatDoor.Wi
open Go.RowKit
theorem rdOut_form (r : Except Int (It × List UInt8)) : ∃ (t : Bool) (n : Int) (s : ByteArray) (e : Value), rdOut r = .tuple #[.agg #[.bool t, .int .i64 n, .string s], e] := by
  match r with
  | .error e => exact ⟨_, _, _, _, rfl⟩
  | .ok (x, _) => exact ⟨_, _, _, _, rfl⟩
set_option maxRecDepth 100000 in
set_option maxHeartbeats 1600000 in
theorem readItem_any (s : ByteArray) (hs : s.size ≤ 65536) (w : World) :
    Calls Tryz.prog 87 #[.string s] w fun e w' => e = .returned (rdOut (rd s.data.toList)) ∧ Below w.heap.size w w' := by
  match hq : s.data.toList with
  | [] =>
    obtain rfl : s = ⟨#[]⟩ := text_ext hq
    clear hq
    go_enter Tryz.func87, Tryz.ntmps87
    go_wp2
    refine bodyPost_ret (v := rdOut (rd [])) ?_ rfl ⟨rfl, ?_⟩
    · simp [results, Tryz.results87, go_sem, rdOut, rd]
    · exact (Below.refl _ _).alloc (Nat.le_refl _) _
  | c :: q =>
    have hne : s.toList.isEmpty = false := by rw [empty_list]; exact decide_eq_false (by rw [list_size_cons hq]; omega)
    have x0 : ∀ W, (Instr.index 9 (.string s) (.int .i64 0)).run Tryz.prog W = .ok (.int .u8 (c.toNat : Int)) W := run_idx s 0 c (by rw [hq]; rfl)
    have cN := fun W => readNum_any s c q hq hs W
    have cT := fun W => readText_any s c q hq hs W
    rw [rd]
    clear hq hs
    by_cases h35 : c = 35
    · rw [if_pos h35]
      have e35 : ((c.toNat : Int) == 35) = true := by rw [h35]; rfl
      clear h35 cT
      obtain ⟨t, n, u, e, hr⟩ := rdOut_form (rdN q)
      rw [hr] at cN ⊢
      clear hr
      go_enter Tryz.func87, Tryz.ntmps87
      go_wp2_with fail
      refine (cN _).mono ?_
      rintro e w1 ⟨rfl, hb1⟩
      have z1 : w.heap.size + 1 ≤ w1.heap.size := by have := hb1.size; simpa using this
      have k0 : w1.cell? ⟨w.heap.size, 0, none⟩ = some (.bool false) := (hb1.cell (p := ⟨w.heap.size, 0, none⟩) (by simp)).trans (by simp)
      have k1 : w1.cell? ⟨w.heap.size, 1, none⟩ = some (.int .i64 0) := (hb1.cell (p := ⟨w.heap.size, 1, none⟩) (by simp)).trans (by simp)
      have k2 : w1.cell? ⟨w.heap.size, 2, none⟩ = some (.string ⟨#[]⟩) := (hb1.cell (p := ⟨w.heap.size, 2, none⟩) (by simp)).trans (by simp)
      have f0 : w1.frozen? ⟨w.heap.size, 0, none⟩ = false := (hb1.frozen (p := ⟨w.heap.size, 0, none⟩) (by simp)).trans (by simp)
      have f1 : w1.frozen? ⟨w.heap.size, 1, none⟩ = false := (hb1.frozen (p := ⟨w.heap.size, 1, none⟩) (by simp)).trans (by simp)
      have f2 : w1.frozen? ⟨w.heap.size, 2, none⟩ = false := (hb1.frozen (p := ⟨w.heap.size, 2, none⟩) (by simp)).trans (by simp)
      have B1 : Hid (Below w.heap.size w w1) := ((Below.refl _ _).alloc (Nat.le_refl _) _).trans (hb1.mono (by simp))
      clear hb1 cN
      go_wp2
      refine bodyPost_ret (v := .tuple #[.agg #[.bool t, .int .i64 n, .string u], e]) ?_ rfl ⟨rfl, ?_⟩
      · simp [results, Tryz.results87, go_sem, k0, k1, k2]
      · exact ((B1.out.setCell (by simp) _).setCell (by simp) _).setCell (by simp) _
    · rw [if_neg h35]
      have e35 : ((c.toNat : Int) == 35) = false := by
        rw [beq_eq_false_iff_ne]
        intro h
        exact h35 (UInt8.toNat_inj.1 (by show c.toNat = 35; omega))
      clear h35 cN
      by_cases h36 : c = 36
      · rw [if_pos h36]
        have e36 : ((c.toNat : Int) == 36) = true := by rw [h36]; rfl
        clear h36
        obtain ⟨t, n, u, e, hr⟩ := rdOut_form (rdT q)
        rw [hr] at cT ⊢
        clear hr
        go_enter Tryz.func87, Tryz.ntmps87
        go_wp2_with fail
        refine (cT _).mono ?_
        rintro e w1 ⟨rfl, hb1⟩
        have z1 : w.heap.size + 1 ≤ w1.heap.size := by have := hb1.size; simpa using this
        have k0 : w1.cell? ⟨w.heap.size, 0, none⟩ = some (.bool false) := (hb1.cell (p := ⟨w.heap.size, 0, none⟩) (by simp)).trans (by simp)
        have k1 : w1.cell? ⟨w.heap.size, 1, none⟩ = some (.int .i64 0) := (hb1.cell (p := ⟨w.heap.size, 1, none⟩) (by simp)).trans (by simp)
        have k2 : w1.cell? ⟨w.heap.size, 2, none⟩ = some (.string ⟨#[]⟩) := (hb1.cell (p := ⟨w.heap.size, 2, none⟩) (by simp)).trans (by simp)
        have f0 : w1.frozen? ⟨w.heap.size, 0, none⟩ = false := (hb1.frozen (p := ⟨w.heap.size, 0, none⟩) (by simp)).trans (by simp)
        have f1 : w1.frozen? ⟨w.heap.size, 1, none⟩ = false := (hb1.frozen (p := ⟨w.heap.size, 1, none⟩) (by simp)).trans (by simp)
        have f2 : w1.frozen? ⟨w.heap.size, 2, none⟩ = false := (hb1.frozen (p := ⟨w.heap.size, 2, none⟩) (by simp)).trans (by simp)
        have B1 : Hid (Below w.heap.size w w1) := ((Below.refl _ _).alloc (Nat.le_refl _) _).trans (hb1.mono (by simp))
        clear hb1 cT
        go_wp2
        refine bodyPost_ret (v := .tuple #[.agg #[.bool t, .int .i64 n, .string u], e]) ?_ rfl ⟨rfl, ?_⟩
        · simp [results, Tryz.results87, go_sem, k0, k1, k2]
        · exact ((B1.out.setCell (by simp) _).setCell (by simp) _).setCell (by simp) _
      · rw [if_neg h36]
        have e36 : ((c.toNat : Int) == 36) = false := by
          rw [beq_eq_false_iff_ne]
          intro h
          exact h36 (UInt8.toNat_inj.1 (by show c.toNat = 36; omega))
        clear h36 cT
        go_enter Tryz.func87, Tryz.ntmps87
        go_wp2
        refine bodyPost_ret (v := rdOut (.error 3)) ?_ rfl ⟨rfl, ?_⟩
        · simp [results, Tryz.results87, go_sem, rdOut]
        · exact (Below.refl _ _).alloc (Nat.le_refl _) _
/-- what readCount answers: the number, or an error -/
def cntOut (b : List UInt8) : Value :=
  if 65536 < b.length then .tuple #[.int .i64 0, .iface 122 (.int .i64 2)]
  else if b.length < 2 then .tuple #[.int .i64 0, .iface 122 (.int .i64 30)]
  else if 1000 < manyB b then .tuple #[.int .i64 0, .iface 122 (.int .i64 2)]
  else .tuple #[.int .i64 (manyB b : Int), .nilIface]
set_option maxRecDepth 100000 in
set_option maxHeartbeats 1600000 in
theorem readCount_any (s : ByteArray) (hs : s.size ≤ 140737488355328) (w : World) :
    Calls Tryz.prog 86 #[.string s] w fun e w' => e = .returned (cntOut s.data.toList) ∧ Below w.heap.size w w' := by
  unfold cntOut
  rw [text_len]
  by_cases h1 : 65536 < s.size
  · rw [if_pos h1]
    have i1 : (65536 : Int) < (s.size : Int) := by omega
    clear hs h1
    go_enter Tryz.func86, Tryz.ntmps86
    go_wp2
    go_ret2
    exact ⟨rfl, Below.refl _ _⟩
  · rw [if_neg h1]
    have i1 : ¬ (65536 : Int) < (s.size : Int) := by omega
    by_cases h2 : s.size < 2
    · rw [if_pos h2]
      have i2 : (s.size : Int) < 2 := by omega
      clear hs h1 h2
      go_enter Tryz.func86, Tryz.ntmps86
      go_wp2
      go_ret2
      exact ⟨rfl, Below.refl _ _⟩
    · rw [if_neg h2]
      have i2 : ¬ (s.size : Int) < 2 := by omega
      obtain ⟨h, l, z, hq⟩ := two_heads (q := s.data.toList) (by rw [text_len]; exact h2)
      have c1 := fun W => readPair_any s h l (by rw [hq]; rfl) (by rw [hq]; rfl) W
      have hm : manyB s.data.toList = h.toNat * 256 + l.toNat := by rw [hq]; rfl
      have hb : h.toNat * 256 + l.toNat ≤ 65535 := by have := h.toNat_lt; have := l.toNat_lt; omega
      rw [← hm] at c1 hb
      generalize manyB s.data.toList = n at *
      clear hm hq hs h1 h2
      have i4 : (n : Int) ≤ 1000000 := by omega
      by_cases h3 : 1000 < n
      · rw [if_pos h3]
        have i3 : (1000 : Int) < (n : Int) := by omega
        clear hb h3
        go_enter Tryz.func86, Tryz.ntmps86
        go_wp2_with fail
        refine (c1 _).mono ?_
        rintro e w1 ⟨rfl, hb1⟩
        have B1 := hide hb1
        clear hb1 c1
        go_wp2
        go_ret2
        exact ⟨rfl, B1.out⟩
      · rw [if_neg h3]
        have i3 : ¬ (1000 : Int) < (n : Int) := by omega
        clear hb h3
        go_enter Tryz.func86, Tryz.ntmps86
        go_wp2_with fail
        refine (c1 _).mono ?_
        rintro e w1 ⟨rfl, hb1⟩
        have B1 := hide hb1
        clear hb1 c1
        go_wp2
        go_ret2
        exact ⟨rfl, B1.out⟩
end Go.Proofs.YtmbgcpmapaedcaaGreatDoor.Wi
namespace Go.Proofs.YtmbgcpmapaedcaaGreatDoor.Wi
open Go.RowKit
def itC (x : It) : List Value := [.bool x.t, .int .i64 x.n, .string x.s]
def itsC : List It → List Value
  | [] => []
  | x :: l => itC x ++ itsC l
theorem itsC_append (a b : List It) : itsC (a ++ b) = itsC a ++ itsC b := by
  induction a with
  | nil => rfl
  | cons x a ih => rw [List.cons_append, itsC, itsC, ih, List.append_assoc]
theorem itsC_length (l : List It) : (itsC l).length = l.length * 3 := by
  induction l with
  | nil => rfl
  | cons x l ih => rw [itsC, List.length_append, ih, List.length_cons]; show 3 + _ = _; omega
theorem itsC_get (l : List It) : ∀ (i j : Nat) (h : i < l.length), j < 3 → (itsC l)[i * 3 + j]? = (itC l[i])[j]? := by
  induction l with
  | nil => intro i j h; exact absurd h (Nat.not_lt_zero _)
  | cons x l ih =>
    intro i j h hj
    match i with
    | 0 => rw [itsC, List.getElem?_append_left (by show 0 * 3 + j < 3; omega), Nat.zero_mul, Nat.zero_add]; rfl
    | i + 1 =>
      rw [itsC, List.getElem?_append_right (by show 3 ≤ _; omega)]
      show (itsC l)[(i + 1) * 3 + j - 3]? = (itC (l[i]'(by simpa using h)))[j]?
      rw [show (i + 1) * 3 + j - 3 = i * 3 + j from by omega]
      exact ih i j (by simpa using h) hj
/-- what has been read ahead of it -/
def rdsC (l : List It) : Except (Nat × Int) (List It × List UInt8) → Except (Nat × Int) (List It × List UInt8)
  | .error e => .error e
  | .ok (l', r') => .ok (l ++ l', r')
theorem rdsC_ok (l : List It) (k : Nat) (r r' : List UInt8) (x : It) (h : rd r = .ok (x, r')) : rdsC l (rds (k + 1) r) = rdsC (l ++ [x]) (rds k r') := by
  rw [rds, h]
  simp only []
  cases rds k r' with
  | error e => rfl
  | ok q => obtain ⟨a, b⟩ := q; simp [rdsC]
theorem rdsC_err (l : List It) (k : Nat) (r : List UInt8) (e : Int) (h : rd r = .error e) : rdsC l (rds (k + 1) r) = .error (r.length, e) := by
  rw [rds, h]; rfl
theorem rdsC_nil (q : Except (Nat × Int) (List It × List UInt8)) : rdsC [] q = q := by
  cases q with
  | error e => rfl
  | ok q => rfl
theorem oneB_length (x : It) : (oneB x).length = ib x := by
  obtain ⟨t, n, s⟩ := x
  cases t with
  | true => show (36 :: (two s.size ++ s.data.toList)).length = 3 + s.size; rw [List.length_cons, List.length_append, two_length, text_len]; omega
  | false => rfl
/-- the number of bytes that a list tells, the fault, in the four ways that decoding ends -/
theorem decB_long (b : List UInt8) (h : 65536 < b.length) : decB b = ([], 0, 2) := by unfold decB; rw [if_pos h]
theorem decB_short (b : List UInt8) (h1 : ¬ 65536 < b.length) (h : b.length < 2) : decB b = ([], 0, 30) := by unfold decB; rw [if_neg h1, if_pos h]
theorem decB_many (b : List UInt8) (h1 : ¬ 65536 < b.length) (h2 : ¬ b.length < 2) (h : 1000 < manyB b) : decB b = ([], 0, 2) := by unfold decB; rw [if_neg h1, if_neg h2, if_pos h]
theorem decB_err (b : List UInt8) (h1 : ¬ 65536 < b.length) (h2 : ¬ b.length < 2) (h3 : ¬ 1000 < manyB b) (r : Nat) (e : Int) (h : rds (manyB b) (b.drop 2) = .error (r, e)) : decB b = ([], b.length - r, e) := by
  unfold decB; rw [if_neg h1, if_neg h2, if_neg h3, h]
theorem decB_more (b : List UInt8) (h1 : ¬ 65536 < b.length) (h2 : ¬ b.length < 2) (h3 : ¬ 1000 < manyB b) (l : List It) (r : List UInt8) (h : rds (manyB b) (b.drop 2) = .ok (l, r)) (hr : r ≠ []) : decB b = ([], b.length - r.length, 31) := by
  unfold decB; rw [if_neg h1, if_neg h2, if_neg h3, h]; simp only []; rw [if_neg hr]
theorem decB_ok (b : List UInt8) (h1 : ¬ 65536 < b.length) (h2 : ¬ b.length < 2) (h3 : ¬ 1000 < manyB b) (l : List It) (h : rds (manyB b) (b.drop 2) = .ok (l, [])) : decB b = (l, 0, 0) := by
  unfold decB; rw [if_neg h1, if_neg h2, if_neg h3, h]; rfl
end Go.Proofs.YtmbgcpmapaedcaaGreatDoor.Wi
