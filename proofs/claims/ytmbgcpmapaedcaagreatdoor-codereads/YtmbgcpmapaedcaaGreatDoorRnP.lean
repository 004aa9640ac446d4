/- The document's Decode: sizes, and how its ends look. -/
import Derived.Test.YtmbgcpmapaedcaaGreatDoorMg34
import Derived.Test.YtmbgcpmapaedcaaGreatDoorRfW
import Derived.Test.YtmbgcpmapaedcaaGreatDoorMg40
namespace Go.Proofs.YtmbgcpmapaedcaaGreatDoor
open Go.RowKit
open Wi (It itA ItsAt)
theorem nR_mem (m : Int) (s : Rs) : ∀ y ∈ (nR m s).2.q, y ∈ s.q := by
  obtain ⟨q, b⟩ := s
  cases b with
  | true => exact fun y hy => hy
  | false =>
    show ∀ y ∈ (nH m q).2.q, y ∈ q
    cases q with
    | nil => exact fun y hy => by cases hy
    | cons x r =>
      rw [nH]
      split
      · exact fun y hy => List.mem_cons_of_mem _ hy
      · exact fun y hy => hy
theorem tR_mem (s : Rs) : ∀ y ∈ (tR s).2.q, y ∈ s.q := by
  obtain ⟨q, b⟩ := s
  cases b with
  | true => exact fun y hy => hy
  | false =>
    show ∀ y ∈ (tH q).2.q, y ∈ q
    cases q with
    | nil => exact fun y hy => by cases hy
    | cons x r =>
      rw [tH]
      split
      · exact fun y hy => List.mem_cons_of_mem _ hy
      · exact fun y hy => hy
theorem lN_mem : ∀ (n : Nat) (s : Rs), ∀ y ∈ (lN n s).2.q, y ∈ s.q
  | 0, _ => fun y hy => hy
  | n + 1, s => by
    rw [lN]
    split
    · exact fun y hy => hy
    · exact fun y hy => nR_mem 1024 s y (lN_mem n _ y hy)
theorem fH_mem (b : Bool) (q : List It) : ∀ y ∈ (fH b q).2.q, y ∈ q := by
  cases q with
  | nil => exact fun y hy => by cases hy
  | cons x r =>
    rw [fH]
    split
    · exact fun y hy => hy
    · exact fun y hy => List.mem_cons_of_mem _ hy
theorem cN_mem : ∀ (n : Nat) (s : Rs), ∀ y ∈ (cN n s).2.q, y ∈ s.q
  | 0, _ => fun y hy => hy
  | n + 1, s => by
    rw [cN]
    split
    · exact fun y hy => hy
    · exact fun y hy => nR_mem 9 s y (fH_mem _ _ y (cN_mem n _ y hy))
theorem lR_mem (s : Rs) : ∀ y ∈ (lR s).2.q, y ∈ s.q := fun y hy => nR_mem 1024 s y (lN_mem _ _ y hy)
theorem sO_mem (l : List It) : ∀ y ∈ (sO l).2.q, y ∈ l := fun y hy => tR_mem ⟨l, false⟩ y (nR_mem 1024 _ y (cN_mem _ _ y (lR_mem _ y (lR_mem _ y hy))))
theorem tR_size (s : Rs) (h : ∀ y ∈ s.q, y.s.size ≤ 65536) : (tR s).1.length ≤ 65536 := by
  obtain ⟨q, b⟩ := s
  cases b with
  | true => exact Nat.zero_le _
  | false =>
    show (tH q).1.length ≤ _
    cases q with
    | nil => exact Nat.zero_le _
    | cons x r =>
      rw [tH]
      split
      · rw [Wi.text_len]; exact h x List.mem_cons_self
      · exact Nat.zero_le _
theorem sZ_size (l : List It) (h : ∀ y ∈ l, y.s.size ≤ 65536) : (sZ l).1.length ≤ 65536 := tR_size _ fun y hy => h y (sO_mem l y hy)
theorem fH_len (b : Bool) (q : List It) : (fH b q).1.length ≤ 1 := by
  cases q with
  | nil => exact Nat.zero_le _
  | cons x r =>
    rw [fH]
    split
    · exact Nat.zero_le _
    · exact Nat.le_refl _
theorem cN_len : ∀ (n : Nat) (s : Rs), (cN n s).1.1.length ≤ n ∧ (cN n s).1.2.length ≤ n
  | 0, _ => ⟨Nat.le_refl 0, Nat.le_refl 0⟩
  | n + 1, s => by
    rw [cN]
    split
    · exact ⟨Nat.zero_le _, Nat.zero_le _⟩
    · have h := cN_len n (cR s).2.2
      have h2 : (cR s).2.1.length ≤ 1 := fH_len _ _
      exact ⟨by rw [List.length_cons]; omega, by rw [List.length_append]; omega⟩
theorem lR_len (s : Rs) : (lR s).1.length ≤ 1024 := by
  have h := lN_len (nR 1024 s).1.toNat (nR 1024 s).2
  have hp := nR_pos 1024 s (by omega)
  unfold lR
  omega
theorem sM_le (l : List It) : sM l ≤ 1024 := by
  have hp := nR_pos 1024 (tR ⟨l, false⟩).2 (by omega)
  unfold sM
  omega
theorem rd_start {w : World} {l : List It} {v : Value} {va : Option Addr} {vc : Nat} (hL : w.ownsRow 0 61 3 v l.length (Wi.itsC l)) (hv : v = .slice va l.length vc) (A : Obj) :
    ∃ lb loff, (0 < l.length → lb < w.heap.size + 2 ∧ va = some ⟨lb, loff, none⟩) ∧ lb ≠ w.heap.size + 1 ∧ ItsAt ((w.alloc A).alloc (.cells #[.slice va l.length vc, .int .i64 0, .bool false] 57)) lb loff l ∧
      RDr (w.heap.size + 2) ((w.alloc A).alloc (.cells #[.slice va l.length vc, .int .i64 0, .bool false] 57)) (w.heap.size + 1) l ⟨l, false⟩ := by
  subst hv
  have hLst := Wi.Lst.of_owns hL
  obtain ⟨a0, c0, hv, hcap⟩ := owns_slice hL
  obtain ⟨a, b, off, cap, hv2, hA, hI⟩ := hLst
  obtain ⟨rfl, -, rfl⟩ : va = a ∧ l.length = l.length ∧ vc = cap := by injection hv2 with h1 h2 h3; exact ⟨h1, rfl, h3⟩
  have hw2 : ((w.alloc A).alloc (.cells #[.slice va l.length vc, .int .i64 0, .bool false] 57)).heap[w.heap.size + 1]? = some (.cells #[.slice va l.length vc, .int .i64 0, .bool false] 57 (0, 0)) := by
    have h := heap_alloc_new (w.alloc A) (.cells #[.slice va l.length vc, .int .i64 0, .bool false] 57)
    simpa using h
  by_cases h0 : 0 < l.length
  · obtain ⟨hb, rfl⟩ := hA h0
    have hI2 : ItsAt ((w.alloc A).alloc (.cells #[.slice (some ⟨b, off, none⟩) l.length vc, .int .i64 0, .bool false] 57)) b off l := its_below hI fun _ => by
      rw [heap_alloc_old _ _ (by simp; omega), heap_alloc_old _ _ hb]
    exact ⟨b, off, fun _ => ⟨by omega, rfl⟩, by omega, hI2, by omega, by simp, _, b, off, vc, 0, Nat.zero_le _, rfl, hw2, by omega, fun _ => ⟨by omega, rfl⟩, hI2⟩
  · have hn : l = [] := List.eq_nil_of_length_eq_zero (by omega)
    have hI2 : ∀ W, ItsAt W 0 0 l := fun W i x hx => by rw [hn] at hx; cases hx
    exact ⟨0, 0, fun h => absurd h h0, by omega, hI2 _, by omega, by simp, _, 0, 0, vc, 0, Nat.zero_le _, rfl, hw2, by omega, fun h => absurd h h0, hI2 _⟩
end Go.Proofs.YtmbgcpmapaedcaaGreatDoor
