/- The contract of wire.readNumberItem. -/
import Derived.Test.YtelhfdhgcojmlaaDoorReadW
namespace Go.Proofs.YtelhfdhgcojmlaaDoor
open Go.RowKit
theorem or_u64s (a b : Nat) (ha : a < 72057594037927936) (hb : b < 256) : bits .or .u64 ((a : Int) * 256) (b : Int) = ((a * 256 + b : Nat) : Int) := by
  have h := or_u64 a b hb
  rw [show (a : Int) * 256 = ((a * 256 : Nat) : Int) from by omega, wrap_u64_small _ (by omega)] at h
  rw [show (a : Int) * 256 = ((a * 256 : Nat) : Int) from by omega, h, Nat.mod_eq_of_lt (by omega)]
theorem numV_take (q : List UInt8) (k : Nat) (h : k < q.length) : numV (q.take (k + 1)) 0 = numV (q.take k) 0 * 256 + q[k].toNat := by
  rw [List.take_succ_eq_append_getElem h, numV_snoc]
theorem numV_bound (q : List UInt8) (k : Nat) (h : k ≤ 7) : numV (q.take k) 0 < 72057594037927936 := by
  have h1 := numV_lt (q.take k) 0
  have h2 : (q.take k).length ≤ 7 := by rw [List.length_take]; omega
  have h3 : 256 ^ (q.take k).length ≤ 256 ^ 7 := Nat.pow_le_pow_right (by omega) h2
  have h4 : (256 : Nat) ^ 7 = 72057594037927936 := by decide
  omega
theorem numV_bound8 (q : List UInt8) : numV (q.take 8) 0 < 18446744073709551616 := by
  have h1 := numV_lt (q.take 8) 0
  have h2 : (q.take 8).length ≤ 8 := by rw [List.length_take]; omega
  have h3 : 256 ^ (q.take 8).length ≤ 256 ^ 8 := Nat.pow_le_pow_right (by omega) h2
  have h4 : (256 : Nat) ^ 8 = 18446744073709551616 := by decide
  omega
theorem list_size_cons {s : ByteArray} {c : UInt8} {q : List UInt8} (hq : s.data.toList = c :: q) : s.size = q.length + 1 := by rw [← text_len, hq, List.length_cons]
set_option maxRecDepth 100000 in
set_option maxHeartbeats 1600000 in
theorem readNum_any (s : ByteArray) (c : UInt8) (q : List UInt8) (hq : s.data.toList = c :: q) (hs : s.size ≤ 65536) (w : World) :
    Calls Tryd.prog 31 #[.string s] w fun e w' => e = .returned (rdOut (rdN q)) ∧ Below w.heap.size w w' := by
  have hz := list_size_cons hq
  by_cases h8 : q.length < 8
  · have hr : rdN q = .error 30 := by unfold rdN; rw [if_pos h8]
    rw [hr]
    have i1 : (s.size : Int) < 9 := by omega
    clear hr hq
    go_enter Tryd.func31, Tryd.ntmps31
    go_wp2
    refine bodyPost_ret (v := rdOut (.error 30)) ?_ rfl ⟨rfl, ?_⟩
    · simp [results, Tryd.results31, go_sem, rdOut]
    · exact (Below.refl _ _).alloc (Nat.le_refl _) _
  · have hr : rdN q = .ok (numIt (q.take 8), q.drop 8) := by unfold rdN; rw [if_neg h8]
    rw [hr]
    have i1 : ¬ (s.size : Int) < 9 := by omega
    have i2 : (9 : Int) ≤ (s.size : Int) := by omega
    have HQ : Hid (s.data.toList = c :: q) := hq
    have hsg : Hid (IntKind.i64.wrap ((numV (q.take 8) 0 : Nat) : Int) = signV (numV (q.take 8) 0)) := sign_wrap _ (numV_bound8 q)
    clear hr hq
    go_enter Tryd.func31, Tryd.ntmps31
    go_wp2_with fail
    go_loop [4, 5] (fun n i => ∃ k : Nat, k ≤ 8 ∧ i = .int .i64 ((k + 1 : Nat) : Int) ∧ n = .int .u64 ((numV (q.take k) 0 : Nat) : Int)) (fun _ i => 9 - (intOf i).toNat)
    case atStart => exact ⟨0, by omega, rfl, rfl⟩
    case round =>
      obtain ⟨k, hk, rfl, rfl⟩ := hrel
      by_cases hlt : k < 8
      · have j1 : ((k + 1 : Nat) : Int) < 9 := by omega
        have j2 : (0 : Int) ≤ ((k + 1 : Nat) : Int) := by omega
        have hql : k < q.length := by omega
        have hx := run_idx s (k + 1) q[k] (by rw [HQ.out, List.getElem?_cons_succ, List.getElem?_eq_getElem hql])
        have hb := numV_bound q k (by omega)
        have HN : Hid (((numV (q.take (k + 1)) 0 : Nat) : Int) = bits .or .u64 (((numV (q.take k) 0 : Nat) : Int) * 256) ((q[k].toNat : Nat) : Int)) := by
          unfold Hid
          rw [or_u64s _ _ hb (q[k].toNat_lt), numV_take q k hql]
        have hc : (q[k].toNat : Int) < 256 := by have := q[k].toNat_lt; omega
        generalize q[k] = d at *
        have hb' : ((numV (q.take k) 0 : Nat) : Int) < 72057594037927936 := by omega
        generalize numV (q.take k) 0 = m at *
        have j3 : IntKind.i64.wrap (((k + 1 : Nat) : Int) + 1) = ((k + 1 + 1 : Nat) : Int) := by rw [show ((k + 1 : Nat) : Int) + 1 = ((k + 1 + 1 : Nat) : Int) from by omega]; exact wrap_i64_small _ (by omega)
        have HK : Hid (((k + 1 : Nat) : Int) = (k : Int) + 1) := by show _ = _; omega
        generalize ((k + 1 : Nat) : Int) = K at *
        go_wp2
        go_round
        case rel => exact ⟨k + 1, by omega, by go_num, by rw [HN.out]⟩
        case measure => simp only [intOf]; rw [HK.out]; omega
      · obtain rfl : k = 8 := by omega
        clear HQ
        have hsg' := hsg.out
        go_wp2
        refine bodyPost_ret (v := rdOut (.ok (numIt (q.take 8), q.drop 8))) ?_ rfl ⟨rfl, ?_⟩
        · simp [results, Tryd.results31, go_sem, rdOut, itA, numIt]
        · exact (Below.refl _ _).alloc (Nat.le_refl _) _
end Go.Proofs.YtelhfdhgcojmlaaDoor
