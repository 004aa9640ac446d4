/- The contract of wire.appendNumber. -/
import Derived.Test.YtmbgcpmapaedcaaDoorWiPairW
namespace Go.Proofs.YtmbgcpmapaedcaaDoor.Wi
open Go.RowKit
theorem enc_byte (n : Nat) : encB (UInt8.ofNat n) = .int .u8 ((n % 256 : Nat) : Int) := by unfold encB; rw [byte_of]
theorem numB_take (x k : Nat) (h : k < 8) : ((numB x).take (k + 1)).map encB = ((numB x).take k).map encB ++ [.int .u8 ((x : Int) / 2 ^ (56 - 8 * k) % 256)] := by
  have e : ((x : Int) / 2 ^ (56 - 8 * k) % 256) = ((x / 2 ^ (56 - 8 * k) % 256 : Nat) : Int) := by simp
  rw [e, List.take_succ_eq_append_getElem (by rw [numB_length]; exact h), List.map_append]
  congr 1
  show [encB _] = _
  rw [← enc_byte]
  match k, h with
  | 0, _ => rfl
  | 1, _ => rfl
  | 2, _ => rfl
  | 3, _ => rfl
  | 4, _ => rfl
  | 5, _ => rfl
  | 6, _ => rfl
  | 7, _ => show [encB (UInt8.ofNat x)] = [encB (UInt8.ofNat (x / 2 ^ 0))]; rw [Nat.pow_zero, Nat.div_one]
set_option maxRecDepth 100000 in
set_option maxHeartbeats 1600000 in
theorem appendNumber_any (base : Nat) (v : Value) (m x : Nat) (xs : List Value) (w : World) (hown : w.ownsRow base 5 1 v m xs) (hbase : base ≤ w.heap.size) (hm : m ≤ 1000000000) (hx : x < 18446744073709551616) :
    Calls Tryd.prog 57 #[v, .int .u64 (x : Int)] w fun e w' => ∃ v', e = .returned v' ∧ App base w v w' v' (m + 8) (xs ++ (numB x).map encB) := by
  obtain ⟨i0, hi, hz0, hz1, hz2⟩ := info_parts in5
  have HO := hide hown
  have HX := hide hx
  clear hown hx
  go_enter Tryd.func57, Tryd.ntmps57
  go_wp2_with fail
  go_loopw [0, 5] (fun b i wr => ∃ (k : Nat) (b' : Value), k ≤ 8 ∧ i = .int .i64 (56 - 8 * (k : Int)) ∧ b' = b ∧ App base w v wr b' (m + k) (xs ++ ((numB x).take k).map encB)) (fun _ i _ => (intOf i + 8).toNat)
  case atStart => exact ⟨0, _, by omega, rfl, rfl, ⟨by simpa using HO.out, ⟨rfl, rfl, rfl, Nat.le_refl _, fun _ _ _ => rfl⟩, .inl rfl⟩⟩
  case round =>
    obtain ⟨k, b, hk, rfl, rfl, happ⟩ := hrel
    by_cases hlt : k < 8
    · have j0 : (0 : Int) ≤ 56 - 8 * (k : Int) := by omega
      have HA := hide happ
      have zr := happ.grow.size
      clear happ
      have HN := hide (numB_take x k hlt)
      have hbo : ∀ r, b.ownBlock = some r → base ≤ r := fun r hr => (HA.out.own.lt r hr).1
      go_wp2_with (at_builtin; go_must (refine wpList_append_lies _ (by rfl) _ _ _ (by rfl) base 5 i0 _ 1 1 Tryd.underlying61 hi hz0 hz1 hz2 rfl (by omega) b (m + k) _ (by rfl) (HA.out.own.alloc _) ⟨wr.heap.size, 0, none⟩ 1 1 [.int .u8 ((x : Int) / 2 ^ (56 - 8 * k) % 256)] (by rfl) (by rfl) (World.news_of_block (cs := #[.int .u8 ((x : Int) / 2 ^ (56 - 8 * k) % 256)]) (t := 5) (fr := (0, 0)) (heap_alloc_new wr _)) (by simp [Value.oneCell']) (by omega) (by unfold maxLen; omega) (by omega) (by simp; omega) (wr.heap.size + 1) (by simp) ?_; intro gg cap' w3 hown3 hgrow hat3 hlt3))
      go_roundw
      case rel =>
        refine ⟨k + 1, _, by omega, by go_num, rfl, ?_⟩
        have h := App.of_lies (w := wr) ((Below.refl _ _).alloc (Nat.le_refl _) _) hown3 hgrow (by simpa using hat3)
        rw [HN.out]
        have h2 := HA.out.trans h
        rw [List.append_assoc] at h2
        exact h2
      case measure => simp only [intOf]; omega
    · obtain rfl : k = 8 := by omega
      have HA := hide happ
      clear happ
      go_wp2
      go_ret
      exact ⟨_, rfl, HA.out⟩
end Go.Proofs.YtmbgcpmapaedcaaDoor.Wi
