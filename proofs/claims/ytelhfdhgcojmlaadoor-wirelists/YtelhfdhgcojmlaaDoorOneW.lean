/- The contract of the document's One. -/
import Derived.Test.YtelhfdhgcojmlaaDoorEncW
namespace Go.Proofs.YtelhfdhgcojmlaaDoor
open Go.RowKit
theorem byte_int (n : Nat) (h : n < 256) : (((UInt8.ofNat n).toNat : Nat) : Int) = (n : Int) := by rw [byte_of]; omega
theorem lit_at (w : World) (A : Obj) : ((w.alloc A).alloc (.cells #[.int .u8 35] 5)).ownsRow (w.heap.size + 1) 5 1 (.slice (some ⟨w.heap.size + 1, 0, none⟩) 1 1) 1 [.int .u8 35] := by
  have h := World.ownsRow_lit (base := w.heap.size + 1) (e := 5) (size := 1) (w.alloc A) #[.int .u8 35] 1 (by simp) (by unfold maxLen; omega) rfl
  simpa using h
set_option maxRecDepth 100000 in
set_option maxHeartbeats 1600000 in
theorem one_any (x : It) (hm : mayB x = true) (w : World) :
    Calls Tryd.prog 26 #[itA x] w fun e w' => e = .returned (.string ⟨(oneB x).toArray⟩) ∧ Below w.heap.size w w' := by
  obtain ⟨i0, hi, hz0, hz1, hz2⟩ := info_parts in5
  have hsz := may_size hm
  obtain ⟨t, n, s⟩ := x
  have hs : s.size ≤ 65535 := hsz
  unfold itA
  clear hsz hm
  cases t with
  | true =>
    have hconv := run_convert_bytes_back (P := Tryd.prog) ((w.alloc (.cells #[.bool true, .int .i64 n, .string s] 38)).alloc (.cells #[.int .u8 36, .int .u8 ((s.size : Int) / 256), .int .u8 ((s.size : Int) % 256)] 5)) 35 9 5 ⟨w.heap.size + 1, 0, none⟩ 3 [36, UInt8.ofNat (s.size / 256), UInt8.ofNat (s.size % 256)] Tryd.underlying35 Tryd.underlying5 Tryd.underlying9 (fun j hj => by
      rw [addr_add, cell_of_row _ _ _ _ _ _ (alloc2_at w _ _)]
      match j, hj with
      | 0, _ => rfl
      | 1, _ => show some _ = some (Value.int .u8 (((UInt8.ofNat (s.size / 256)).toNat : Nat) : Int)); rw [byte_int _ (by omega)]; simp
      | 2, _ => show some _ = some (Value.int .u8 (((UInt8.ofNat (s.size % 256)).toNat : Nat) : Int)); rw [byte_int _ (by omega)]; simp)
    have hl3 : [36, UInt8.ofNat (s.size / 256), UInt8.ofNat (s.size % 256)].length = 3 := rfl
    rw [hl3] at hconv
    have HO : Hid (oneB ⟨true, n, s⟩ = [36, UInt8.ofNat (s.size / 256), UInt8.ofNat (s.size % 256)] ++ s.data.toList) := rfl
    generalize oneB ⟨true, n, s⟩ = ob at *
    have a1 : ∀ W : World, (Op.stringOp .add ⟨[36, UInt8.ofNat (s.size / 256), UInt8.ofNat (s.size % 256)].toArray⟩ s).run Tryd.prog W = .ok (.string ⟨ob.toArray⟩) W := fun W => by
      rw [run_string_add_sum W _ _ (by rw [list_size, hl3]; omega)]
      congr 2
      apply text_ext
      rw [ByteArray.data_append, Array.toList_append, HO.out]
    have s1 : (s.size : Int) ≤ 65535 := by omega
    generalize (⟨[36, UInt8.ofNat (s.size / 256), UInt8.ofNat (s.size % 256)].toArray⟩ : ByteArray) = u at *
    clear hl3
    go_enter Tryd.func26, Tryd.ntmps26
    go_wp2
    go_ret
    exact ⟨rfl, ((Below.refl _ _).alloc (Nat.le_refl _) _).alloc (by simp) _⟩
  | false =>
    have HO : Hid (oneB ⟨false, n, s⟩ = 35 :: numB (nb n)) := rfl
    have hw := nb_wrap n
    have HN := hide (nb_lt n)
    generalize oneB ⟨false, n, s⟩ = ob at *
    generalize nb n = N at *
    go_enter Tryd.func26, Tryd.ntmps26
    go_wp2_with fail
    go_loopw [3, 4] (fun b i wr => ∃ (k : Nat) (b' : Value), k ≤ 8 ∧ i = .int .i64 (7 - (k : Int)) ∧ b' = b ∧ wr.ownsRow (w.heap.size + 1) 5 1 b' (1 + k) ([.int .u8 35] ++ ((numB N).take k).map encB) ∧ Below (w.heap.size + 1) (w.alloc (.cells #[.bool false, .int .i64 n, .string s] 38)) wr) (fun _ i _ => (intOf i + 1).toNat)
    case atStart => exact ⟨0, _, by omega, rfl, rfl, lit_at w _, (Below.refl _ _).alloc (by simp) _⟩
    case round =>
      obtain ⟨k, b, hk, rfl, rfl, hown, hbel⟩ := hrel
      by_cases hlt : k < 8
      · have j0 : (0 : Int) ≤ 7 - (k : Int) := by omega
        have hc : wr.cell? ⟨w.heap.size, 1, none⟩ = some (.int .i64 n) := (hbel.cell (p := ⟨w.heap.size, 1, none⟩) (by simp)).trans (by simp)
        have zr : w.heap.size + 1 ≤ wr.heap.size := by have := hbel.size; simpa using this
        have HOW := hide hown
        have HB := hide hbel
        clear hown hbel
        have HT : Hid (((numB N).take (k + 1)).map encB = ((numB N).take k).map encB ++ [.int .u8 ((N : Int) / 2 ^ (8 * (7 - k)) % 256)]) := by
          have h := numB_take N k hlt
          rw [show 56 - 8 * k = 8 * (7 - k) from by omega] at h; exact h
        go_wp2_with (at_builtin; go_must (refine wpList_append_lies _ (by rfl) _ _ _ (by rfl) (w.heap.size + 1) 5 i0 _ 1 1 Tryd.underlying35 hi hz0 hz1 hz2 rfl (by omega) b (1 + k) _ (by rfl) (HOW.out.alloc _) ⟨wr.heap.size, 0, none⟩ 1 1 [.int .u8 ((N : Int) / 2 ^ (8 * (7 - k)) % 256)] (by rfl) (by rfl) (World.news_of_block (cs := #[.int .u8 ((N : Int) / 2 ^ (8 * (7 - k)) % 256)]) (t := 5) (fr := (0, 0)) (heap_alloc_new wr _)) (by simp [Value.oneCell']) (by omega) (by unfold maxLen; omega) (by omega) (by simp; omega) (wr.heap.size + 1) (by simp) ?_; intro gg cap' w3 hown3 hgrow hat3 hlt3))
        go_roundw
        case rel =>
          refine ⟨k + 1, _, by omega, by go_num, rfl, ?_, (HB.out.alloc (by simpa using zr) _).grown hgrow (by simp; omega) (fun r hr => (HOW.out.lt r hr).1)⟩
          rw [HT.out, ← List.append_assoc]
          exact hown3
        case measure => simp only [intOf]; omega
      · obtain rfl : k = 8 := by omega
        obtain ⟨g8, cap8, rfl, _, _⟩ := hown.form (by omega)
        have hob : ob.map encB = [.int .u8 35] ++ ((numB N).take 8).map encB := by rw [HO.out]; rfl
        rw [← hob] at hown
        have hol : ob.length = 9 := by rw [HO.out]; rfl
        have hconv := run_convert_bytes_back (P := Tryd.prog) wr 35 9 5 ⟨g8, 0, none⟩ cap8 ob Tryd.underlying35 Tryd.underlying5 Tryd.underlying9 (fun i hi => by
          rw [addr_add, hown.cellAt i (by omega), List.getElem?_map, List.getElem?_eq_getElem hi]; rfl)
        rw [hol] at hconv
        have HB : Hid (Below w.heap.size w wr) := ((Below.refl _ _).alloc (Nat.le_refl _) _).trans (hbel.mono (by omega))
        clear hown hbel hob hol
        go_wp2
        go_ret
        exact ⟨rfl, HB.out⟩
end Go.Proofs.YtelhfdhgcojmlaaDoor
