/- The contract of the document's Upper. -/
import Derived.Test.YtfcnbiikjopajaaDoorUpW
namespace Go.Proofs.YtfcnbiikjopajaaDoor
open Go.RowKit
theorem up_snoc (l : Bs) (k : Nat) (h : k < l.length) : (upL (l.take k)).map encB ++ [encB (upC l[k])] = (upL (l.take (k + 1))).map encB := by
  rw [← List.take_append_getElem h]
  unfold upL
  rw [List.map_append, List.map_append]
  rfl
/-- the text of a byte slice of the call's own -/
theorem own_text {wr : World} {base : Nat} {v : Value} {n : Nat} {l : Bs} (h : wr.ownsRow base 5 1 v n (l.map encB)) (hl : l.length = n) : (convert 53 9 v).run Tryd.prog wr = .ok (.string ⟨l.toArray⟩) wr := by
  by_cases hz : n = 0
  · have hv : v = .slice none 0 0 ∨ ∃ g cap, v = .slice (some ⟨g, 0, none⟩) 0 cap := by
      rcases h.2 with ⟨h1, _⟩ | ⟨g, cap, cur, h1, _⟩
      · exact .inl h1
      · rw [hz] at h1; exact .inr ⟨g, cap, h1⟩
    obtain rfl : l = [] := List.eq_nil_of_length_eq_zero (by omega)
    rcases hv with rfl | ⟨g, cap, rfl⟩
    · rw [run_convert_bytes_string wr 53 9 5 none 0 0 Tryd.underlying53 Tryd.underlying5 Tryd.underlying9]; rfl
    · exact run_convert_bytes_back (P := Tryd.prog) wr 53 9 5 ⟨g, 0, none⟩ cap [] Tryd.underlying53 Tryd.underlying5 Tryd.underlying9 (fun j hj => by cases hj)
  · obtain ⟨g, cap, rfl, _, _⟩ := h.form (by omega)
    have hconv := run_convert_bytes_back (P := Tryd.prog) wr 53 9 5 ⟨g, 0, none⟩ cap l Tryd.underlying53 Tryd.underlying5 Tryd.underlying9 (fun j hj => by
      rw [addr_add, h.cellAt j (by omega), List.getElem?_map, List.getElem?_eq_getElem hj]; rfl)
    rw [hl] at hconv
    exact hconv
set_option maxRecDepth 100000 in
set_option maxHeartbeats 3200000 in
theorem rupper_any (l : Bs) (hl : l.length ≤ 140737488351232) (w : World) : Calls Tryd.prog 13 #[.string ⟨l.toArray⟩] w fun e w' => e = .returned (.string ⟨(upL l).toArray⟩) ∧ Below w.heap.size w w' := by
  obtain ⟨i0, hi, hz0, hz1, hz2⟩ := info_parts in5
  have hidx : Hid (∀ k (h : k < l.length) W, (Instr.index 9 (.string ⟨l.toArray⟩) (.int .i64 (k : Int))).run Tryd.prog W = .ok (.int .u8 (l[k].toNat : Int)) W) := fun k h W => run_idx ⟨l.toArray⟩ k l[k] (List.getElem?_eq_getElem h) W
  have hsz := hide (list_size l)
  generalize (⟨l.toArray⟩ : ByteArray) = s at *
  have HL := hide hl
  clear hl
  go_enter Tryd.func13, Tryd.ntmps13
  go_wp2_with fail
  go_loopw [3, 4] (fun v i wr => ∃ (k : Nat) (v' : Value), k ≤ l.length ∧ i = .int .i64 (k : Int) ∧ v' = v ∧ Hid (wr.ownsRow w.heap.size 5 1 v' k ((upL (l.take k)).map encB) ∧ Below w.heap.size w wr)) (fun _ i _ => l.length - (intOf i).toNat)
  case atStart => exact ⟨0, _, by omega, rfl, rfl, World.ownsRow_nil _ _ _ _, Below.refl _ _⟩
  case round =>
    obtain ⟨k, v, hk, rfl, rfl, ho⟩ := hrel
    by_cases hlt : k < l.length
    · have i1 : (k : Int) < (s.size : Int) := by have := hsz.out; omega
      have x0 := hidx.out k hlt
      have E := hide (upC_int l[k])
      have hx := byte_lt l[k]
      have hx0 : (0 : Int) ≤ (l[k].toNat : Int) := by omega
      have hk2 : (k : Int) ≤ 140737488351232 := by have := HL.out; omega
      have HS := hide (up_snoc l k hlt)
      unfold encB at HS
      have zb := ho.out.2.size
      by_cases hc : (97 : Int) ≤ (l[k].toNat : Int) ∧ (l[k].toNat : Int) ≤ 122
      · have e := hide E.out
        rw [if_pos hc] at e
        rw [e.out] at HS
        obtain ⟨c1, c2⟩ := hc
        clear e E hidx
        generalize (l[k].toNat : Int) = x at *
        go_wp2_with (at_builtin; go_must (refine wpList_append_lies _ (by rfl) _ _ _ (by rfl) w.heap.size 5 i0 _ 1 1 Tryd.underlying53 hi hz0 hz1 hz2 rfl (by omega) _ k _ (by rfl) (ho.out.1.alloc _) ⟨wr.heap.size, 0, none⟩ 1 1 [.int .u8 (x - 97 + 65)] (by rfl) (by rfl) (World.news_of_block (cs := #[.int .u8 (x - 97 + 65)]) (t := 5) (fr := (0, 0)) (heap_alloc_new wr _)) (by simp [Value.oneCell']) (by omega) (by unfold maxLen; omega) (by omega) (by simp; omega) (wr.heap.size + 1) (by simp) ?_; intro gg cap' w3 hown3 hgrow hat3 hlt3))
        go_roundw
        case rel =>
          refine ⟨k + 1, _, by omega, by go_num, rfl, ?_, (ho.out.2.alloc zb _).grown hgrow (by simp; omega) fun r hr => ((ho.out.1.lt r) hr).1⟩
          have h := HS.out
          unfold encB at hown3
          rw [h] at hown3
          exact hown3
        case measure => simp only [intOf]; omega
      · have e := hide E.out
        rw [if_neg hc] at e
        rw [e.out] at HS
        clear e E hidx
        generalize (l[k].toNat : Int) = x at *
        by_cases h97 : 97 ≤ x
        · have h122 : ¬ x ≤ 122 := fun h => hc ⟨h97, h⟩
          clear hc
          go_wp2_with (at_builtin; go_must (refine wpList_append_lies _ (by rfl) _ _ _ (by rfl) w.heap.size 5 i0 _ 1 1 Tryd.underlying53 hi hz0 hz1 hz2 rfl (by omega) _ k _ (by rfl) (ho.out.1.alloc _) ⟨wr.heap.size, 0, none⟩ 1 1 [.int .u8 x] (by rfl) (by rfl) (World.news_of_block (cs := #[.int .u8 x]) (t := 5) (fr := (0, 0)) (heap_alloc_new wr _)) (by simp [Value.oneCell']) (by omega) (by unfold maxLen; omega) (by omega) (by simp; omega) (wr.heap.size + 1) (by simp) ?_; intro gg cap' w3 hown3 hgrow hat3 hlt3))
          go_roundw
          case rel =>
            refine ⟨k + 1, _, by omega, by go_num, rfl, ?_, (ho.out.2.alloc zb _).grown hgrow (by simp; omega) fun r hr => ((ho.out.1.lt r) hr).1⟩
            have h := HS.out
            unfold encB at hown3
            rw [h] at hown3
            exact hown3
          case measure => simp only [intOf]; omega
        · clear hc
          go_wp2_with (at_builtin; go_must (refine wpList_append_lies _ (by rfl) _ _ _ (by rfl) w.heap.size 5 i0 _ 1 1 Tryd.underlying53 hi hz0 hz1 hz2 rfl (by omega) _ k _ (by rfl) (ho.out.1.alloc _) ⟨wr.heap.size, 0, none⟩ 1 1 [.int .u8 x] (by rfl) (by rfl) (World.news_of_block (cs := #[.int .u8 x]) (t := 5) (fr := (0, 0)) (heap_alloc_new wr _)) (by simp [Value.oneCell']) (by omega) (by unfold maxLen; omega) (by omega) (by simp; omega) (wr.heap.size + 1) (by simp) ?_; intro gg cap' w3 hown3 hgrow hat3 hlt3))
          go_roundw
          case rel =>
            refine ⟨k + 1, _, by omega, by go_num, rfl, ?_, (ho.out.2.alloc zb _).grown hgrow (by simp; omega) fun r hr => ((ho.out.1.lt r) hr).1⟩
            have h := HS.out
            unfold encB at hown3
            rw [h] at hown3
            exact hown3
          case measure => simp only [intOf]; omega
    · obtain rfl : k = l.length := by omega
      have i1 : ¬ (l.length : Int) < (s.size : Int) := by have := hsz.out; omega
      clear hidx hi hz0 hz1 hz2
      have ho1 := ho.out.1
      rw [List.take_length] at ho1
      have hb := own_text ho1 (up_length l)
      clear ho1
      go_wp2
      go_ret
      exact ⟨rfl, ho.out.2⟩
end Go.Proofs.YtfcnbiikjopajaaDoor
