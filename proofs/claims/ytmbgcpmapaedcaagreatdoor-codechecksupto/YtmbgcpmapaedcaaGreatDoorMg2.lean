/- Names: plain; tables in memory. | The contracts of expr.isDigit, isCapital, isWord and Name. | The contracts of wrapping: the program's wrapped, the document's Wrapped. | Which values fit: the contracts of the program's Fits (over its table of spans) and of the document's. -/
import Derived.Test.YtmbgcpmapaedcaaGreatDoorMg0
import Derived.Deep.MidRow
import Derived.Deep.DeepMust
import Derived.Deep.WholeRow
import Derived.Great.BuildSlice
namespace Go.Proofs.YtmbgcpmapaedcaaGreatDoor.Ex
open Go.RowKit
abbrev Bs := List UInt8
def isDig (c : UInt8) : Bool := decide (48 ≤ c) && decide (c ≤ 57)
def kwB : List Bs := [[80, 82, 79, 71, 82, 65, 77], [69, 78, 68, 95, 80, 82, 79, 71, 82, 65, 77], [86, 65, 82], [86, 65, 82, 95, 73, 78, 80, 85, 84], [86, 65, 82, 95, 79, 85, 84, 80, 85, 84], [69, 78, 68, 95, 86, 65, 82], [65, 82, 82, 65, 89], [79, 70], [66, 79, 79, 76], [73, 78, 84], [68, 73, 78, 84], [84, 73, 77, 69], [84, 79, 78], [84, 79, 70], [84, 80], [67, 84, 85], [67, 84, 68], [82, 95, 84, 82, 73, 71], [70, 95, 84, 82, 73, 71], [83, 82], [82, 83], [81, 85, 65, 68], [73, 70], [84, 72, 69, 78], [69, 76, 83, 73, 70], [69, 76, 83, 69], [69, 78, 68, 95, 73, 70], [67, 65, 83, 69], [69, 78, 68, 95, 67, 65, 83, 69], [87, 72, 73, 76, 69], [68, 79], [69, 78, 68, 95, 87, 72, 73, 76, 69], [70, 79, 82], [84, 79], [66, 89], [69, 78, 68, 95, 70, 79, 82], [82, 69, 80, 69, 65, 84], [85, 78, 84, 73, 76], [69, 78, 68, 95, 82, 69, 80, 69, 65, 84], [69, 88, 73, 84], [82, 69, 84, 85, 82, 78], [65, 78, 68], [79, 82], [88, 79, 82], [78, 79, 84], [77, 79, 68], [84, 82, 85, 69], [70, 65, 76, 83, 69], [84, 79, 95, 73, 78, 84], [84, 79, 95, 68, 73, 78, 84], [84, 79, 95, 84, 73, 77, 69]]
def capC (c : UInt8) : Bool := (decide (65 ≤ c) && decide (c ≤ 90)) || (isDig c || decide (c = 95))
def wordB (s : Bs) : Bool := match s with
  | [] => false
  | c :: r => decide (r.length + 1 ≤ 24) && (!isDig c && (c :: r).all capC)
def nameB (s : Bs) : Bool := !(kwB.contains s) && wordB s
theorem hide {p : Prop} (h : p) : Hid p := h
theorem ret_bool {a b : Bool} (h : a = b) : Ending.returned (.bool a) = .returned (.bool b) := by rw [h]
theorem ret_int {k : IntKind} {a b : Int} (h : a = b) : Ending.returned (.int k a) = .returned (.int k b) := by rw [h]
theorem text_len (s : ByteArray) : s.data.toList.length = s.size := by rw [Array.length_toList]; rfl
theorem text_ext {a b : ByteArray} (h : a.data.toList = b.data.toList) : a = b := ByteArray.ext (Array.toList_inj.1 h)
theorem list_size (l : List UInt8) : (⟨l.toArray⟩ : ByteArray).size = l.length := by show l.toArray.size = _; simp
theorem of_list (t : ByteArray) (l : List UInt8) (h : t.data.toList = l) : t = ⟨l.toArray⟩ := text_ext (by rw [h])
theorem to_list (t : ByteArray) : t = ⟨t.data.toList.toArray⟩ := of_list _ _ rfl
theorem u8_le {a b : UInt8} : a ≤ b ↔ (a.toNat : Int) ≤ (b.toNat : Int) := by rw [UInt8.le_iff_toNat_le]; omega
theorem u8_eq {a b : UInt8} : a = b ↔ (a.toNat : Int) = (b.toNat : Int) := by rw [← UInt8.toNat_inj]; omega
theorem dig_int (c : UInt8) : isDig c = (decide ((48 : Int) ≤ (c.toNat : Int)) && decide ((c.toNat : Int) ≤ 57)) := by
  unfold isDig
  rw [Bool.eq_iff_iff]
  simp only [Bool.and_eq_true, decide_eq_true_eq, u8_le]
  exact Iff.rfl
theorem byte_lt (c : UInt8) : (c.toNat : Int) < 256 := by have := c.toNat_lt; omega
theorem run_idx (s : ByteArray) (k : Nat) (c : UInt8) (h : s.data.toList[k]? = some c) (W : World) : (Instr.index 9 (.string s) (.int .i64 (k : Int))).run Tryz.prog W = .ok (.int .u8 (c.toNat : Int)) W := by
  have e : s[k]? = some c := by
    have hk : k < s.size := by rw [← text_len]; exact (List.getElem?_eq_some_iff.1 h).1
    rw [Array.getElem?_toList] at h
    have h' := (Array.getElem?_eq_some_iff.1 h).2
    simp [hk]; exact h'
  have hk : k < s.size := by rw [← text_len]; exact (List.getElem?_eq_some_iff.1 h).1
  simp only [Instr.index, asIntOf, Sem.run_bind, Sem.run_pure, Result.andThen_ok, run_underlying Tryz.underlying9]
  rw [if_pos (by omega), Int.toNat_natCast]
  simp [e]
def TabAt (w : World) (b : Nat) (t : List Value) : Prop := ∀ k v, t[k]? = some v → w.cell? ⟨b, k, none⟩ = some v
def kwTab : List Value := kwB.map fun s => .string ⟨s.toArray⟩
theorem TabAt.below {B b : Nat} {w w' : World} {t : List Value} (h : TabAt w b t) (hb : Below B w w') (hB : b < B) : TabAt w' b t := fun k v e => (hb.cell (p := ⟨b, k, none⟩) hB).trans (h k v e)
theorem TabAt.alloc {b : Nat} {w : World} {t : List Value} (h : TabAt w b t) (hb : b < w.heap.size) (o : Obj) : TabAt (w.alloc o) b t := h.below ((Below.refl w.heap.size w).alloc (Nat.le_refl _) o) hb
theorem at_load {P : Program} {ops : Array Oper} {rest : List Oper} {a : Act} {w : World} {Q : Exit → Act → World → Prop} {pos : String} {after : Array Edge} {dst : Option Tmp} {ty ty' : TypeId} {x : Operand} {g : Option (Nat × Bool)}
    (h : wpList P ops Q ({ dst := dst, op := .load ty x, type := ty', pos := pos, after := after, guard := g } :: rest) a w) : wpList P ops Q ({ dst := dst, op := .load ty x, type := ty', pos := pos, after := after, guard := g } :: rest) a w := h
theorem load_tab {ops : Array Oper} {rest : List Oper} {a : Act} {w : World} {Q : Exit → Act → World → Prop} {pos : String} {after : Array Edge} {dst : Option Tmp} {ty ty' : TypeId} {x : Operand} {b : Nat} {t : List Value} {T : Value} {d : TypeDesc}
    (hx : a.eval x = .pointer (some ⟨b, 0, none⟩)) (h : TabAt w b t) (hT : Value.agg t.toArray = T) (hu : Tryz.prog.underlying ty = some d) (hd : d.isRow = true) (hi : (Tryz.prog.info? ty).map (·.size) = some t.length)
    (k : wpList Tryz.prog ops Q rest (a.put dst T) w) : wpList Tryz.prog ops Q ({ dst := dst, op := .load ty x, type := ty', pos := pos, after := after, guard := none } :: rest) a w :=
  wpList_load_mid rfl ty x rfl b 0 hx t d (fun j v e => by rw [Nat.zero_add]; exact h j v e) hu hd hi (by rw [hT]; exact k)
theorem index_cell {ty e : TypeId} {n : Nat} (hu : Tryz.prog.underlying ty = some (.array n e)) (ha : ∀ W, (isAgg e).run Tryz.prog W = .ok false W) (hz : ∀ W, (sizeOf e).run Tryz.prog W = .ok 1 W) (cs : Array Value) (k : Nat) (hk : k < n) (v : Value) (hv : cs[k]? = some v) (W : World) :
    (Instr.index ty (.agg cs) (.int .i64 (k : Int))).run Tryz.prog W = .ok v W := by
  simp only [Instr.index, asIntOf, Sem.run_bind, Sem.run_pure, Result.andThen_ok, run_underlying hu]
  rw [if_pos ⟨by omega, by omega⟩]
  simp only [Sem.run_bind, hz, Result.andThen_ok, part, ha, Bool.false_eq_true, if_false, Int.toNat_natCast, Nat.mul_one, hv, Sem.run_pure]
theorem index_row {ty e : TypeId} {n m : Nat} (hu : Tryz.prog.underlying ty = some (.array n e)) (ha : ∀ W, (isAgg e).run Tryz.prog W = .ok true W) (hz : ∀ W, (sizeOf e).run Tryz.prog W = .ok m W) (cs : Array Value) (k : Nat) (hk : k < n) (vs : Array Value) (hv : cs.extract (k * m) (k * m + m) = vs) (W : World) :
    (Instr.index ty (.agg cs) (.int .i64 (k : Int))).run Tryz.prog W = .ok (.agg vs) W := by
  simp only [Instr.index, asIntOf, Sem.run_bind, Sem.run_pure, Result.andThen_ok, run_underlying hu]
  rw [if_pos ⟨by omega, by omega⟩]
  simp only [Sem.run_bind, hz, Result.andThen_ok, part, ha, if_true, Int.toNat_natCast, hv, Sem.run_pure]
end Go.Proofs.YtmbgcpmapaedcaaGreatDoor.Ex
namespace Go.Proofs.YtmbgcpmapaedcaaGreatDoor.Ex
open Go.RowKit
set_option maxRecDepth 100000 in
theorem eDigit_any (c : UInt8) (w : World) : Calls Tryz.prog 90 #[.int .u8 (c.toNat : Int)] w fun e w' => e = .returned (.bool (isDig c)) ∧ w' = w := by
  have E := hide (dig_int c)
  generalize (c.toNat : Int) = x at *
  by_cases h1 : (48 : Int) ≤ x
  · go_enter Tryz.func90, Tryz.ntmps90
    go_wp2
    go_ret
    exact ⟨ret_bool (by rw [E.out, Bool.eq_iff_iff]; simp; try omega), rfl⟩
  · go_enter Tryz.func90, Tryz.ntmps90
    go_wp2
    go_ret
    exact ⟨ret_bool (by rw [E.out, Bool.eq_iff_iff]; simp; try omega), rfl⟩
def capB (c : UInt8) : Bool := (decide (65 ≤ c) && decide (c ≤ 90)) || decide (c = 95)
theorem cap_int (c : UInt8) : capB c = ((decide ((65 : Int) ≤ (c.toNat : Int)) && decide ((c.toNat : Int) ≤ 90)) || decide ((c.toNat : Int) = 95)) := by
  unfold capB
  have e1 : decide ((65 : UInt8) ≤ c) = decide ((65 : Int) ≤ (c.toNat : Int)) := by rw [decide_eq_decide, u8_le]; rfl
  have e2 : decide (c ≤ (90 : UInt8)) = decide ((c.toNat : Int) ≤ 90) := by rw [decide_eq_decide, u8_le]; rfl
  have e3 : decide (c = (95 : UInt8)) = decide ((c.toNat : Int) = 95) := by rw [decide_eq_decide, u8_eq]; rfl
  rw [e1, e2, e3]
theorem capC_eq (c : UInt8) : capC c = (capB c || isDig c) := by
  unfold capC capB
  cases isDig c <;> cases (decide (65 ≤ c) && decide (c ≤ 90)) <;> simp
set_option maxRecDepth 100000 in
theorem eCap_any (c : UInt8) (w : World) : Calls Tryz.prog 91 #[.int .u8 (c.toNat : Int)] w fun e w' => e = .returned (.bool (capB c)) ∧ w' = w := by
  have E := hide (cap_int c)
  generalize (c.toNat : Int) = x at *
  by_cases h1 : (65 : Int) ≤ x
  · by_cases h2 : x ≤ 90
    · go_enter Tryz.func91, Tryz.ntmps91
      go_wp2
      go_ret
      exact ⟨ret_bool (by rw [E.out, Bool.eq_iff_iff]; simp; try omega), rfl⟩
    · go_enter Tryz.func91, Tryz.ntmps91
      go_wp2
      go_ret
      exact ⟨ret_bool (by rw [E.out, Bool.eq_iff_iff]; simp; try omega), rfl⟩
  · go_enter Tryz.func91, Tryz.ntmps91
    go_wp2
    go_ret
    exact ⟨ret_bool (by rw [E.out, Bool.eq_iff_iff]; simp; try omega), rfl⟩
theorem beq_text (a b : ByteArray) : (a.toList == b.toList) = decide (a = b) := by
  rw [ByteArray.toList_eq, ByteArray.toList_eq]
  by_cases h : a = b
  · rw [h, decide_eq_true rfl]; exact beq_self_eq_true _
  · rw [decide_eq_false h, beq_eq_false_iff_ne]; exact fun e => h (text_ext e)
theorem nil_text (s : Bs) : (⟨s.toArray⟩ : ByteArray).toList.isEmpty = decide (s = []) := by
  rw [ByteArray.toList_eq]
  cases s <;> rfl
set_option maxRecDepth 100000 in
set_option maxHeartbeats 1600000 in
theorem eWord_any (s : Bs) (w : World) : Calls Tryz.prog 68 #[.string ⟨s.toArray⟩] w fun e w' => e = .returned (.bool (wordB s)) ∧ w' = w := by
  match s with
  | [] =>
    go_enter Tryz.func68, Tryz.ntmps68
    go_wp2
    go_ret
    exact ⟨rfl, rfl⟩
  | c :: r =>
    have e2 : (⟨(c :: r).toArray⟩ : ByteArray).toList.isEmpty = false := by rw [nil_text]; rfl
    have hsz := list_size (c :: r)
    have HW : Hid (wordB (c :: r) = (decide (r.length + 1 ≤ 24) && (!isDig c && (c :: r).all capC))) := rfl
    have HX : Hid (∀ (i : Nat) (h : i < (c :: r).length), ∀ W : World, (Instr.index 9 (.string ⟨(c :: r).toArray⟩) (.int .i64 (i : Int))).run Tryz.prog W = .ok (.int .u8 ((c :: r)[i].toNat : Int)) W) := fun i h W => run_idx ⟨(c :: r).toArray⟩ i (c :: r)[i] (List.getElem?_eq_getElem h) W
    have x0 := HX.out 0 (by simp)
    simp only [List.getElem_cons_zero] at x0
    have x0' : ∀ W : World, (Instr.index 9 (.string ⟨(c :: r).toArray⟩) (.int .i64 0)).run Tryz.prog W = .ok (.int .u8 (c.toNat : Int)) W := x0
    have d0 := eDigit_any c w
    clear x0
    by_cases hl : 24 < (c :: r).length
    · have i1 : (24 : Int) < ((⟨(c :: r).toArray⟩ : ByteArray).size : Int) := by omega
      have HE : Hid (wordB (c :: r) = false) := by
        show _ = _
        rw [HW.out, decide_eq_false (by simp at hl; omega)]; rfl
      generalize (⟨(c :: r).toArray⟩ : ByteArray) = S at *
      clear hsz HX d0 x0' hl
      go_enter Tryz.func68, Tryz.ntmps68
      go_wp2
      go_ret
      exact ⟨ret_bool HE.out.symm, rfl⟩
    · have i1 : ¬ (24 : Int) < ((⟨(c :: r).toArray⟩ : ByteArray).size : Int) := by omega
      have HT : Hid (decide (r.length + 1 ≤ 24) = true) := decide_eq_true (by simp at hl; omega)
      obtain ⟨N, hN⟩ : ∃ N, N = (c :: r).length := ⟨_, rfl⟩
      have HN := hide hN
      rw [← hN] at hsz hl
      have n1 : (N : Int) ≤ 24 := by omega
      generalize (⟨(c :: r).toArray⟩ : ByteArray) = S at *
      have HSZ := hide hsz
      cases hd : isDig c with
      | true =>
        rw [hd] at d0
        have HE : Hid (wordB (c :: r) = false) := by
          show _ = _
          rw [HW.out, hd]; simp
        clear hsz HX hl hN
        go_enter Tryz.func68, Tryz.ntmps68
        go_wp2_with fail
        refine d0.mono ?_
        rintro e w1 ⟨rfl, hw1⟩
        subst hw1
        go_wp2
        go_ret
        exact ⟨ret_bool HE.out.symm, rfl⟩
      | false =>
        rw [hd] at d0
        have HE : Hid (wordB (c :: r) = (c :: r).all capC) := by
          show _ = _
          rw [HW.out, HT.out, hd]; simp
        have hsz2 : (S.size : Int) = (N : Int) := by omega
        clear hl hN hsz HW HT
        go_enter Tryz.func68, Tryz.ntmps68
        go_wp2_with fail
        refine d0.mono ?_
        rintro e w1 ⟨rfl, hw1⟩
        subst hw1
        clear d0 x0'
        go_wp2_with fail
        go_loopw [18] (fun i wr => ∃ k : Nat, k ≤ N ∧ i = .int .i64 (k : Int) ∧ Hid (((c :: r).take k).all capC = true ∧ wr = w1)) (fun i _ => N - (intOf i).toNat)
        case atStart => exact ⟨0, by omega, rfl, rfl, rfl⟩
        case round =>
          obtain ⟨k, hk, rfl, hh⟩ := hrel
          obtain ⟨ha, hw⟩ := hh.out
          subst hw
          have HA := hide ha
          by_cases hlt : k < N
          · have j1 : (k : Int) < (N : Int) := by omega
            have hki : k < (c :: r).length := by rw [← HN.out]; exact hlt
            have xi := HX.out k hki
            obtain ⟨b, hb⟩ : ∃ b, b = (c :: r)[k] := ⟨_, rfl⟩
            rw [← hb] at xi
            have c1 := fun W => eCap_any b W
            have c2 := fun W => eDigit_any b W
            have HS : Hid (capC b = true → ((c :: r).take (k + 1)).all capC = true) := fun h => by
              rw [List.take_add_one, List.all_append, HA.out, List.getElem?_eq_getElem hki, ← hb]
              simp [h]
            have HF : Hid (capC b = false → (c :: r).all capC = false) := fun h => by
              rw [List.all_eq_false]
              exact ⟨b, by rw [hb]; exact List.getElem_mem hki, by rw [h]; decide⟩
            have HC := hide (capC_eq b)
            clear hb hki ha hh
            go_wp2_with fail
            refine (c1 _).mono ?_
            rintro e w2 ⟨rfl, hw2⟩
            subst hw2
            cases hcb : capB b with
            | true =>
              have HR := hide (HS.out (by rw [HC.out, hcb]; rfl))
              clear c1 c2 HS HF
              go_wp2
              go_roundw
              case rel => exact ⟨k + 1, by omega, by go_num, HR.out, by trivial⟩
              case measure => simp [intOf]; omega
            | false =>
              go_wp2_with fail
              refine (c2 _).mono ?_
              rintro e w3 ⟨rfl, hw3⟩
              subst hw3
              cases hdb : isDig b with
              | true =>
                have HR := hide (HS.out (by rw [HC.out, hcb, hdb]; rfl))
                clear c1 c2 HS HF
                go_wp2
                go_roundw
                case rel => exact ⟨k + 1, by omega, by go_num, HR.out, by trivial⟩
                case measure => simp [intOf]; omega
              | false =>
                have HR := hide (HF.out (by rw [HC.out, hcb, hdb]; rfl))
                clear c1 c2 HS HF
                go_wp2
                go_ret
                exact ⟨ret_bool (by rw [HE.out, HR.out]), rfl⟩
          · obtain rfl : k = N := by omega
            have HT2 : Hid ((c :: r).all capC = true) := by
              have h := HA.out
              rw [List.take_of_length_le (by rw [← HN.out]; exact Nat.le_refl _)] at h
              exact h
            clear hh ha HA
            go_wp2
            go_ret
            exact ⟨ret_bool (by rw [HE.out, HT2.out]), rfl⟩
theorem size103' : (Tryz.prog.info? 103).map (·.size) = some 51 := by kernel_rfl
theorem size103 : (Tryz.prog.info? 103).map (·.size) = some kwTab.length := size103'
theorem kw_idx (k : Nat) (h : k < 51) (W : World) : (Instr.index 103 (.agg kwTab.toArray) (.int .i64 (k : Int))).run Tryz.prog W = .ok (.string ⟨(kwB[k]'h).toArray⟩) W :=
  index_cell Tryz.underlying103 (fun _ => Tryz.isAgg9 _) (fun _ => Tryz.sizeOf9 _) _ k h _ (by
    rw [List.getElem?_toArray, kwTab, List.getElem?_map, List.getElem?_eq_getElem (show k < kwB.length from h)]; rfl) W
set_option maxRecDepth 100000 in
set_option maxHeartbeats 1600000 in
theorem eName_any (s : Bs) (w : World) (hg : TabAt w 0 kwTab) : Calls Tryz.prog 36 #[.string ⟨s.toArray⟩] w fun e w' => e = .returned (.bool (nameB s)) ∧ w' = w := by
  have HN : Hid (nameB s = (!(kwB.contains s) && wordB s)) := rfl
  have c1 := fun W => eWord_any s W
  have ix : Hid (∀ (k : Nat) (h : k < 51) (W : World), (Instr.index 103 (.agg kwTab.toArray) (.int .i64 (k : Int))).run Tryz.prog W = .ok (.string ⟨(kwB[k]'h).toArray⟩) W) := kw_idx
  obtain ⟨S, hS⟩ : ∃ S : ByteArray, S = ⟨s.toArray⟩ := ⟨_, rfl⟩
  rw [← hS] at c1 ⊢
  have HS := hide hS
  clear hS
  obtain ⟨KT, hT⟩ : ∃ KT, Value.agg kwTab.toArray = KT := ⟨_, rfl⟩
  rw [hT] at ix
  go_enter Tryz.func36, Tryz.ntmps36
  go_wp2_with ((with_reducible refine at_load (ty := 103) ?_); go_must (refine load_tab (b := 0) (t := kwTab) (T := KT) rfl hg hT Tryz.underlying103 rfl size103 ?_))
  clear hg hT
  go_loop [6] (fun i => ∃ k : Nat, k ≤ 51 ∧ i = .int .i64 (k : Int) ∧ Hid ((kwB.take k).contains s = false)) (fun i => 51 - (intOf i).toNat)
  case atStart => exact ⟨0, by omega, rfl, rfl⟩
  case round =>
    obtain ⟨k, hk, rfl, hf⟩ := hrel
    by_cases hlt : k < 51
    · have x0 := ix.out k hlt
      have i1 : (k : Int) < 51 := by omega
      obtain ⟨g, hgk⟩ : ∃ g, g = kwB[k]'hlt := ⟨_, rfl⟩
      rw [← hgk] at x0
      have bt := beq_text ⟨g.toArray⟩ S
      have HM : Hid (g ∈ kwB) := by rw [hgk]; exact List.getElem_mem _
      have HTK : Hid (kwB.take (k + 1) = kwB.take k ++ [g]) := by
        show _ = _
        rw [List.take_add_one, List.getElem?_eq_getElem (show k < kwB.length from hlt), hgk]; rfl
      obtain ⟨u, HU⟩ : ∃ u : ByteArray, Hid ((⟨g.toArray⟩ : ByteArray) = u) := ⟨_, rfl⟩
      rw [HU.out] at x0 bt
      clear hgk ix
      by_cases he : u = S
      · have hb : (u.toList == S.toList) = true := by rw [bt]; exact decide_eq_true he
        have HE : Hid (nameB s = false) := by
          show _ = _
          have hgs : g = s := by
            have e : (⟨g.toArray⟩ : ByteArray) = ⟨s.toArray⟩ := by rw [HU.out, ← HS.out]; exact he
            simpa using congrArg (fun x : ByteArray => x.data.toList) e
          rw [HN.out, show kwB.contains s = true from by rw [List.contains_iff_mem, ← hgs]; exact HM.out]; rfl
        clear bt he c1 hf
        go_wp2
        go_ret
        exact ⟨ret_bool HE.out.symm, rfl⟩
      · have hb : (u.toList == S.toList) = false := by rw [bt]; exact decide_eq_false he
        have HR : Hid ((kwB.take (k + 1)).contains s = false) := by
          show _ = _
          rw [HTK.out]
          have h1 := hf.out
          rw [Bool.eq_false_iff, Ne, List.contains_iff_mem] at h1 ⊢
          intro h
          rcases List.mem_append.1 h with h | h
          · exact h1 h
          · exact he (by rw [← HU.out, HS.out, List.mem_singleton.1 h])
        clear bt he c1 hf
        go_wp2
        go_round
        case rel => exact ⟨k + 1, by omega, by go_num, HR.out⟩
        case measure => simp [intOf]; omega
    · obtain rfl : k = 51 := by omega
      have HE : Hid (nameB s = wordB s) := by
        show _ = _
        have h := hf.out
        rw [List.take_of_length_le (show kwB.length ≤ 51 from Nat.le_refl _)] at h
        rw [HN.out, h]; rfl
      clear hf ix
      go_wp2_with fail
      refine (c1 _).mono ?_
      rintro e w1 ⟨rfl, hw1⟩
      subst hw1
      go_wp2
      go_ret
      exact ⟨ret_bool HE.out.symm, rfl⟩
end Go.Proofs.YtmbgcpmapaedcaaGreatDoor.Ex
namespace Go.Proofs.YtmbgcpmapaedcaaGreatDoor.Four
open Go.RowKit
theorem and_one (n : Int) : bits .and .i64 n 1 = n % 2 := by
  show IntKind.i64.wrap ((BitVec.ofInt 64 n &&& BitVec.ofInt 64 1).toNat : Int) = _
  rw [BitVec.toNat_and, ofInt_mod, show (BitVec.ofInt 64 1).toNat = 1 from rfl, Nat.and_one_is_mod]
  simp [IntKind.wrap, IntKind.bits, IntKind.signed]
  omega
theorem w64 {n : Int} (h1 : -9223372036854775808 ≤ n) (h2 : n < 9223372036854775808) : wrap64 n = n := by
  unfold wrap64; omega
theorem tmod_up (n m : Int) (hm : m = 65536 ∨ m = 4294967296) : (wrap64 (n.tmod m + m)).tmod m = n % m := by
  have h : n.tmod m = n % m ∨ n.tmod m = n % m - m := by
    rcases Int.le_total 0 n with h0 | h0
    · left; exact Int.tmod_eq_emod_of_nonneg h0
    · have e : (-n).tmod m = -(n.tmod m) := Int.neg_tmod n m
      rw [Int.tmod_eq_emod_of_nonneg (show 0 ≤ -n by omega)] at e
      rcases hm with rfl | rfl <;> omega
  have h2 : 0 ≤ n.tmod m + m ∧ n.tmod m + m < 9223372036854775808 ∧ (n.tmod m + m) % m = n % m := by
    rcases hm with rfl | rfl <;> omega
  rw [w64 (by omega) (by omega), Int.tmod_eq_emod_of_nonneg h2.1, h2.2.2]
theorem wr_i16 (n : Int) : wrap64 (IntKind.i16.wrap n) = wrN 2 n := by
  have e : IntKind.i16.wrap n = wrN 2 n := by
    unfold wrN
    rw [if_neg (by decide), show szN 2 = 65536 from rfl]
    simp [IntKind.wrap, IntKind.bits, IntKind.signed]
  obtain ⟨a, b⟩ := wr_range (t := 2) (by decide) n
  rw [show szN 2 = 65536 from rfl] at a b
  rw [e, w64 (by omega) (by omega)]
theorem wr_i32 {t : Int} (h1 : t ≠ 1) (h2 : t ≠ 2) (n : Int) : wrap64 (wrap32 n) = wrN t n := by
  have es : szN t = 4294967296 := by unfold szN; rw [if_neg h2]
  have e : wrap32 n = wrN t n := by
    unfold wrN wrap32
    rw [if_neg h1, es]
    split <;> omega
  obtain ⟨a, b⟩ := wr_range (t := t) h1 n
  rw [es] at a b
  rw [e, w64 (by omega) (by omega)]
set_option maxRecDepth 100000 in
theorem wrapped_any (t n : Int) (w : World) : Calls Tryz.prog 114 #[.int .i64 t, .int .i64 n] w fun e w' => e = .returned (.int .i64 (wrN t n)) ∧ w' = w := by
  by_cases h1 : t = 1
  · subst h1
    have E := hide ((wr_one n).trans (and_one n).symm)
    go_enter Tryz.func114, Tryz.ntmps114
    go_wp2
    go_ret
    exact ⟨by rw [E.out]; rfl, rfl⟩
  · by_cases h2 : t = 2
    · subst h2
      have E := hide (wr_i16 n).symm
      clear h1
      go_enter Tryz.func114, Tryz.ntmps114
      go_wp2
      go_ret
      exact ⟨by rw [E.out]; rfl, rfl⟩
    · have E := hide (wr_i32 h1 h2 n).symm
      go_enter Tryz.func114, Tryz.ntmps114
      go_wp2
      go_ret
      exact ⟨by rw [E.out]; rfl, rfl⟩
end Go.Proofs.YtmbgcpmapaedcaaGreatDoor.Four
namespace Go.Proofs.YtmbgcpmapaedcaaGreatDoor.Four
open Go.RowKit
/-- the table of spans lies in memory -/
def Glo (w : World) : Prop := ∀ k (h : k < 10), w.cell? ⟨1, k, none⟩ = some (.int .i64 ([0, 0, 0, 1, -32768, 32767, -2147483648, 2147483647, -2147483648, 2147483647][k]'h))
theorem Glo.below {B : Nat} {w w' : World} (h : Glo w) (hb : Below B w w') (hB : 1 < B) : Glo w' := fun t ht => (hb.cell (p := ⟨1, t, none⟩) hB).trans (h t ht)
theorem Glo.lt {w : World} (h : Glo w) : 1 < w.heap.size := World.block_lt_of_cell? w _ (h 0 (by omega))
theorem fit_span (t n : Int) : fitB t n = (tyB t && (decide (([0, 0, -32768, -2147483648, -2147483648] : List Int).getD t.toNat 0 ≤ n) && decide (n ≤ ([0, 1, 32767, 2147483647, 2147483647] : List Int).getD t.toNat 0))) := by
  by_cases h1 : 1 ≤ t
  · by_cases h4 : t ≤ 4
    · have : t = 1 ∨ t = 2 ∨ t = 3 ∨ t = 4 := by omega
      rcases this with rfl | rfl | rfl | rfl
      · unfold fitB
        rw [if_pos rfl]
        show _ = (true && (decide ((0 : Int) ≤ n) && decide (n ≤ 1)))
        rw [Bool.eq_iff_iff]; simp; omega
      · unfold fitB
        rw [if_neg (by decide)]
        show (true && (decide (-(65536 / 2 : Int) ≤ n) && decide (n < 65536 / 2))) = (true && (decide ((-32768 : Int) ≤ n) && decide (n ≤ 32767)))
        rw [Bool.eq_iff_iff]; simp; omega
      all_goals
        unfold fitB
        rw [if_neg (by decide)]
        show (true && (decide (-(4294967296 / 2 : Int) ≤ n) && decide (n < 4294967296 / 2))) = (true && (decide ((-2147483648 : Int) ≤ n) && decide (n ≤ 2147483647)))
        rw [Bool.eq_iff_iff]; simp; omega
    · have e : tyB t = false := by unfold tyB; rw [decide_eq_false h4, Bool.and_false]
      unfold fitB; rw [if_neg (by omega), e]; rfl
  · have e : tyB t = false := by unfold tyB; rw [decide_eq_false h1]; rfl
    unfold fitB; rw [if_neg (by omega), e]; rfl
set_option maxRecDepth 100000 in
theorem fits_any (t n : Int) (w : World) (hg : Glo w) : Calls Tryz.prog 69 #[.int .i64 t, .int .i64 n] w fun e w' => e = .returned (.bool (fitB t n)) ∧ w' = w := by
  have E := hide (fit_span t n)
  have c := isType_any t
  by_cases ht : tyB t = true
  · rw [ht] at c
    rw [E.out, ht, Bool.true_and]
    have : t = 1 ∨ t = 2 ∨ t = 3 ∨ t = 4 := by
      unfold tyB at ht
      rw [Bool.and_eq_true] at ht
      have h1 := of_decide_eq_true ht.1
      have h2 := of_decide_eq_true ht.2
      omega
    have g0 := hg 2 (by omega)
    have g1 := hg 3 (by omega)
    have g2 := hg 4 (by omega)
    have g3 := hg 5 (by omega)
    have g4 := hg 6 (by omega)
    have g5 := hg 7 (by omega)
    have g6 := hg 8 (by omega)
    have g7 := hg 9 (by omega)
    clear E ht hg
    rcases this with rfl | rfl | rfl | rfl
    all_goals
      go_enter Tryz.func69, Tryz.ntmps69
      go_wp2_with fail
      refine (c _).mono ?_
      rintro e w1 ⟨rfl, rfl⟩
      go_wp2
    all_goals
      go_ret
      refine ⟨ret_bool ?_, rfl⟩
      simp
      omega
  · rw [Bool.not_eq_true] at ht
    rw [ht] at c
    rw [E.out, ht]
    clear E hg ht
    go_enter Tryz.func69, Tryz.ntmps69
    go_wp2_with fail
    refine (c _).mono ?_
    rintro e w1 ⟨rfl, rfl⟩
    go_wp2
    go_ret
    exact ⟨rfl, rfl⟩
end Go.Proofs.YtmbgcpmapaedcaaGreatDoor.Four
