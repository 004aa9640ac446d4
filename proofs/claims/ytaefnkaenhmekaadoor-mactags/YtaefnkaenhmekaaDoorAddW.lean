/- The contract of (*Hash).add: a piece is taken in. -/
import Derived.Test.YtaefnkaenhmekaaDoorMid
import Derived.Test.YtaefnkaenhmekaaDoorFinW
import Derived.Deep.RegionWith
import Derived.Deep.DeepMust
namespace Go.Proofs.YtaefnkaenhmekaaDoor
open Go.RowKit
theorem z5 : (Tryd.prog.info? 5).map (·.size) = some 1 := by kernel_rfl
theorem ld43 {dst : Option Tmp} {ty' : TypeId} {x : Operand} {pos : String} {after : Array Edge} {gd : Option (Nat × Bool)} {a : Act} {w : World} {K : Act → World → Prop} {Q : Exit → Act → World → Prop} (h : OkV w 8 (a.eval x)) :
    Oper.wp Tryd.prog { dst := dst, op := .load 48 x, type := ty', pos := pos, after := after, guard := gd } a w K Q = K (a.put dst (.agg (rdV w 8 (a.eval x)))) w := wp_ld 8 Tryd.underlying48 z43 h
theorem ld44 {dst : Option Tmp} {ty' : TypeId} {x : Operand} {pos : String} {after : Array Edge} {gd : Option (Nat × Bool)} {a : Act} {w : World} {K : Act → World → Prop} {Q : Exit → Act → World → Prop} (h : OkV w 64 (a.eval x)) :
    Oper.wp Tryd.prog { dst := dst, op := .load 46 x, type := ty', pos := pos, after := after, guard := gd } a w K Q = K (a.put dst (.agg (rdV w 64 (a.eval x)))) w := wp_ld 64 Tryd.underlying46 z44 h
theorem st43 {dst : Option Tmp} {ty' : TypeId} {x y : Operand} {pos : String} {after : Array Edge} {gd : Option (Nat × Bool)} {a : Act} {w : World} {K : Act → World → Prop} {Q : Exit → Act → World → Prop} (hy : isAggV (a.eval y) = true) (h : ThV w 8 (aggC (a.eval y)) (a.eval x)) :
    Oper.wp Tryd.prog { dst := dst, op := .store 48 x y, type := ty', pos := pos, after := after, guard := gd } a w K Q = K (a.put dst undef) (stV w (aggC (a.eval y)) (a.eval x)) := wp_st 8 z43 hy h
attribute [local go_sem ↓] Go.wp_at_zero Go.wp_at_succ ld43 ld44 st43
attribute [local go_sem] OkV_drew rdV_drew ThV_drew aggC_agg isAggV_agg stV_ptr
def strSize : Value → Nat
  | .string t => t.size
  | _ => 0
set_option maxRecDepth 100000 in
set_option maxHeartbeats 1600000 in
theorem add_any (hT : TakeSaid) (g : Nat) (hg : 0 < g) (l : List UInt8) (s : ByteArray) (hn : l.length + s.size < 1152921504606846976) (w : World) (hTab : Tab w) (hH : HashIs w g l) :
    Calls Tryd.prog 26 #[.pointer (some ⟨g, 0, none⟩), .string s] w fun e w' => e = .returned (.tuple #[]) ∧ HashIs w' g (l ++ s.data.toList) ∧ Upd g w w' := by
  have h0 : 0 < w.heap.size := by have := hH.lt; omega
  have HT : Hid TakeSaid := hT
  have HTab : Hid (Tab w) := hTab
  have HH : Hid (HashIs w g l) := hH
  clear hT hTab hH
  go_enter Tryd.func26, Tryd.ntmps26
  go_wp2
  go_loopw [1] (fun b wr => ∃ (t : ByteArray) (p : List UInt8), b = .string t ∧ Hid (p ++ t.data.toList = s.data.toList) ∧ HashIs wr g (l ++ p) ∧ Upd g w wr) (fun b _ => strSize b)
  case atStart => exact ⟨s, [], rfl, by simp [Hid], by rw [List.append_nil]; exact HH.out, Upd.refl _ _⟩
  case round =>
    clear HH
    obtain ⟨t, p, rfl, hpt, hH, hU⟩ := hrel
    by_cases ht0 : 0 < t.size
    · obtain ⟨tl, hB, htl⟩ := hH
      have hlen := hB.len
      have hps : p.length + t.size = s.size := by
        have := congrArg List.length hpt.out
        simpa using this
      have hbd : (l ++ p).length + t.size < 1152921504606846976 := by rw [List.length_append]; omega
      have hjoin : Hid (∀ n r, r = t.data.toList.take n → ∃ p', l ++ p ++ r = l ++ p' ∧ p' ++ t.data.toList.drop n = s.data.toList) := fun n r hr => ⟨p ++ r, by simp, by rw [hr, List.append_assoc, List.take_append_drop]; exact hpt.out⟩
      clear hpt hps
      generalize l ++ p = q at *
      obtain ⟨N, hN⟩ : ∃ N, N = q.length := ⟨_, rfl⟩
      obtain ⟨u, hu⟩ : ∃ u, u = N % 64 := ⟨_, rfl⟩
      have hu64 : u < 64 := by omega
      have hrem : (N : Int) % 64 = (u : Int) := by omega
      have HU : Hid (N = q.length ∧ u = q.length % 64 ∧ tl.take (q.length % 64) = restOf q) := ⟨hN, by rw [hu, hN], htl⟩
      rw [← hN] at hlen hbd hB
      clear htl hu hN
      obtain ⟨n, hn'⟩ : ∃ n, n = Nat.min t.size (64 - u) := ⟨_, rfl⟩
      have hn1 : n ≤ t.size := by rw [hn']; exact Nat.min_le_left _ _
      have hn2 : n ≤ 64 - u := by rw [hn']; exact Nat.min_le_right _ _
      have hn3 : 0 < n := by rw [hn']; exact Nat.lt_min.2 ⟨ht0, by omega⟩
      have hth : wr.there g (8 + u) n := there_all hB.2 hB.1 _ _ (by omega)
      have hcopy := run_copy_text (P := Tryd.prog) wr 32 9 3 5 g (8 + u) (64 - u) (64 - u) n t hn' Tryd.underlying32 z5 hth
      have i0 : (0 : Int) < (t.size : Int) := by omega
      have i1 : (N : Int) + (n : Int) < 1152921504606846976 := by omega
      have i2 : (0 : Int) ≤ (u : Int) := by omega
      have i3 : (u : Int) < 64 := by omega
      have i4 : (u : Int) ≤ 64 := by omega
      have i5 : (n : Int) ≤ (t.size : Int) := by omega
      have i6 : (0 : Int) ≤ (n : Int) := by omega
      obtain ⟨r, hr⟩ : ∃ r, r = t.data.toList.take n := ⟨_, rfl⟩
      have hrl : r.length = n := by rw [hr, List.length_take, Array.length_toList]; show min n t.size = n; omega
      rw [← hr] at hcopy
      have hB2 := hB.lay u r (by rw [hrl]; omega)
      have hU2 := Upd.setCells (r.map encB) (8 + u) wr hU
      generalize wr.setCells g (8 + u) (r.map encB) = W2 at *
      have hlen2 := hB2.len
      have hfr2 := hB2.free 72
      have hB3 := hB2.setN (N + n)
      have hU3 := hU2.setCell 72 (.int .i64 ((N + n : Nat) : Int))
      rw [Int.natCast_add] at hB3 hU3
      have HR : Hid (r = t.data.toList.take n) := hr
      have HL : Hid (r.length = n) := hrl
      have HB3 : Hid (HB (W2.setCell ⟨g, 72, none⟩ (.int .i64 ((N : Int) + (n : Int)))) g (stOf q) (layT tl u r) (N + n) ∧ Upd g w (W2.setCell ⟨g, 72, none⟩ (.int .i64 ((N : Int) + (n : Int))))) := ⟨hB3, hU3⟩
      have HB0 : Hid (tl.length = 64) := hB.2
      clear hn' hth hr hrl hB2 hU2 hB3 hU3 hB hU
      by_cases hfull : u + n = 64
      · have j1 : ((u : Int) + (n : Int) == 64) = true := by rw [beq_iff_eq]; omega
        obtain ⟨hq3, hU3⟩ := HB3.out
        have hg3 : g < (W2.setCell ⟨g, 72, none⟩ (.int .i64 ((N : Int) + (n : Int)))).heap.size := lt_of_block hq3.1
        have h03 : 0 < (W2.setCell ⟨g, 72, none⟩ (.int .i64 ((N : Int) + (n : Int)))).heap.size := by omega
        have hT3 : Tab (W2.setCell ⟨g, 72, none⟩ (.int .i64 ((N : Int) + (n : Int)))) := hU3.tab HTab.out hg h0
        have hTl : (layT tl u r).length = 64 := hq3.2
        have r0 := range_state hq3.1
        have r8 := range_tail hq3.1
        have t0 : (W2.setCell ⟨g, 72, none⟩ (.int .i64 ((N : Int) + (n : Int)))).there g 0 8 := there_all hq3.2 hq3.1 0 8 (by omega)
        have hcall : ∀ W, Same (W2.setCell ⟨g, 72, none⟩ (.int .i64 ((N : Int) + (n : Int)))) W → Calls Tryd.prog 33 #[.agg (encS (stOf q)), .agg ((layT tl u r).map encB).toArray] W fun e w' => e = .returned (.agg (encS (takeB (stOf q) (layT tl u r)))) ∧ Below (W2.setCell ⟨g, 72, none⟩ (.int .i64 ((N : Int) + (n : Int)))).heap.size (W2.setCell ⟨g, 72, none⟩ (.int .i64 ((N : Int) + (n : Int)))) w' := fun W hS =>
          (HT.out (stOf q) _ hTl W (fun t ht => (hS.cell _).trans (hT3 t ht)) (by rw [hS.1]; exact h03)).mono fun e w' ⟨h1, h2⟩ => ⟨h1, (hS.below (Below.refl _ _)).trans (by rw [← hS.1]; exact h2)⟩
        have a0 : OkV (W2.setCell ⟨g, 72, none⟩ (.int .i64 ((N : Int) + (n : Int)))) 8 (.pointer (some ⟨g, 0, none⟩)) := OkV_range r0
        have a1 : rdV (W2.setCell ⟨g, 72, none⟩ (.int .i64 ((N : Int) + (n : Int)))) 8 (.pointer (some ⟨g, 0, none⟩)) = encS (stOf q) := rdV_range r0
        have a2 : OkV (W2.setCell ⟨g, 72, none⟩ (.int .i64 ((N : Int) + (n : Int)))) 64 (.pointer (some ⟨g, 8, none⟩)) := by
          have := OkV_range r8; rwa [List.length_map, hTl] at this
        have a3 : rdV (W2.setCell ⟨g, 72, none⟩ (.int .i64 ((N : Int) + (n : Int)))) 64 (.pointer (some ⟨g, 8, none⟩)) = ((layT tl u r).map encB).toArray := by
          have := rdV_range r8; rwa [List.length_map, hTl] at this
        have a4 : ∀ W1 c, c.size = 8 → c.all (·.oneCell') = true → Below (W2.setCell ⟨g, 72, none⟩ (.int .i64 ((N : Int) + (n : Int)))).heap.size (W2.setCell ⟨g, 72, none⟩ (.int .i64 ((N : Int) + (n : Int)))) W1 → ThV W1 8 c (.pointer (some ⟨g, 0, none⟩)) :=
          fun W1 c h1 h2 hb => ⟨there_below hb hg3 t0, h1, h2⟩
        have A4 : Hid (∀ W1 c, c.size = 8 → c.all (·.oneCell') = true → Below (W2.setCell ⟨g, 72, none⟩ (.int .i64 ((N : Int) + (n : Int)))).heap.size (W2.setCell ⟨g, 72, none⟩ (.int .i64 ((N : Int) + (n : Int)))) W1 → ThV W1 8 c (.pointer (some ⟨g, 0, none⟩))) := a4
        have hC : Hid (∀ W, Same (W2.setCell ⟨g, 72, none⟩ (.int .i64 ((N : Int) + (n : Int)))) W → Calls Tryd.prog 33 #[.agg (encS (stOf q)), .agg ((layT tl u r).map encB).toArray] W fun e w' => e = .returned (.agg (encS (takeB (stOf q) (layT tl u r)))) ∧ Below (W2.setCell ⟨g, 72, none⟩ (.int .i64 ((N : Int) + (n : Int)))).heap.size (W2.setCell ⟨g, 72, none⟩ (.int .i64 ((N : Int) + (n : Int)))) w') := hcall
        have o43 : (encS (takeB (stOf q) (layT tl u r))).all (·.oneCell') = true := by simp [encS, Value.oneCell']
        have hfin : Hid (∀ W1, Below (W2.setCell ⟨g, 72, none⟩ (.int .i64 ((N : Int) + (n : Int)))).heap.size (W2.setCell ⟨g, 72, none⟩ (.int .i64 ((N : Int) + (n : Int)))) W1 →
            HashIs (W1.setCells g 0 (encS (takeB (stOf q) (layT tl u r))).toList) g (q ++ r) ∧ Upd g w (W1.setCells g 0 (encS (takeB (stOf q) (layT tl u r))).toList)) := fun W1 hb => by
          obtain ⟨b1, b2, b3⟩ := HU.out
          have hx := (hq3.other (hb.block _ hg3)).setS (takeB (stOf q) (layT tl u r))
          refine ⟨hash_full b3 HB0.out (by rw [← b2, HL.out]; exact hfull) ?_, Upd.setCells _ _ _ (hU3.trans (Upd.of_below hb))⟩
          rw [← b2, HL.out, ← b1]; exact hx
        clear hfull hT3 h03 hq3 hU3 a4 hcall r0 r8 t0 hg3
        go_wp2
        go_region_with (go_at_call 33; refine (hC.out _ ?_).mono ?_; exact ⟨rfl, rfl, rfl, rfl⟩; rintro e w1 ⟨rfl, hb1⟩; have th1 := A4.out w1 _ rfl o43 hb1)
        all_goals
          obtain ⟨p', e1, e2⟩ := hjoin.out n r HR.out
          have hz := hfin.out _ (by assumption)
          rw [e1] at hz
          go_wp2
          refine ⟨⟨t.extract n t.size, p', rfl, by rw [drop_text]; exact e2, hz.1, hz.2⟩, ?_⟩
          simp [strSize]; omega
      · have j1 : ((u : Int) + (n : Int) == 64) = false := by rw [beq_eq_false_iff_ne]; omega
        go_wp2
        obtain ⟨p', e1, e2⟩ := hjoin.out n r HR.out
        obtain ⟨a1, a2, a3⟩ := HU.out
        have hH3 : HashIs (W2.setCell ⟨g, 72, none⟩ (.int .i64 ((N : Int) + (n : Int)))) g (q ++ r) := hash_more a3 (by rw [← a2, HL.out]; omega) (by
          rw [← a2, HL.out, ← a1]; exact HB3.out.1)
        rw [e1] at hH3
        refine ⟨⟨t.extract n t.size, p', rfl, by rw [drop_text]; exact e2, hH3, HB3.out.2⟩, ?_⟩
        simp [strSize]; omega
    · have hfin : Hid (HashIs wr g (l ++ s.data.toList) ∧ Upd g w wr) := by
        have ht : t.data.toList = [] := List.eq_nil_of_length_eq_zero (by rw [Array.length_toList]; show t.size = 0; omega)
        have := hpt.out
        rw [ht, List.append_nil] at this
        rw [← this]; exact ⟨hH, hU⟩
      have i0 : ¬ (0 : Int) < (t.size : Int) := by omega
      clear hH hU hpt
      go_wp2
      go_end0
      exact ⟨rfl, hfin.out⟩
end Go.Proofs.YtaefnkaenhmekaaDoor
