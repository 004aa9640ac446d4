/- The contracts of the reader's refuse and open; stores into the reader's own memory. | What the reader's recursion leans on; the contract of within, over that of the rows' closure. -/
import Derived.Test.YtkicbmjjbnblfaaGreatDoorPlA
import Derived.Deep.RegionLaw
import Derived.Deep.AppendLies
import Derived.Deep.DeepAppendWide
import Derived.Test.YtkicbmjjbnblfaaGreatDoorRdB
namespace Go.Proofs.YtkicbmjjbnblfaaGreatDoor
open Go.RowKit
theorem put_at {w : World} {R : Nat} {t p : Value} {a o fa fc : Value} (h : w.heap[R]? = some (.cells #[t, a, o, p, fa, fc] 110)) (v : Value) : (w.setCell ⟨R, 1, none⟩ v).heap[R]? = some (.cells #[t, v, o, p, fa, fc] 110) := by
  simp [World.setCell, Array.getElem?_modify, h]
theorem put_op {w : World} {R : Nat} {t p : Value} {a o fa fc : Value} (h : w.heap[R]? = some (.cells #[t, a, o, p, fa, fc] 110)) (v : Value) : (w.setCell ⟨R, 2, none⟩ v).heap[R]? = some (.cells #[t, a, v, p, fa, fc] 110) := by
  simp [World.setCell, Array.getElem?_modify, h]
theorem put_ps {w : World} {R : Nat} {t p : Value} {a o fa fc : Value} (h : w.heap[R]? = some (.cells #[t, a, o, p, fa, fc] 110)) (v : Value) : (w.setCell ⟨R, 3, none⟩ v).heap[R]? = some (.cells #[t, a, o, v, fa, fc] 110) := by
  simp [World.setCell, Array.getElem?_modify, h]
theorem put_fa {w : World} {R : Nat} {t p : Value} {a o fa fc : Value} (h : w.heap[R]? = some (.cells #[t, a, o, p, fa, fc] 110)) (v : Value) : (w.setCell ⟨R, 4, none⟩ v).heap[R]? = some (.cells #[t, a, o, p, v, fc] 110) := by
  simp [World.setCell, Array.getElem?_modify, h]
theorem put_fc {w : World} {R : Nat} {t p : Value} {a o fa fc : Value} (h : w.heap[R]? = some (.cells #[t, a, o, p, fa, fc] 110)) (v : Value) : (w.setCell ⟨R, 5, none⟩ v).heap[R]? = some (.cells #[t, a, o, p, fa, v] 110) := by
  simp [World.setCell, Array.getElem?_modify, h]
theorem alloc2_at (w : World) (A B : Obj) : ((w.alloc A).alloc B).drew.heap[w.heap.size + 1]? = some B := by
  show ((w.alloc A).alloc B).heap[w.heap.size + 1]? = some B
  have := heap_alloc_new (w.alloc A) B
  simpa using this
theorem add_row {w w1 : World} {A C o : Obj} {R : Nat} {row : Option Nat} (h : w.heap[R]? = some o) (hg : ((w.alloc A).alloc C).drew.grownBy w1 row) (hne : row ≠ some R) : w1.heap[R]? = some o := by
  have hlt := lt_of_heap h
  have hx : ((w.alloc A).alloc C).drew.heap[R]? = some o := by
    show ((w.alloc A).alloc C).heap[R]? = some o
    rw [Lib.alloc_old (w.alloc A) C R (by rw [World.size_alloc]; omega), Lib.alloc_old w A R hlt]; exact h
  rw [hg.block R (lt_of_heap hx) (fun e => hne e.symm)]
  exact hx
theorem own_row {w : World} {base n : Nat} {v : Value} {xs : List Value} (h : w.ownsRow base 39 5 v n xs) : ∀ k, v.ownBlock = some k → ∃ c fz, w.heap[k]? = some (.cells c 39 fz) := fun k hk => by
  rcases h.2 with ⟨rfl, _⟩ | ⟨g, cap, cur, rfl, _, hg, _⟩
  · cases hk
  · simp [Value.ownBlock] at hk
    subst hk
    exact ⟨_, _, hg⟩
theorem add_keep {w w1 : World} {A C : Obj} {B R : Nat} {row : Option Nat} (hB : B ≤ w.heap.size) (hg : ((w.alloc A).alloc C).drew.grownBy w1 row) (hr : ∀ k, row = some k → B ≤ k) (hrow : ∀ k, row = some k → ∃ c fz, w.heap[k]? = some (.cells c 39 fz)) : Keep B R w w1 := by
  have b0 := (Below.refl w.heap.size w).alloc (Nat.le_refl _) A
  have b1 : Below B w ((w.alloc A).alloc C).drew := ((b0.alloc b0.size C).drew).mono hB
  have b2 := b1.grown hg (by show B ≤ ((w.alloc A).alloc C).heap.size; rw [World.size_alloc, World.size_alloc]; omega) hr
  refine ⟨b2.os, b2.tape, b2.output, b2.size, fun k hk _ => b2.block k hk, fun k o ho _ hn => ?_⟩
  have hne : row ≠ some k := fun e => by
    obtain ⟨c, fz, h⟩ := hrow k e
    exact hn c fz (Option.some.inj (ho.symm.trans h))
  exact add_row ho hg hne
/-- the reader's state behind whatever has turned its own block alone -/
theorem RS.turn {B R : Nat} {tv : Value} {toks : List Tv} {at_ op at2 op2 : Nat} {ps ps2 : List Pv} {fa fc fa2 fc2 : Int} {w w' : World} (h : RS B R tv toks at_ op ps fa fc w) (hk : Keep B R w w') (hh : at2 ≤ toks.length)
    (hrow : ∃ pv, w'.heap[R]? = some (.cells #[tv, .int .i64 (at2 : Int), .int .i64 (op2 : Int), pv, .int .i64 fa2, .int .i64 fc2] 110) ∧ w'.ownsRow B 39 5 pv ps2.length (pvsC ps2)) : RS B R tv toks at2 op2 ps2 fa2 fc2 w' := by
  obtain ⟨a, b, off, cap, htv, hA, hT⟩ := h.toks
  refine ⟨h.hB, Nat.le_trans h.le hk.size, hh, hrow, ⟨a, b, off, cap, htv, hA, fun i x hx => ?_⟩⟩
  obtain ⟨hbB, hbR, _⟩ := hA (by have := (List.getElem?_eq_some_iff.1 hx).1; omega)
  have hc : ∀ j, w'.cell? ⟨b, j, none⟩ = w.cell? ⟨b, j, none⟩ := fun j => World.cell?_of_block (hk.block b hbB hbR)
  obtain ⟨q0, q1, q2, q3, q4⟩ := hT i x hx
  exact ⟨(hc _).trans q0, (hc _).trans q1, (hc _).trans q2, (hc _).trans q3, (hc _).trans q4⟩
set_option maxRecDepth 100000 in
set_option maxHeartbeats 1600000 in
theorem refuse_any {B R : Nat} {tv : Value} {toks : List Tv} {at_ op : Nat} {ps : List Pv} {fa fc : Int} {w : World} (h : RS B R tv toks at_ op ps fa fc w) : Calls Tryz.prog 119 #[.pointer (some ⟨R, 0, none⟩)] w fun e w' => e = .returned (.bool false) ∧ RS B R tv toks at_ op ps (at_ : Int) 60 w' ∧ Keep B R w w' := by
  have HH := hide h
  obtain ⟨pv, hrow, hown⟩ := h.row
  have d1 : w.cell? ⟨R, 1, none⟩ = some (.int .i64 (at_ : Int)) := by rw [Lib.cell_of_heap hrow]; rfl
  have d4 : w.cell? ⟨R, 4, none⟩ = some (.int .i64 fa) := by rw [Lib.cell_of_heap hrow]; rfl
  have d5 : w.cell? ⟨R, 5, none⟩ = some (.int .i64 fc) := by rw [Lib.cell_of_heap hrow]; rfl
  have e4 : ∀ j, w.frozen? ⟨R, j, none⟩ = false := fun j => Lib.frozen_of_heap hrow j
  have HK : Hid (Keep B R w ((w.setCell ⟨R, 4, none⟩ (.int .i64 (at_ : Int))).setCell ⟨R, 5, none⟩ (.int .i64 60))) := ((Keep.refl B R w).setCell (p := ⟨R, 4, none⟩) rfl _).setCell (p := ⟨R, 5, none⟩) rfl _
  have HR : Hid (RS B R tv toks at_ op ps (at_ : Int) 60 ((w.setCell ⟨R, 4, none⟩ (.int .i64 (at_ : Int))).setCell ⟨R, 5, none⟩ (.int .i64 60))) :=
    h.turn HK.out h.here ⟨pv, put_fc (put_fa hrow _) _, ownsRow_setCell_below (ownsRow_setCell_below hown (a := ⟨R, 4, none⟩) h.hB _) (a := ⟨R, 5, none⟩) h.hB _⟩
  clear h hrow hown
  go_enter Tryz.func119, Tryz.ntmps119
  go_wp2
  go_ret
  exact ⟨rfl, HR.out, HK.out⟩
set_option maxRecDepth 100000 in
set_option maxHeartbeats 1600000 in
theorem open_full {B R : Nat} {tv : Value} {toks : List Tv} {at_ op : Nat} {ps : List Pv} {fa fc : Int} {w : World} (h : RS B R tv toks at_ op ps fa fc w) (h2 : op = 200) : Calls Tryz.prog 102 #[.pointer (some ⟨R, 0, none⟩)] w fun e w' => e = .returned (.bool false) ∧ RS B R tv toks at_ op ps (at_ : Int) 2 w' ∧ Keep B R w w' := by
  obtain ⟨pv, hrow, hown⟩ := h.row
  have d1 : w.cell? ⟨R, 1, none⟩ = some (.int .i64 (at_ : Int)) := by rw [Lib.cell_of_heap hrow]; rfl
  have d2 : w.cell? ⟨R, 2, none⟩ = some (.int .i64 (op : Int)) := by rw [Lib.cell_of_heap hrow]; rfl
  have d4 : w.cell? ⟨R, 4, none⟩ = some (.int .i64 fa) := by rw [Lib.cell_of_heap hrow]; rfl
  have d5 : w.cell? ⟨R, 5, none⟩ = some (.int .i64 fc) := by rw [Lib.cell_of_heap hrow]; rfl
  have e4 : ∀ j, w.frozen? ⟨R, j, none⟩ = false := fun j => Lib.frozen_of_heap hrow j
  have HK : Hid (Keep B R w ((w.setCell ⟨R, 4, none⟩ (.int .i64 (at_ : Int))).setCell ⟨R, 5, none⟩ (.int .i64 2))) := ((Keep.refl B R w).setCell (p := ⟨R, 4, none⟩) rfl _).setCell (p := ⟨R, 5, none⟩) rfl _
  have HR : Hid (RS B R tv toks at_ op ps (at_ : Int) 2 ((w.setCell ⟨R, 4, none⟩ (.int .i64 (at_ : Int))).setCell ⟨R, 5, none⟩ (.int .i64 2))) :=
    h.turn HK.out h.here ⟨pv, put_fc (put_fa hrow _) _, ownsRow_setCell_below (ownsRow_setCell_below hown (a := ⟨R, 4, none⟩) h.hB _) (a := ⟨R, 5, none⟩) h.hB _⟩
  have i1 : ((op : Int) == 200) = true := by rw [beq_iff_eq]; omega
  clear h hrow hown h2
  go_enter Tryz.func102, Tryz.ntmps102
  go_wp2
  go_ret
  exact ⟨rfl, HR.out, HK.out⟩
set_option maxRecDepth 100000 in
set_option maxHeartbeats 1600000 in
theorem open_more {B R : Nat} {tv : Value} {toks : List Tv} {at_ op : Nat} {ps : List Pv} {fa fc : Int} {w : World} (h : RS B R tv toks at_ op ps fa fc w) (hl : toks.length ≤ 4398046510976) (h2 : op < 200) (hlt : at_ < toks.length) : Calls Tryz.prog 102 #[.pointer (some ⟨R, 0, none⟩)] w fun e w' => e = .returned (.bool true) ∧ RS B R tv toks (at_ + 1) (op + 1) ps fa fc w' ∧ Keep B R w w' := by
  obtain ⟨pv, hrow, hown⟩ := h.row
  have d1 : w.cell? ⟨R, 1, none⟩ = some (.int .i64 (at_ : Int)) := by rw [Lib.cell_of_heap hrow]; rfl
  have d2 : w.cell? ⟨R, 2, none⟩ = some (.int .i64 (op : Int)) := by rw [Lib.cell_of_heap hrow]; rfl
  have d4 : w.cell? ⟨R, 4, none⟩ = some (.int .i64 fa) := by rw [Lib.cell_of_heap hrow]; rfl
  have d5 : w.cell? ⟨R, 5, none⟩ = some (.int .i64 fc) := by rw [Lib.cell_of_heap hrow]; rfl
  have e4 : ∀ j, w.frozen? ⟨R, j, none⟩ = false := fun j => Lib.frozen_of_heap hrow j
  have HK : Hid (Keep B R w ((w.setCell ⟨R, 2, none⟩ (.int .i64 ((op : Int) + 1))).setCell ⟨R, 1, none⟩ (.int .i64 ((at_ : Int) + 1)))) := ((Keep.refl B R w).setCell (p := ⟨R, 2, none⟩) rfl _).setCell (p := ⟨R, 1, none⟩) rfl _
  have HR : Hid (RS B R tv toks (at_ + 1) (op + 1) ps fa fc ((w.setCell ⟨R, 2, none⟩ (.int .i64 ((op : Int) + 1))).setCell ⟨R, 1, none⟩ (.int .i64 ((at_ : Int) + 1)))) :=
    h.turn HK.out hlt ⟨pv, put_at (put_op hrow _) _, ownsRow_setCell_below (ownsRow_setCell_below hown (a := ⟨R, 2, none⟩) h.hB _) (a := ⟨R, 1, none⟩) h.hB _⟩
  have i1 : ((op : Int) == 200) = false := by rw [beq_eq_false_iff_ne]; omega
  have i2 : (op : Int) ≤ 200 := by omega
  have i3 : (at_ : Int) ≤ 4398046510976 := by omega
  have i4 : (0 : Int) ≤ (op : Int) := by omega
  have i5 : (0 : Int) ≤ (at_ : Int) := by omega
  clear h hrow hown h2 hl hlt
  go_enter Tryz.func102, Tryz.ntmps102
  go_wp2
  go_ret
  exact ⟨rfl, HR.out, HK.out⟩
theorem step_append_wide (w : World) {ops : Array Oper} {o : Oper} {a : Act} {K : Act → World → Prop} {Q : Exit → Act → World → Prop} {E : Prop} (hgd : o.guard = none) (s x : Operand) (t : TypeId)
    (ho : o.op = .call { callee := .builtin .append, args := #[s, x], argTypes := #[t, t] })
    (base : Nat) (e : TypeId) (i : TypeInfo) (z : Value) (size bytes : Nat) (ht : Tryz.prog.underlying t = some (.slice e)) (hi : Tryz.prog.info? e = some i) (hz : i.zero = some z)
    (hsize : i.size = size) (hby : i.bytes = bytes) (hzs : z.cells.size = size) (hsz : 0 < size)
    (v : Value) (n : Nat) (xs : List Value) (hs : a.eval s = v) (hown : w.ownsRow base e size v n xs)
    (ad : Addr) (m c : Nat) (news : List Value) (hx : a.eval x = .slice (some ad) m c) (hl : news.length = m * size) (hnews : ∀ j u, news[j]? = some u → w.cell? (ad.add j) = some u) (h1 : ∀ u ∈ news, u.oneCell' = true)
    (hm : 0 < m) (h63 : n + m ≤ maxLen) (hbytes : ((n + m) + (n + m) / 4 + 192) * bytes ≤ 281474976710656) (hbase : base ≤ w.heap.size)
    (h : ∀ g cap w', w'.ownsRow base e size (.slice (some ⟨g, 0, none⟩) (n + m) cap) (n + m) (xs ++ news) → w.grownBy w' v.ownBlock → K (a.put o.dst (.slice (some ⟨g, 0, none⟩) (n + m) cap)) w') :
    if Region.wanted o (yielded ops a.tmps) = true then Oper.wp Tryz.prog o a w K Q else E := by
  have hw : Region.wanted o (yielded ops a.tmps) = true := by simp [Region.wanted, hgd]
  rw [if_pos hw]
  obtain ⟨v', w', hr, h2, h3, _⟩ := run_append_own_wide (P := Tryz.prog) w base t o.type e i z size bytes ht hi hz hsize hby hzs hsz v n xs hown ad m c news hl hnews h1 h63 hbytes hbase
  unfold Oper.wp execOp
  simp only [ho, resolve, invoke, builtin, Sem.run_bind, Sem.run_pure, Result.andThen_ok, List.map_toArray, List.map_cons, List.map_nil, hs, hx, hr]
  rcases h2.2 with ⟨_, h0⟩ | ⟨g, cap, cur, rfl, _⟩
  · omega
  · exact h g cap w' h2 h3
theorem in44 : (Tryz.prog.info? 39).map (fun i => (i.zero, i.size, i.bytes)) = some (some (.agg #[.int .i64 0, .int .i64 0, .int .i64 0, .string ⟨#[]⟩, .string ⟨#[]⟩]), 5, 56) := by kernel_rfl
set_option maxRecDepth 100000 in
set_option maxHeartbeats 3200000 in
theorem add_any {B R : Nat} {tv : Value} {toks : List Tv} {at_ op : Nat} {ps : List Pv} {fa fc : Int} {w : World} (h : RS B R tv toks at_ op ps fa fc w) (hl : ps.length ≤ 3000000000000) (p : Pv) : Calls Tryz.prog 90 #[.pointer (some ⟨R, 0, none⟩), .agg #[.int .i64 p.k, .int .i64 p.n, .int .i64 p.t, .string p.s, .string p.f]] w fun e w' => e = .returned (.bool true) ∧ RS B R tv toks at_ op (ps ++ [p]) fa fc w' ∧ Keep B R w w' := by
  have HH := hide h
  obtain ⟨pv, hrow, hown⟩ := h.row
  obtain ⟨i0, hi, hz0, hz1, hz2⟩ := info_parts in44
  have hR := lt_of_heap hrow
  have hRB := h.hB
  have hBw := h.le
  have a3 : ∀ o, (w.alloc o).cell? ⟨R, 3, none⟩ = some pv := fun o => (World.cell?_alloc_lt _ _ _ hR).trans (by rw [Lib.cell_of_heap hrow]; rfl)
  have a3' : ∀ o o', ((w.alloc o).alloc o').cell? ⟨R, 3, none⟩ = some pv := fun o o' => (World.cell?_alloc_lt _ _ _ (by rw [World.size_alloc]; show R < _; omega)).trans (a3 o)
  have HROW := hide hrow
  have HOWN := hide hown
  have hne : pv.ownBlock ≠ some R := fun e => by have := (hown.lt R e).1; omega
  have HNE := hide hne
  obtain ⟨pk, pn, pt, pS, pF⟩ := p
  simp only []
  clear h hrow hown hne
  go_enter Tryz.func90, Tryz.ntmps90
  go_wp2
  go_region_law ((refine step_append_wide _ (by rfl) _ _ _ (by rfl) B 39 i0 _ 5 56 Tryz.underlying22 hi hz0 hz1 hz2 rfl (by omega) pv ps.length _ (by rfl) (by exact (HOWN.out.alloc _).alloc _) ⟨w.heap.size + 1, 0, none⟩ 1 1 [.int .i64 pk, .int .i64 pn, .int .i64 pt, .string pS, .string pF] (by rfl) (by rfl) (World.news_of_block (cs := #[.int .i64 pk, .int .i64 pn, .int .i64 pt, .string pS, .string pF]) (t := 39) (fr := (0, 0)) (by exact alloc2_at w _ _)) (by simp [Value.oneCell']) (by omega) (by unfold maxLen; omega) (by omega) (by simp; omega) ?_; intro gg cap' w1 hown1 hgrow; have e1 := add_row HROW.out hgrow HNE.out; have q3 := (Lib.cell_of_heap e1 3); have q3f := Lib.frozen_of_heap e1 3; simp only [List.getElem?_toArray, List.getElem?_cons_succ, List.getElem?_cons_zero] at q3; have HK := hide (add_keep (R := R) hBw hgrow (fun r hr => (HOWN.out.lt r hr).1) (own_row HOWN.out)); have HE1 := hide e1; have HO1 := hide hown1; clear hgrow e1 hown1))
  all_goals
    go_wp2
    go_ret
    have K2 := HK.out.setCell (p := ⟨R, 3, none⟩) rfl (.slice (some ⟨gg, 0, none⟩) (ps.length + 1) cap')
    refine ⟨rfl, HH.out.turn K2 HH.out.here ⟨_, put_ps HE1.out _, ?_⟩, K2⟩
    have ho := HO1.out
    rw [List.length_append, pvsC_append]
    exact ownsRow_setCell_below ho (a := ⟨R, 3, none⟩) hRB _
end Go.Proofs.YtkicbmjjbnblfaaGreatDoor
namespace Go.Proofs.YtkicbmjjbnblfaaGreatDoor
open Go.RowKit
def fvOf (P1 P2 : Nat) : Value := .func (.func 87) #[] #[.pointer (some ⟨P1, 0, none⟩), .pointer (some ⟨P2, 0, none⟩)]
/-- the tables, and the closure's two variables -/
structure Env (B R P1 P2 : Nat) (w : World) : Prop where
  glo : Glo w
  c1 : w.cell? ⟨P1, 0, none⟩ = some (.pointer (some ⟨R, 0, none⟩))
  c2 : w.cell? ⟨P2, 0, none⟩ = some (fvOf P1 P2)
  l1 : P1 < B
  l2 : P2 < B
  n1 : P1 ≠ R
  n2 : P2 ≠ R
  r8 : 8 < R
  rB : R < B
theorem TabAt.keep {B R b : Nat} {w w' : World} {t : List Value} (h : TabAt w b t) (hk : Keep B R w w') (hb : b < B) (hr : b ≠ R) : TabAt w' b t := fun k v e => (World.cell?_of_block (w := w) (w' := w') (hk.block b hb hr)).trans (h k v e)
theorem Env.keep {B R P1 P2 : Nat} {w w' : World} (h : Env B R P1 P2 w) (hk : Keep B R w w') : Env B R P1 P2 w' := by
  have r8 := h.r8
  have rB := h.rB
  refine ⟨⟨h.glo.conv.keep hk (by omega) (by omega), h.glo.ops.keep hk (by omega) (by omega), h.glo.kw.keep hk (by omega) (by omega), h.glo.base.keep hk (by omega) (by omega), h.glo.sign.keep hk (by omega) (by omega), h.glo.span.keep hk (by omega) (by omega), h.glo.ty.keep hk (by omega) (by omega), h.glo.most.imp fun _ e => (World.cell?_of_block (w := w) (w' := w') (hk.block 7 (by omega) (by omega))).trans e, h.glo.unit.keep hk (by omega) (by omega)⟩, ?_, ?_, h.l1, h.l2, h.n1, h.n2, h.r8, h.rB⟩
  · exact (World.cell?_of_block (w := w) (w' := w') (hk.block P1 h.l1 h.n1)).trans h.c1
  · exact (World.cell?_of_block (w := w) (w' := w') (hk.block P2 h.l2 h.n2)).trans h.c2
theorem Env.below {B R P1 P2 : Nat} {w w' : World} (h : Env B R P1 P2 w) (hb : Below w.heap.size w w') (hB : B ≤ w.heap.size) : Env B R P1 P2 w' := h.keep (Keep.of_below hb hB)
/-- the tokens from a place on -/
def lst (toks : List Tv) (i : Nat) : List Tk := (toks.drop i).map tkV
theorem lst_len (toks : List Tv) (i : Nat) : (lst toks i).length = toks.length - i := by rw [lst, List.length_map, List.length_drop]
theorem lst_cons {toks : List Tv} {i : Nat} (h : i < toks.length) : lst toks i = tkV (tokAt toks i) :: lst toks (i + 1) := by
  unfold lst tokAt
  rw [List.drop_eq_getElem_cons h, List.map_cons, List.getD_eq_getElem?_getD, List.getElem?_eq_getElem h]; rfl
theorem lst_nil {toks : List Tv} {i : Nat} (h : toks.length ≤ i) : lst toks i = [] := by
  unfold lst
  rw [List.drop_of_length_le h]; rfl
theorem tok_none {toks : List Tv} {i : Nat} (h : toks.length ≤ i) : tokAt toks i = noTv := by
  unfold tokAt
  rw [List.getD_eq_getElem?_getD, List.getElem?_eq_none h]; rfl
theorem sign_is (s : Bs) (x : Tv) : isSign s (tkV x) = decide (x.k = 3 ∧ x.s = ⟨s.toArray⟩) := by
  show (decide (x.k = 3) && (x.s.data.toList == s)) = _
  rw [Bool.eq_iff_iff]
  simp only [Bool.and_eq_true, decide_eq_true_eq, beq_iff_eq]
  constructor
  · rintro ⟨a, b⟩; exact ⟨a, by rw [← b, text_back]⟩
  · rintro ⟨a, b⟩; exact ⟨a, by rw [b]⟩
theorem lst_drop (toks : List Tv) (i j : Nat) : (lst toks i).drop j = lst toks (i + j) := by
  unfold lst
  rw [← List.map_drop, List.drop_drop]
/-- what is left is what stands from its place on -/
theorem rest_lst {f : Nat} {m : Md} {d i : Nat} {toks : List Tv} {x : List Pt} {r : List Tk} (h : rd f m d (lst toks i) = some (.ok (x, r))) (hi : i ≤ toks.length) : r = lst toks (toks.length - r.length) ∧ r.length ≤ toks.length - i := by
  obtain ⟨p, hp, _⟩ := (rd_reads h).swap
  have hl := congrArg List.length hp
  rw [lst_len, List.length_append] at hl
  have e : r = (lst toks i).drop p.length := by rw [hp, List.drop_left]
  refine ⟨?_, by omega⟩
  have e2 : toks.length - r.length = i + p.length := by omega
  rw [e2, ← lst_drop]
  exact e
/-- what the reader has answered, and left -/
def PostR (B R : Nat) (tv : Value) (toks : List Tv) (op : Nat) (ps : List Pv) (fa fc : Int) (res : Res) (w : World) (e : Ending) (w' : World) : Prop :=
  Keep B R w w' ∧ match res with
  | .ok (x, r) => e = .returned (.bool true) ∧ ∃ xs : List Pv, xs.map ptV = x ∧ RS B R tv toks (toks.length - r.length) op (ps ++ xs) fa fc w'
  | .error (k, c) => e = .returned (.bool false) ∧ ∃ at2 op2 ps2, RS B R tv toks at2 op2 ps2 ((toks.length - k : Nat) : Int) c w'
/-- the closure does what the plain reader does, as long as that has turns -/
def RowOk (B R P1 P2 : Nat) (tv : Value) (toks : List Tv) (f : Nat) : Prop := ∀ (n at_ op : Nat) (ps : List Pv) (fa fc : Int) (w : World) (res : Res), n ≤ 7 → op ≤ 200 → ps.length ≤ at_ → RS B R tv toks at_ op ps fa fc w → Env B R P1 P2 w → rd f (.row n) op (lst toks at_) = some res →
  Calls Tryz.prog 87 #[.int .i64 (n : Int), .pointer (some ⟨P1, 0, none⟩), .pointer (some ⟨P2, 0, none⟩)] w (PostR B R tv toks op ps fa fc res w)
end Go.Proofs.YtkicbmjjbnblfaaGreatDoor
