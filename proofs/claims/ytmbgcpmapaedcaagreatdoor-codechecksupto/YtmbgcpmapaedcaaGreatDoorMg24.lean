/- code: the reader's next. | code: the reader's count and lines. | A drawn region whose last operation, L, waits for all others: S must hold behind each operation but L. So a cell that is read and, last of all, written may be among what S says. -/
import Derived.Test.YtmbgcpmapaedcaaGreatDoorMg23
import Derived.Deep.RegionHeld3
namespace Go.Proofs.YtmbgcpmapaedcaaGreatDoor
open Go.RowKit
open Wi (It itA ItsAt)
/-- the reader, what it has left -/
def Rd (B : Nat) (w : World) (R : Nat) (l : List It) : Prop := R < B ∧ B ≤ w.heap.size ∧
  ∃ (a : Option Addr) (b off cap : Nat), w.heap[R]? = some (.cells #[.slice a l.length cap] 96 (0, 0)) ∧ l.length ≤ cap ∧ b ≠ R ∧ (0 < l.length → b < B ∧ a = some ⟨b, off, none⟩) ∧ ItsAt w b off l
theorem Rd.lt {B : Nat} {w : World} {R : Nat} {l : List It} (h : Rd B w R l) : R < w.heap.size := Nat.lt_of_lt_of_le h.1 h.2.1
theorem its_below {w w' : World} {b off : Nat} {l : List It} (h : ItsAt w b off l) (hb : 0 < l.length → w'.heap[b]? = w.heap[b]?) : ItsAt w' b off l := fun i x hx => by
  have e : ∀ k, w'.cell? ⟨b, k, none⟩ = w.cell? ⟨b, k, none⟩ := fun k => World.cell?_of_block (w := w) (a := ⟨b, k, none⟩) (hb (by have := (List.getElem?_eq_some_iff.1 hx).1; omega))
  obtain ⟨h1, h2, h3⟩ := h i x hx
  exact ⟨(e _).trans h1, (e _).trans h2, (e _).trans h3⟩
theorem Rd.on {B : Nat} {w w' : World} {R : Nat} {l : List It} (h : Rd B w R l) (hb : Below B w w') : Rd B w' R l := by
  obtain ⟨h1, h2, a, b, off, cap, h0, hc, hne, hA, hI⟩ := h
  exact ⟨h1, Nat.le_trans h2 hb.size, a, b, off, cap, (hb.block R h1).trans h0, hc, hne, hA, its_below hI fun h => hb.block b (hA h).1⟩
/-- a world in which nothing that was there is another but the block R -/
abbrev But (R : Nat) (w w' : World) : Prop := w.grownBy w' (some R)
theorem But.trans {R : Nat} {w w1 w2 : World} (h : But R w w1) (k : But R w1 w2) : But R w w2 :=
  ⟨k.os.trans h.os, k.tape.trans h.tape, k.output.trans h.output, Nat.le_trans h.size k.size, fun i hi hne => (k.block i (Nat.lt_of_lt_of_le hi h.size) hne).trans (h.block i hi hne)⟩
theorem But.of_below {R : Nat} {w w' : World} (h : Below w.heap.size w w') : But R w w' := ⟨h.os, h.tape, h.output, h.size, fun k hk _ => h.block k hk⟩
theorem But.alloc {R : Nat} {w w' : World} (h : But R w w') (o : Obj) : But R w (w'.alloc o) := h.trans (But.of_below ((Below.refl _ _).alloc (Nat.le_refl _) _))
theorem But.set {R : Nat} {w w' : World} (h : But R w w') (k : Nat) (v : Value) : But R w (w'.setCell ⟨R, k, none⟩ v) :=
  h.trans ⟨rfl, rfl, rfl, by simp, fun i hi hne => heap_setCell_other _ ⟨R, k, none⟩ i v (fun e => hne (by rw [e]))⟩
theorem But.new {R : Nat} {w w' : World} (h : But R w w') {g : Nat} (hg : w.heap.size ≤ g) (k : Nat) (v : Value) : But R w (w'.setCell ⟨g, k, none⟩ v) :=
  ⟨h.os, h.tape, h.output, by simpa using h.size, fun i hi hne => (heap_setCell_other _ ⟨g, k, none⟩ i v (by show i ≠ g; omega)).trans (h.block i hi hne)⟩
theorem rd_set {w : World} {R b off cap' : Nat} {v : Value} {a : Option Addr} {l : List It} (B : Nat) (A1 A2 : Obj) (hR : R < B) (hB : B ≤ w.heap.size) (h0 : w.heap[R]? = some (.cells #[v] 96 (0, 0))) (hc : l.length ≤ cap') (hne : b ≠ R) (hA : 0 < l.length → b < B ∧ a = some ⟨b, off, none⟩) (hI : ItsAt w b off l) :
    Rd B (((w.setCell ⟨R, 0, none⟩ (.slice a l.length cap')).alloc A1).alloc A2) R l ∧ But R w (((w.setCell ⟨R, 0, none⟩ (.slice a l.length cap')).alloc A1).alloc A2) := by
  have hlt : R < w.heap.size := (Array.getElem?_eq_some_iff.1 h0).1
  refine ⟨⟨hR, by simp; omega, a, b, off, cap', ?_, hc, hne, hA, its_below hI fun h => ?_⟩, ((But.of_below (Below.refl _ _)).set _ _).alloc _ |>.alloc _⟩
  · rw [heap_alloc_old _ _ (by simp; omega), heap_alloc_old _ _ (by simpa using hlt), Lib.heap_setCell_same h0]
    rfl
  · have hb : b < w.heap.size := Nat.lt_of_lt_of_le (hA h).1 hB
    rw [heap_alloc_old _ _ (by simp; omega), heap_alloc_old _ _ (by simpa using hb)]
    exact heap_setCell_other _ ⟨R, 0, none⟩ b _ hne
def it0 : It := ⟨false, 0, ⟨#[]⟩⟩
set_option maxRecDepth 100000 in
set_option maxHeartbeats 1600000 in
theorem next_any (B R : Nat) (l : List It) (w : World) (hr : Rd B w R l) (hl : l.length ≤ 1000) :
    Calls Tryz.prog 62 #[.pointer (some ⟨R, 0, none⟩)] w fun e w' => e = .returned (itA (l.headD it0)) ∧ Rd B w' R l.tail ∧ But R w w' := by
  have hlt := hr.lt
  obtain ⟨hR, hB, a, b, off, cap, h0, hc, hne, hA, hI⟩ := hr
  have c0 : ∀ A, (w.alloc A).cell? ⟨R, 0, none⟩ = some (.slice a l.length cap) := fun A => (World.cell?_alloc_lt _ _ ⟨R, 0, none⟩ hlt).trans ((Lib.cell_of_heap (j := 0) h0).trans rfl)
  cases l with
  | nil =>
    have HF : Hid (∀ A, Rd B (w.alloc A) R [] ∧ But R w (w.alloc A)) := fun A => ⟨⟨hR, by simp; omega, a, b, off, cap, (heap_alloc_old _ _ hlt).trans h0, hc, hne, fun h => absurd h (Nat.lt_irrefl 0), fun i x hx => by cases hx⟩, (But.of_below (Below.refl _ _)).alloc _⟩
    have c0' : ∀ A, (w.alloc A).cell? ⟨R, 0, none⟩ = some (.slice a 0 cap) := c0
    clear c0 h0 hc hA hI hl
    go_enter Tryz.func62, Tryz.ntmps62
    go_wp2
    refine bodyPost_ret (v := .agg #[.bool false, .int .i64 0, .string ⟨#[]⟩]) ?_ rfl ⟨rfl, HF.out _⟩
    simp [results, Tryz.results62, go_sem]
  | cons x r =>
    obtain ⟨hb0, rfl⟩ := hA (by simp)
    have hb : b < w.heap.size := by omega
    obtain ⟨n, hn⟩ : ∃ n, n = r.length := ⟨_, rfl⟩
    rw [List.length_cons, ← hn] at hc hl h0
    simp only [List.length_cons, ← hn] at c0
    obtain ⟨h1, h2, h3⟩ := hI 0 x rfl
    rw [Nat.zero_mul, Nat.add_zero] at h1 h2 h3
    have k1 : ∀ A, (w.alloc A).cell? ⟨b, off, none⟩ = some (.bool x.t) := fun A => (World.cell?_alloc_lt _ _ ⟨b, _, none⟩ hb).trans h1
    have k2 : ∀ A, (w.alloc A).cell? ⟨b, off + 1, none⟩ = some (.int .i64 x.n) := fun A => (World.cell?_alloc_lt _ _ ⟨b, _, none⟩ hb).trans h2
    have k3 : ∀ A, (w.alloc A).cell? ⟨b, off + 2, none⟩ = some (.string x.s) := fun A => (World.cell?_alloc_lt _ _ ⟨b, _, none⟩ hb).trans h3
    have c2 : ∀ A B, ((w.alloc A).alloc B).cell? ⟨R, 0, none⟩ = some (.slice (some ⟨b, off, none⟩) (n + 1) cap) := fun A B => (World.cell?_alloc_lt _ _ ⟨R, 0, none⟩ (by simp; omega)).trans (c0 A)
    have f2 : ∀ A B, ((w.alloc A).alloc B).frozen? ⟨R, 0, none⟩ = false := fun A B => Lib.frozen_of_heap ((heap_alloc_old _ _ (by simp; omega)).trans ((heap_alloc_old _ _ hlt).trans h0)) 0
    have HT : Hid (ItsAt w b (off + 3) r) := fun i y hy => by
      obtain ⟨g1, g2, g3⟩ := hI (i + 1) y hy
      rw [show off + (i + 1) * 3 = off + 3 + i * 3 by omega] at g1 g2 g3
      exact ⟨g1, g2, g3⟩
    have H0 := hide h0
    clear hI h1 h2 h3 h0 hA
    go_enter Tryz.func62, Tryz.ntmps62
    go_wp2
    all_goals refine bodyPost_ret (v := .agg #[.bool x.t, .int .i64 x.n, .string x.s]) (by simp [results, Tryz.results62, go_sem]) rfl ⟨rfl, ?_⟩
    · have h9 : r = [] := List.eq_nil_of_length_eq_zero (by omega)
      refine rd_set (b := b) (off := off) B _ _ hR hB H0.out (by omega) hne (fun h => by rw [h9] at h; cases h) (fun i y hy => by rw [h9] at hy; cases hy)
    · exact rd_set (b := b) (off := off + 3) B _ _ hR hB H0.out (by omega) hne (fun _ => ⟨hb0, rfl⟩) HT.out
end Go.Proofs.YtmbgcpmapaedcaaGreatDoor
namespace Go.Proofs.YtmbgcpmapaedcaaGreatDoor
open Go.RowKit
open Wi (It itA ItsAt)
theorem fld_n (t : Bool) (n : Int) (s : ByteArray) (W : World) : (Instr.field 61 (.agg #[.bool t, .int .i64 n, .string s]) 1).run Tryz.prog W = .ok (.int .i64 n) W := by kernel_rfl
theorem fld_s (t : Bool) (n : Int) (s : ByteArray) (W : World) : (Instr.field 61 (.agg #[.bool t, .int .i64 n, .string s]) 2).run Tryz.prog W = .ok (.string s) W := by kernel_rfl
theorem ret_n {a b : Int} (h : a = b) : Ending.returned (.int .i64 a) = .returned (.int .i64 b) := by rw [h]
/-- how many: what the number says, if so many items are left -/
def cntP (l : List It) : Nat := min (max (l.headD it0).n 0).toNat l.tail.length
theorem cntP_le (l : List It) : cntP l ≤ l.tail.length := Nat.min_le_right _ _
/-- numbers out of a list's front -/
def takN : Nat → List It → List Int × List It
  | 0, l => ([], l)
  | n + 1, l => ((l.headD it0).n :: (takN n l.tail).1, (takN n l.tail).2)
def linP (l : List It) : List Int × List It := takN (cntP l) l.tail
theorem takN_length : ∀ (n : Nat) (l : List It), (takN n l).1.length = n
  | 0, _ => rfl
  | n + 1, l => by rw [takN, List.length_cons, takN_length n]
theorem takN_rest : ∀ (n : Nat) (l : List It), (takN n l).2 = l.drop n
  | 0, _ => rfl
  | n + 1, l => by rw [takN, takN_rest n]; cases l <;> simp
theorem takN_next : ∀ (n : Nat) (l : List It), takN (n + 1) l = ((takN n l).1 ++ [((takN n l).2.headD it0).n], (takN n l).2.tail)
  | 0, l => rfl
  | n + 1, l => by
    rw [takN, takN_next n l.tail, takN]; rfl
set_option maxRecDepth 100000 in
set_option maxHeartbeats 1600000 in
theorem count13_any (B R : Nat) (l : List It) (w : World) (hr : Rd B w R l) (hl : l.length ≤ 1000) :
    Calls Tryz.prog 63 #[.pointer (some ⟨R, 0, none⟩)] w fun e w' => e = .returned (.int .i64 (cntP l : Int)) ∧ Rd B w' R l.tail ∧ But R w w' := by
  have c1 := hide (next_any B R l w hr hl)
  have HF : Hid (∀ x : It, x = l.headD it0 → (if (if x.n ≤ 0 then (0 : Int) else x.n) ≤ (l.tail.length : Int) then (if x.n ≤ 0 then (0 : Int) else x.n) else (l.tail.length : Int)) = (cntP l : Int)) := fun x hx => by
    unfold cntP
    rw [← hx]
    split <;> split <;> omega
  have ht : l.tail.length ≤ 1000 := by rw [List.length_tail]; omega
  obtain ⟨x, hx⟩ : ∃ x, x = l.headD it0 := ⟨_, rfl⟩
  have HE := hide (HF.out x hx)
  rw [← hx] at c1
  obtain ⟨t, b, s⟩ := x
  clear hx HF hr
  go_enter Tryz.func63, Tryz.ntmps63
  go_wp2_with fail
  refine c1.out.mono ?_
  rintro e w1 ⟨rfl, hr1, hb1⟩
  have HR := hide hr1
  have HB := hide hb1
  obtain ⟨-, -, a, bb, off, cap, h0, -⟩ := hr1
  have k0 : w1.cell? ⟨R, 0, none⟩ = some (.slice a l.tail.length cap) := (Lib.cell_of_heap (j := 0) h0).trans rfl
  have y1 := fld_n t b s
  unfold itA
  clear hb1 h0
  generalize l.tail.length = m at *
  go_wp2
  all_goals go_ret
  all_goals refine ⟨ret_n ?_, HR.out, HB.out⟩
  all_goals rw [← HE.out]
  all_goals first | omega | (split <;> first | omega | (split <;> omega))
set_option maxRecDepth 100000 in
set_option maxHeartbeats 1600000 in
theorem lines13_any (B R : Nat) (l : List It) (w : World) (hr : Rd B w R l) (hl : l.length ≤ 1000) :
    Calls Tryz.prog 64 #[.pointer (some ⟨R, 0, none⟩)] w fun e w' => ∃ v, e = .returned v ∧ w'.ownsRow w.heap.size 3 1 v (linP l).1.length (intC (linP l).1) ∧ Rd B w' R (linP l).2 ∧ But R w w' := by
  obtain ⟨i0, hi, hz0, hz1, hz2⟩ := info_parts info3
  have c1 := hide (count13_any B R l w hr hl)
  have ht : l.tail.length ≤ 1000 := by rw [List.length_tail]; omega
  obtain ⟨M, hM⟩ : ∃ M, M = cntP l := ⟨_, rfl⟩
  have hM2 : M ≤ 1000 := by have := cntP_le l; omega
  have HP : Hid (linP l = takN M l.tail) := by show _ = _; rw [hM]; rfl
  rw [← hM] at c1
  rw [HP.out, takN_length]
  have hRw : R < w.heap.size := hr.lt
  have hBw : B ≤ w.heap.size := hr.2.1
  generalize l.tail = q at *
  have c2 : Hid (∀ k W, Rd B W R (takN k q).2 → Calls Tryz.prog 62 #[.pointer (some ⟨R, 0, none⟩)] W fun e w' => e = .returned (itA ((takN k q).2.headD it0)) ∧ Rd B w' R (takN k q).2.tail ∧ But R W w') := fun k W h => next_any B R _ W h (by rw [takN_rest, List.length_drop]; omega)
  clear hr hM HP
  go_enter Tryz.func64, Tryz.ntmps64
  go_wp2_with fail
  refine c1.out.mono ?_
  rintro e w1 ⟨rfl, hr1, hb1⟩
  have HR1 := hide hr1
  have HB1 := hide hb1
  have z1 := hb1.size
  clear hr1 hb1
  go_wp2_with fail
  go_loopw [3, 6] (fun b i wr => ∃ (k : Nat) (b' : Value), k ≤ M ∧ i = .int .i64 (k : Int) ∧ b' = b ∧ Hid (wr.ownsRow w.heap.size 3 1 b' k (intC (takN k q).1) ∧ Rd B wr R (takN k q).2 ∧ But R w wr)) (fun _ i _ => M - (intOf i).toNat)
  case atStart => exact ⟨0, _, by omega, rfl, rfl, World.ownsRow_nil _ _ _ _, HR1.out, HB1.out⟩
  case round =>
    obtain ⟨k, b, hk, rfl, rfl, hh⟩ := hrel
    have OO := hide hh.out.1
    have RR := hide hh.out.2.1
    have BB := hide hh.out.2.2
    have zr := BB.out.size
    have k0 : (0 : Int) ≤ (k : Int) := by omega
    clear hh HR1 HB1
    by_cases hlt : k < M
    · have j1 : (k : Int) < (M : Int) := by omega
      have C2 := hide (c2.out k wr RR.out)
      have HN : Hid (takN (k + 1) q = ((takN k q).1 ++ [((takN k q).2.headD it0).n], (takN k q).2.tail)) := takN_next k q
      generalize ((takN k q).2.headD it0) = x at *
      obtain ⟨xt, xn, xs⟩ := x
      have y1 := fld_n xt xn xs
      have hob : ∀ r, b.ownBlock = some r → w.heap.size ≤ r := fun r hr => (OO.out.lt r hr).1
      have hbR : Hid (b.ownBlock ≠ some R) := fun e => by have := hob R e; omega
      go_wp2_with fail
      refine C2.out.mono ?_
      rintro e w2 ⟨rfl, hr2, hb2⟩
      have O2 : Hid (w2.ownsRow w.heap.size 3 1 b k (intC (takN k q).1)) := OO.out.kept (row := some R) hb2 (.inr hbR.out)
      have R2 := hide hr2
      have B2 := hide (But.trans BB.out hb2)
      have z2 := hb2.size
      unfold itA
      clear hr2 hb2
      go_wp2_with (at_builtin; go_must (refine wpList_append_lies _ (by rfl) _ _ _ (by rfl) w.heap.size 3 i0 _ 1 8 Tryz.underlying22 hi hz0 hz1 hz2 rfl (by omega) b k _ (by rfl) (O2.out.alloc _) ⟨w2.heap.size, 0, none⟩ 1 1 [.int .i64 xn] (by rfl) (by rfl) (World.news_of_block (cs := #[.int .i64 xn]) (t := 3) (fr := (0, 0)) (heap_alloc_new w2 _)) (by simp [Value.oneCell']) (by omega) (by unfold maxLen; omega) (by omega) (by simp; omega) (w2.heap.size + 1) (by simp) ?_; intro gg cap' w3 hown3 hgrow hat hlt3; have B3 := hide (((Below.refl B w2).alloc (by omega) _).grown hgrow (by simp; omega) (fun r hr => Nat.le_trans hBw (hob r hr))); have B4 := hide (((Below.refl w.heap.size w2).alloc (by omega) _).grown hgrow (by simp; omega) hob)))
      go_roundw
      case rel =>
        refine ⟨k + 1, _, by omega, by go_num, rfl, ?_, ?_, ?_⟩
        · rw [HN.out]; show w3.ownsRow _ _ _ _ _ (intC (_ ++ _)); rw [intC_append]; exact hown3
        · rw [HN.out]; exact R2.out.on B3.out
        · exact ⟨B4.out.os.trans B2.out.os, B4.out.tape.trans B2.out.tape, B4.out.output.trans B2.out.output, Nat.le_trans B2.out.size B4.out.size, fun i hi hne => (B4.out.block i hi).trans (B2.out.block i hi hne)⟩
      case measure => simp [intOf]; omega
    · obtain rfl : k = M := by omega
      go_wp2
      go_ret
      exact ⟨_, rfl, OO.out, RR.out, BB.out⟩
end Go.Proofs.YtmbgcpmapaedcaaGreatDoor
namespace Go.Proofs.YtmbgcpmapaedcaaGreatDoor
section
variable {P : Program} {ops : Array Oper} {Q : Exit → Act → World → Prop} {md : Region.Mode} {S : World → Prop} {L : Nat}
def wpL (P : Program) (md : Region.Mode) (ops : Array Oper) (Q : Exit → Act → World → Prop) (S : World → Prop) (L : Nat) : Nat → Array Bool → Act → World → Prop
  | 0, listed, a, w => Region.ready md ops listed = [] ∧ Q .normal a w
  | fuel + 1, listed, a, w => (Region.ready md ops listed = [] → Q .normal a w) ∧
    ∀ i ∈ Region.ready md ops listed, wpOp P ops Q i (fun a' w' => (i ≠ L → S w') ∧ wpL P md ops Q S L fuel (listed.setIfInBounds i true) a' w') a w
theorem wpAny_of_L : ∀ (fuel : Nat) (listed : Array Bool) (a : Act) (w : World), wpL P md ops Q S L fuel listed a w → wpAny P md ops Q fuel listed a w
  | 0, _, _, _, h => h
  | fuel + 1, _, _, _, h => ⟨h.1, fun i hi => wpOp_mono (fun a' w' h' => wpAny_of_L fuel _ a' w' h'.2) (h.2 i hi)⟩
def waitsB (md : Region.Mode) (ops : Array Oper) (L i : Nat) : Bool := ((ops[L]?).map fun o => o.after.any fun e => Region.binds md e && e.on == i).getD false
theorem not_ready {L i : Nat} {listed : Array Bool} (hw : waitsB md ops L i = true) (hi : listed.getD i true = false) : L ∉ Region.ready md ops listed := fun h => by
  obtain ⟨-, o, ho, hall⟩ := mem_ready.1 h
  unfold waitsB at hw
  rw [ho] at hw
  simp only [Option.map_some, Option.getD_some, Array.any_eq_true'] at hw
  obtain ⟨e, he, hb⟩ := hw
  rw [Bool.and_eq_true] at hb
  have h1 := hall e he hb.1
  have h2 : e.on = i := by simpa using hb.2
  rw [h2] at h1
  rcases Nat.lt_or_ge i listed.size with h' | h'
  · simp [h'] at hi h1; rw [hi] at h1; cases h1
  · simp [Array.getElem?_eq_none h'] at h1
theorem wpL_first {i : Nat} {oi : Oper} {v : Value} (hi : ops[i]? = some oi) (hsel : ∀ (j : Nat) (o : Oper) cs b, ops[j]? = some o → o.op ≠ .select cs b)
    (hQ : ∀ c a w, Q (.panic c) (a.put oi.dst v) w → Q (.panic c) a w) (hL : waitsB md ops L i = true) :
    ∀ (fuel : Nat) (listed : Array Bool) (a : Act) (w : World),
      (∀ j oj, ops[j]? = some oj → j ≠ i → listed.getD j true = false → (∀ e ∈ oj.after, Region.binds md e = true → e.on ≠ i) → oi.apart ops oj = true) →
      i ∈ Region.ready md ops listed → YieldsIf P ops S oi v a → S w →
      wpL P md ops Q S L fuel (listed.setIfInBounds i true) (a.put oi.dst v) w → wpL P md ops Q S L (fuel + 1) listed a w := by
  intro fuel
  induction fuel with
  | zero =>
    intro listed a w _ hr hy hS H
    refine ⟨fun h => (by rw [h] at hr; cases hr), fun j hj => ?_⟩
    by_cases hji : j = i
    · subst hji; exact hy.wpOp hi hS ⟨fun _ => hS, H⟩
    · have := ready_mono hj hji
      rw [H.1] at this
      cases this
  | succ fuel ih =>
    intro listed a w hfree hr hy hS H
    refine ⟨fun h => (by rw [h] at hr; cases hr), fun j hj => ?_⟩
    have hiun := (mem_ready.1 hr).1
    by_cases hji : j = i
    · subst hji; exact hy.wpOp hi hS ⟨fun _ => hS, H⟩
    · have hjL : j ≠ L := fun e => not_ready hL hiun (e ▸ hj)
      have h1 := H.2 j (ready_mono hj hji)
      obtain ⟨hjun, oj, hoj, hall⟩ := mem_ready.1 hj
      have hnot : ∀ e ∈ oj.after, Region.binds md e = true → e.on ≠ i := fun e he hb heq => by
        have h1 := hall e he hb
        rw [heq] at h1
        rcases Nat.lt_or_ge i listed.size with h' | h'
        · simp [h'] at hiun h1; rw [hiun] at h1; cases h1
        · simp [Array.getElem?_eq_none h'] at h1
      have h2 := wpOp_putIf hoj (hfree j oj hoj hji hjun hnot) (fun cs b => hsel i oi cs b hi) (fun cs b => hsel j oj cs b hoj) hQ hy h1
      have hfree' : ∀ k ok, ops[k]? = some ok → k ≠ i → (listed.setIfInBounds j true).getD k true = false →
          (∀ e ∈ ok.after, Region.binds md e = true → e.on ≠ i) → oi.apart ops ok = true := fun k ok hk hki hun hno => by
        refine hfree k ok hk hki ?_ hno
        by_cases hjk : j = k
        · subst hjk; exact hjun
        · rw [getD_set_ne true hjk] at hun; exact hun
      refine wpOp_mono (fun a' w' h3 => ⟨fun h => h3.2.1 h, ih (listed.setIfInBounds j true) a' w' hfree' (ready_mono hr (Ne.symm hji)) h3.1 (h3.2.1 hjL) ?_⟩) h2
      rw [Array.setIfInBounds_comm _ _ hji]
      exact h3.2.2
/-- take operation i first -/
theorem tkL (i : Nat) {d : Option Tmp} {o : Op} {t : TypeId} {p : String} {f : Array Edge} {fuel : Nat} {listed : Array Bool} {a : Act} {w : World} (v : Value) (hS : S w)
    (h : wpL P md ops Q S L fuel (listed.setIfInBounds i true) (a.put d v) w) (hi : ops[i]? = some ⟨d, o, t, p, f, none⟩ := by rfl) (hs : Region.noSelect ops = true := by kernel_rfl) (hf : Region.free md ops listed i = true := by kernel_rfl)
    (hr : (Region.ready md ops listed).contains i = true := by kernel_rfl) (hL : waitsB md ops L i = true := by kernel_rfl) (hQ : ∀ c a w, Q (.panic c) (a.put d v) w → Q (.panic c) a w := by exact fun _ _ _ h => h) (hy : YieldsIf P ops S ⟨d, o, t, p, f, none⟩ v a := by exact Or.inl ⟨by rfl, fun W hW => by ((try dsimp only at hW); go_simp)⟩) :
    wpL P md ops Q S L (fuel + 1) listed a w :=
  wpL_first (oi := ⟨d, o, t, p, f, none⟩) hi (Region.noSelect_spec hs) hQ hL fuel listed a w (Region.free_spec hi hf) (by simpa using hr) hy hS h
/-- operation i is the one that may come up -/
theorem rdL (i : Nat) {d : Option Tmp} {o : Op} {t : TypeId} {p : String} {f : Array Edge} {fuel : Nat} {listed : Array Bool} {a : Act} {w : World}
    (h : ∀ K' : Act → World → Prop, Shut (∀ a w, (i ≠ L → S w) → wpL P md ops Q S L fuel (listed.setIfInBounds i true) a w → K' a w) → Oper.wp P ⟨d, o, t, p, f, none⟩ a w K' Q)
    (hi : ops[i]? = some ⟨d, o, t, p, f, none⟩ := by rfl) (hr : Region.ready md ops listed = [i] := by kernel_rfl) : wpL P md ops Q S L (fuel + 1) listed a w :=
  ⟨fun h0 => (by rw [hr] at h0; cases h0), fun j hj => by
    rw [hr] at hj
    obtain rfl : j = i := by simpa using hj
    refine wpOp_step hi (fun K' hK => ?_)
    rw [if_pos (by rfl)]
    exact h K' (fun a w hS hW => hK a w ⟨hS, hW⟩)⟩
theorem doneL {listed : Array Bool} {a : Act} {w : World} (h : Q .normal a w) (hr : Region.ready md ops listed = [] := by kernel_rfl) : wpL P md ops Q S L 0 listed a w := ⟨hr, h⟩
theorem region_L {id : Nat} {a : Act} {w : World} (hm : P.follows .mixedOrders = true) (h : wpL P .any ops Q S L ops.size (Array.replicate ops.size false) a w.drew) : (Code.region id ops true).wp P Q a w :=
  wp_region_any hm (wpAny_of_L _ _ _ _ h)
end
end Go.Proofs.YtmbgcpmapaedcaaGreatDoor
