/- code: appendHigherFirst. | code: codeText, appendCount, appendLines. -/
import Derived.Test.YtmbgcpmapaedcaaDoorWiEncW
import Derived.Test.YtmbgcpmapaedcaaDoorMg3
namespace Go.Proofs.YtmbgcpmapaedcaaDoor
open Go.RowKit
open Wi (App encB)
/-- a byte of a number, and its lowest bytes, the higher ones first -/
def byI (n : Int) (j : Nat) : UInt8 := UInt8.ofNat (n / 2 ^ (8 * j) % 256).toNat
def hiB (n : Int) : Nat → List UInt8
  | 0 => []
  | j + 1 => byI n j :: hiB n j
theorem hiB_length (n : Int) : ∀ j, (hiB n j).length = j
  | 0 => rfl
  | j + 1 => by rw [hiB, List.length_cons, hiB_length n j]
theorem byI_enc (n : Int) (j : Nat) : encB (byI n j) = .int .u8 (n / 2 ^ (8 * j) % 256) := by
  unfold encB byI
  rw [Wi.byte_of]
  have h0 : 0 ≤ n / 2 ^ (8 * j) % 256 := Int.emod_nonneg _ (by decide)
  have h1 : n / 2 ^ (8 * j) % 256 < 256 := Int.emod_lt_of_pos _ (by decide)
  generalize n / 2 ^ (8 * j) % 256 = z at *
  congr 1
  omega
set_option maxRecDepth 100000 in
set_option maxHeartbeats 1600000 in
theorem higher_any (base : Nat) (v : Value) (m : Nat) (n : Int) (M : Nat) (hM : M ≤ 6) (xs : List Value) (w : World) (hown : w.ownsRow base 5 1 v m xs) (hbase : base ≤ w.heap.size) (hm : m ≤ 1000000000) :
    Calls Tryd.prog 70 #[v, .int .i64 n, .int .i64 (M : Int)] w fun e w' => ∃ v', e = .returned v' ∧ App base w v w' v' (m + M) (xs ++ (hiB n M).map encB) := by
  obtain ⟨i0, hi, hz0, hz1, hz2⟩ := info_parts Wi.in5
  have HO := hide hown
  clear hown
  go_enter Tryd.func70, Tryd.ntmps70
  go_wp2_with fail
  go_loopw [0, 7] (fun b i wr => ∃ (j : Nat) (b' : Value) (acc : List UInt8), j ≤ M ∧ i = .int .i64 ((j : Int) - 1) ∧ b' = b ∧ Hid (acc ++ hiB n j = hiB n M) ∧ App base w v wr b' (m + acc.length) (xs ++ acc.map encB)) (fun _ i _ => (intOf i + 1).toNat)
  case atStart => exact ⟨M, _, [], by omega, by go_num, rfl, rfl, ⟨by simpa using HO.out, ⟨rfl, rfl, rfl, Nat.le_refl _, fun _ _ _ => rfl⟩, .inl rfl⟩⟩
  case round =>
    obtain ⟨j, b, acc, hj, rfl, rfl, hacc, happ⟩ := hrel
    have hl : acc.length ≤ 6 := by
      have h := congrArg List.length hacc.out
      rw [List.length_append, hiB_length, hiB_length] at h
      omega
    have HA := hide happ
    have zr := happ.grow.size
    clear happ
    cases j with
    | zero =>
      have HE : Hid (acc = hiB n M) := by
        have h := hacc.out
        rw [show hiB n 0 = [] from rfl, List.append_nil] at h
        exact h
      have HL : Hid (acc.length = M) := by show _ = _; rw [HE.out, hiB_length]
      clear hacc
      go_wp2
      go_ret
      exact ⟨_, rfl, by rw [← HE.out, ← HL.out]; exact HA.out⟩
    | succ j =>
      have e1 : ((j + 1 : Nat) : Int) - 1 = (j : Int) := by omega
      rw [e1]
      have j0 : (0 : Int) ≤ (j : Int) := by omega
      have j6 : (j : Int) ≤ 5 := by omega
      have hbo : ∀ r, b.ownBlock = some r → base ≤ r := fun r hr => (HA.out.own.lt r hr).1
      have hw8 : IntKind.i64.wrap (8 * (j : Int)) = 8 * (j : Int) := by rw [IntKind.wrap_i64]; omega
      have ht8 : (8 * (j : Int)).toNat = 8 * j := by omega
      have HN : Hid (encB (byI n j) = .int .u8 (n / 2 ^ (8 * j) % 256)) := byI_enc n j
      go_wp2_with (at_builtin; go_must (refine wpList_append_lies _ (by rfl) _ _ _ (by rfl) base 5 i0 _ 1 1 Tryd.underlying61 hi hz0 hz1 hz2 rfl (by omega) b (m + acc.length) _ (by rfl) (HA.out.own.alloc _) ⟨wr.heap.size, 0, none⟩ 1 1 [.int .u8 (n / 2 ^ (8 * j) % 256)] (by rfl) (by rfl) (World.news_of_block (cs := #[.int .u8 (n / 2 ^ (8 * j) % 256)]) (t := 5) (fr := (0, 0)) (heap_alloc_new wr _)) (by simp [Value.oneCell']) (by omega) (by unfold maxLen; omega) (by omega) (by simp; omega) (wr.heap.size + 1) (by simp) ?_; intro gg cap' w3 hown3 hgrow hat3 hlt3))
      go_roundw
      case rel =>
        refine ⟨j, _, acc ++ [byI n j], by omega, by go_num, rfl, ?_, ?_⟩
        · show _ = _
          have h := hacc.out
          rw [hiB] at h
          rw [List.append_assoc]; exact h
        · have h := App.of_lies (w := wr) ((Below.refl _ _).alloc (Nat.le_refl _) _) hown3 hgrow (by simpa using hat3)
          have h2 := HA.out.trans h
          rw [List.append_assoc, ← HN.out] at h2
          rw [List.length_append, List.map_append]
          exact h2
      case measure => simp only [intOf]; omega
/-- the bytes of an instruction, and of code -/
def insB (i : Ins) : List UInt8 := UInt8.ofNat (i.op % 256).toNat :: (hiB i.a 2 ++ (hiB i.b 2 ++ hiB i.n 6))
def cdB (l : List Ins) : List UInt8 := l.flatMap insB
theorem insB_length (i : Ins) : (insB i).length = 11 := by
  unfold insB
  rw [List.length_cons, List.length_append, List.length_append, hiB_length, hiB_length, hiB_length]
theorem cdB_length (l : List Ins) : (cdB l).length = 11 * l.length := by
  unfold cdB
  induction l with
  | nil => rfl
  | cons i l ih => rw [List.flatMap_cons, List.length_append, ih, insB_length, List.length_cons]; omega
theorem cdB_take {l : List Ins} {k : Nat} {i : Ins} (h : l[k]? = some i) : cdB (l.take (k + 1)) = cdB (l.take k) ++ insB i := by
  unfold cdB
  rw [List.take_add_one, h, List.flatMap_append]
  simp
theorem opB_enc (n : Int) : encB (UInt8.ofNat (n % 256).toNat) = .int .u8 (n % 256) := by
  have h := byI_enc n 0
  unfold byI at h
  simpa using h
theorem bw2' (w : World) (A B : Obj) : Below w.heap.size w ((w.alloc A).alloc B) := ((Below.refl _ _).alloc (Nat.le_refl _) _).alloc (by simp) _
theorem box_far {w w1 : World} {cs : Array Value} {t : TypeId} {B : Obj} {r : Option Nat} (hg : ((w.alloc (.cells cs t)).alloc B).grownBy w1 r) (hne : some w.heap.size ≠ r) (j : Nat) : w1.cell? ⟨w.heap.size, j, none⟩ = cs[j]? := by
  rw [hg.cell_far ⟨w.heap.size, j, none⟩ (by simp; omega) hne]
  have h : ((w.alloc (.cells cs t)).alloc B).heap[w.heap.size]? = some (.cells cs t (0, 0)) := by rw [heap_alloc_old _ _ (by simp), heap_alloc_new]
  exact Lib.cell_of_heap h j
theorem app_ne {base : Nat} {w w' : World} {v v' : Value} {n : Nat} {xs : List Value} (h : App base w v w' v' n xs) {b : Nat} (hb : b < w.heap.size) (hne : some b ≠ v.ownBlock) : some b ≠ v'.ownBlock := by
  rcases h.lies with e | ⟨g, e, hg⟩
  · rw [e]; exact hne
  · rw [e]; intro he; injection he with he; omega
set_option maxRecDepth 100000 in
set_option maxHeartbeats 1600000 in
theorem instr_any (base : Nat) (v : Value) (m : Nat) (i : Ins) (xs : List Value) (w : World) (hown : w.ownsRow base 5 1 v m xs) (hbase : base ≤ w.heap.size) (hm : m ≤ 900000000) :
    Calls Tryd.prog 58 #[v, .agg #[.int .i64 i.op, .int .i64 i.a, .int .i64 i.b, .int .i64 i.n]] w fun e w' => ∃ v', e = .returned v' ∧ App base w v w' v' (m + 11) (xs ++ (insB i).map encB) := by
  obtain ⟨i0, hi, hz0, hz1, hz2⟩ := info_parts Wi.in5
  have HI : Hid ((insB i).map encB = [.int .u8 (i.op % 256)] ++ ((hiB i.a 2).map encB ++ ((hiB i.b 2).map encB ++ (hiB i.n 6).map encB))) := by
    show _ = _
    unfold insB
    rw [List.map_cons, opB_enc, List.map_append, List.map_append]; rfl
  have HO := hide hown
  obtain ⟨o, a, b, n⟩ := i
  have m1 : Hid (∀ (W : World) (u : Value) (ys : List Value), W.ownsRow base 5 1 u (m + 1) ys → base ≤ W.heap.size → Calls Tryd.prog 70 #[u, .int .i64 a, .int .i64 2] W fun e w' => ∃ v', e = .returned v' ∧ App base W u w' v' (m + 1 + 2) (ys ++ (hiB a 2).map encB)) := fun W u ys h hb => higher_any base u (m + 1) a 2 (by omega) ys W h hb (by omega)
  have m2 : Hid (∀ (W : World) (u : Value) (ys : List Value), W.ownsRow base 5 1 u (m + 1 + 2) ys → base ≤ W.heap.size → Calls Tryd.prog 70 #[u, .int .i64 b, .int .i64 2] W fun e w' => ∃ v', e = .returned v' ∧ App base W u w' v' (m + 1 + 2 + 2) (ys ++ (hiB b 2).map encB)) := fun W u ys h hb => higher_any base u (m + 1 + 2) b 2 (by omega) ys W h hb (by omega)
  have m3 : Hid (∀ (W : World) (u : Value) (ys : List Value), W.ownsRow base 5 1 u (m + 1 + 2 + 2) ys → base ≤ W.heap.size → Calls Tryd.prog 70 #[u, .int .i64 n, .int .i64 6] W fun e w' => ∃ v', e = .returned v' ∧ App base W u w' v' (m + 1 + 2 + 2 + 6) (ys ++ (hiB n 6).map encB)) := fun W u ys h hb => higher_any base u (m + 1 + 2 + 2) n 6 (by omega) ys W h hb (by omega)
  have hbo : Hid (∀ r, v.ownBlock = some r → base ≤ r ∧ r < w.heap.size) := fun r hr => hown.lt r hr
  have hob : ∀ r, v.ownBlock = some r → base ≤ r := fun r hr => (hbo.out r hr).1
  have hne : some w.heap.size ≠ v.ownBlock := fun e => by have := (hbo.out _ e.symm).2; omega
  clear hown
  go_enter Tryd.func58, Tryd.ntmps58
  go_wp2_with (at_builtin; go_must (refine wpList_append_lies _ (by rfl) _ _ _ (by rfl) base 5 i0 _ 1 1 Tryd.underlying61 hi hz0 hz1 hz2 rfl (by omega) v m xs (by rfl) ((HO.out.alloc _).alloc _) ⟨w.heap.size + 1, 0, none⟩ 1 1 [.int .u8 (o % 256)] (by rfl) (by rfl) (World.news_of_block (cs := #[.int .u8 (o % 256)]) (t := 5) (fr := (0, 0)) (Wi.alloc2_at w _ _)) (by simp [Value.oneCell']) (by omega) (by unfold maxLen; omega) (by omega) (by simp; omega) (w.heap.size + 2) (by simp) ?_; intro gg cap' w1 hown1 hgrow hat hlt3; have q1 := hide (box_far hgrow hne 1); have q2 := hide (box_far hgrow hne 2); have q3 := hide (box_far hgrow hne 3); have p1 : w1.cell? ⟨w.heap.size, 1, none⟩ = some (.int .i64 a) := q1.out; have A1 := hide (App.of_lies (w := w) (bw2' w _ _) hown1 hgrow (by simpa using hat)); have N1 : Hid (some w.heap.size ≠ (Value.slice (some ⟨gg, 0, none⟩) (m + 1) cap').ownBlock) := (by intro he; have he' : w.heap.size = gg := Option.some.inj he; rcases hat with e | e; exact hne (e.symm ▸ he' ▸ rfl); omega); have L1 : w.heap.size < w1.heap.size := (by have := hgrow.size; simp at this; omega); clear hown1 hgrow hat hlt3))
  refine (m1.out _ _ _ A1.out.own (by omega)).mono ?_
  rintro e w2 ⟨v2, rfl, happ2⟩
  have p2 : w2.cell? ⟨w.heap.size, 2, none⟩ = some (.int .i64 b) := (happ2.cell (a := ⟨w.heap.size, 2, none⟩) L1 N1.out).trans q2.out
  have p3 : Hid (w2.cell? ⟨w.heap.size, 3, none⟩ = some (.int .i64 n)) := (happ2.cell (a := ⟨w.heap.size, 3, none⟩) L1 N1.out).trans q3.out
  have N2 := hide (app_ne happ2 L1 N1.out)
  have L2 : w.heap.size < w2.heap.size := by have := happ2.grow.size; omega
  have A2 := hide (A1.out.trans happ2)
  clear happ2 A1 p1 q1 q2 q3
  go_wp2_with fail
  refine (m2.out _ _ _ A2.out.own (by omega)).mono ?_
  rintro e w3 ⟨v3, rfl, happ3⟩
  have p4 : w3.cell? ⟨w.heap.size, 3, none⟩ = some (.int .i64 n) := (happ3.cell (a := ⟨w.heap.size, 3, none⟩) L2 N2.out).trans p3.out
  have L3 : w.heap.size < w3.heap.size := by have := happ3.grow.size; omega
  have A3 := hide (A2.out.trans happ3)
  clear happ3 A2 p2 p3
  go_wp2_with fail
  refine (m3.out _ _ _ A3.out.own (by omega)).mono ?_
  rintro e w4 ⟨v4, rfl, happ4⟩
  have A4 := hide (A3.out.trans happ4)
  clear happ4 A3 p4
  go_wp2_with fail
  go_ret
  refine ⟨_, rfl, ?_⟩
  have h := A4.out
  rw [HI.out]
  simp only [List.append_assoc] at h ⊢
  exact h
end Go.Proofs.YtmbgcpmapaedcaaDoor
namespace Go.Proofs.YtmbgcpmapaedcaaDoor
open Go.RowKit
open Wi (App encB It itC itsC)
set_option maxRecDepth 100000 in
set_option maxHeartbeats 1600000 in
theorem codeText_any (cv : Value) (l : List Ins) (w : World) (hL : ISt w cv l) (hl : l.length ≤ 4096) (h1 : 1 ≤ l.length) :
    Calls Tryd.prog 42 #[cv] w fun e w' => e = .returned (.string ⟨(cdB l).toArray⟩) ∧ Below w.heap.size w w' := by
  obtain ⟨ca, cb, coff, ccap, rfl, hcA, hcI⟩ := hL
  have HCA := hide hcA
  have HCI := hide hcI
  obtain ⟨n, hN⟩ : ∃ n, n = l.length := ⟨_, rfl⟩
  rw [← hN] at hl h1 ⊢
  have HN := hide hN
  have n0 : (0 : Int) ≤ (n : Int) := by omega
  have n5 : (n : Int) ≤ 4096 := by omega
  clear hcA hcI hN
  obtain ⟨i0, hi, hz0, hz1, hz2⟩ := info_parts Wi.in5
  have hmk : ∀ u : World, (Instr.makeSlice 61 (.int .i64 0) (.int .i64 ((n : Int) * 11))).run Tryd.prog u =
      .ok (.slice (some ⟨u.heap.size, 0, none⟩) 0 (n * 11)) (u.alloc (.cells (madeCells #[.int .u8 0] (n * 11)) 5)) := fun u => by
    have h := run_make (P := Tryd.prog) u 61 5 i0 (.int .u8 0) Tryd.underlying61 hi hz0 .i64 .i64 0 ((n * 11 : Nat) : Int) (by omega) (by omega) (by rw [hz2]; omega) (by omega)
    simp only [Int.toNat_natCast, Int.toNat_zero] at h
    rw [Int.natCast_mul] at h
    simpa [hz1, Value.cells] using h
  have hMs : (madeCells #[.int .u8 0] (n * 11)).size = n * 11 * 1 := by simp [madeCells]
  generalize madeCells #[Value.int .u8 0] (n * 11) = M at *
  have HST : Hid ((w.alloc (.cells M 5)).ownsRow w.heap.size 5 1 (.slice (some ⟨w.heap.size, 0, none⟩) 0 (n * 11)) 0 []) :=
    World.ownsRow_made w _ _ (Nat.le_refl _) (by unfold maxLen; omega) hMs
  have HB0 := hide ((Below.refl w.heap.size w).alloc (Nat.le_refl _) (.cells M 5))
  have hwm : IntKind.i64.wrap ((n : Int) * 11) = (n : Int) * 11 := by rw [IntKind.wrap_i64]; omega
  clear hMs
  go_enter Tryd.func42, Tryd.ntmps42
  go_wp2_with fail
  generalize (w.alloc (.cells M 5)) = w0 at *
  go_loopw [3, 5, 12] (fun bv _ i wx => ∃ (j : Nat) (b' : Value), j ≤ n ∧ i = .int .i64 (j : Int) ∧ b' = bv ∧ Hid (wx.ownsRow w.heap.size 5 1 b' (11 * j) ((cdB (l.take j)).map encB) ∧ Below w.heap.size w wx)) (fun _ _ i _ => n - (intOf i).toNat)
  case atStart => exact ⟨0, _, by omega, rfl, rfl, HST.out, HB0.out⟩
  case round =>
    obtain ⟨j, bv, hj, rfl, rfl, hh⟩ := hrel
    have OO := hide hh.out.1
    have BB := hide hh.out.2
    have j0 : (0 : Int) ≤ (j : Int) := by omega
    clear hh
    by_cases hlt : j < n
    · have j1 : (j : Int) < (n : Int) := by omega
      obtain ⟨i, hi'⟩ : ∃ i, l[j]? = some i := ⟨_, List.getElem?_eq_getElem (by rw [← HN.out]; exact hlt)⟩
      obtain ⟨hcb, rfl⟩ := HCA.out (by rw [← HN.out]; omega)
      obtain ⟨e0, e1, e2, e3⟩ := HCI.out j i hi'
      have d0 := (BB.out.cell (p := ⟨cb, coff + j * 4, none⟩) hcb).trans e0
      have d1 := (BB.out.cell (p := ⟨cb, coff + j * 4 + 1, none⟩) hcb).trans e1
      have d2 := (BB.out.cell (p := ⟨cb, coff + j * 4 + 2, none⟩) hcb).trans e2
      have d3 := (BB.out.cell (p := ⟨cb, coff + j * 4 + 3, none⟩) hcb).trans e3
      have HT := hide (cdB_take hi')
      have zr := BB.out.size
      have m1 : Hid (∀ A, Calls Tryd.prog 58 #[bv, .agg #[.int .i64 i.op, .int .i64 i.a, .int .i64 i.b, .int .i64 i.n]] (wr.alloc A) fun e w' => ∃ v', e = .returned v' ∧ App w.heap.size (wr.alloc A) bv w' v' (11 * j + 11) ((cdB (l.take j)).map encB ++ (insB i).map encB)) := fun A => instr_any w.heap.size bv (11 * j) i _ (wr.alloc A) (OO.out.alloc A) (by simp; omega) (by omega)
      rw [← List.map_append, ← HT.out] at m1
      have hbo : Hid (∀ r, bv.ownBlock = some r → w.heap.size ≤ r) := fun r hr => (OO.out.lt r hr).1
      clear e0 e1 e2 e3 hi' hcb
      generalize i.op = p0 at *
      generalize i.a = p1 at *
      generalize i.b = p2 at *
      generalize i.n = p3 at *
      go_wp2_with fail
      refine (m1.out _).mono ?_
      rintro e w3 ⟨v3, rfl, happ⟩
      have O3 := hide happ.own
      have B3 := hide (happ.below (BB.out.alloc zr _) (by simp; omega) hbo.out)
      clear happ m1 d0 d1 d2 d3 OO BB
      go_wp2
      go_roundw
      case rel => exact ⟨j + 1, _, by omega, by go_num, rfl, by rw [show 11 * (j + 1) = 11 * j + 11 from by omega]; exact O3.out, B3.out⟩
      case measure => simp [intOf]; omega
    · obtain rfl : j = n := by omega
      have htk : l.take j = l := List.take_of_length_le (by rw [← HN.out]; exact Nat.le_refl _)
      have ho := OO.out
      rw [htk] at ho
      obtain ⟨g8, cap8, rfl, _, _⟩ := ho.form (by omega)
      have hconv := run_convert_bytes_back (P := Tryd.prog) wr 61 9 5 ⟨g8, 0, none⟩ cap8 (cdB l) Tryd.underlying61 Tryd.underlying5 Tryd.underlying9 (fun i hi => by
        rw [cdB_length, ← HN.out] at hi
        rw [Wi.addr_add, ho.cellAt i (by omega), List.getElem?_map, List.getElem?_eq_getElem (by rw [cdB_length, ← HN.out]; exact hi)]; rfl)
      rw [cdB_length, ← HN.out] at hconv
      obtain ⟨R, hR⟩ : ∃ R : ByteArray, Hid (R = ⟨(cdB l).toArray⟩) := ⟨_, rfl⟩
      rw [← hR.out] at hconv
      clear ho htk OO
      generalize 11 * j = jj at *
      go_wp2
      go_ret
      exact ⟨by rw [← hR.out]; rfl, BB.out⟩
/-- a number as an item -/
def nIt (n : Int) : It := ⟨false, n, ⟨#[]⟩⟩
theorem in58 : (Tryd.prog.info? 58).map (fun i => (i.zero, i.size, i.bytes)) = some (some (.agg #[.bool false, .int .i64 0, .string ⟨#[]⟩]), 3, 32) := by kernel_rfl
theorem its_one (l : List It) (x : It) : itsC (l ++ [x]) = itsC l ++ [.bool x.t, .int .i64 x.n, .string x.s] := by
  rw [Wi.itsC_append]; rfl
set_option maxRecDepth 100000 in
set_option maxHeartbeats 1600000 in
theorem count_any (base : Nat) (v : Value) (k : Nat) (l : List It) (n : Int) (w : World) (hown : w.ownsRow base 58 3 v k (itsC l)) (hbase : base ≤ w.heap.size) (hk : k ≤ 1000000) :
    Calls Tryd.prog 40 #[v, .int .i64 n] w fun e w' => ∃ v', e = .returned v' ∧ w'.ownsRow base 58 3 v' (k + 1) (itsC (l ++ [nIt n])) ∧ Below base w w' := by
  obtain ⟨i0, hi, hz0, hz1, hz2⟩ := info_parts in58
  have HO := hide hown
  have HI := hide (its_one l (nIt n))
  have hob : ∀ r, v.ownBlock = some r → base ≤ r := fun r hr => (hown.lt r hr).1
  clear hown
  go_enter Tryd.func40, Tryd.ntmps40
  go_wp2_with (at_builtin; go_must (refine wpList_append_lies _ (by rfl) _ _ _ (by rfl) base 58 i0 _ 3 32 Tryd.underlying52 hi hz0 hz1 hz2 rfl (by omega) v k _ (by rfl) (HO.out.alloc _) ⟨w.heap.size, 0, none⟩ 1 1 [.bool false, .int .i64 n, .string ⟨#[]⟩] (by rfl) (by rfl) (World.news_of_block (cs := #[.bool false, .int .i64 n, .string ⟨#[]⟩]) (t := 58) (fr := (0, 0)) (heap_alloc_new w _)) (by simp [Value.oneCell']) (by omega) (by unfold maxLen; omega) (by omega) (by simp; omega) (w.heap.size + 1) (by simp) ?_; intro gg cap' w1 hown1 hgrow hat hlt3))
  go_ret
  refine ⟨_, rfl, ?_, ((Below.refl base w).alloc hbase _).grown hgrow (by simp; omega) hob⟩
  rw [HI.out]; exact hown1
end Go.Proofs.YtmbgcpmapaedcaaDoor
