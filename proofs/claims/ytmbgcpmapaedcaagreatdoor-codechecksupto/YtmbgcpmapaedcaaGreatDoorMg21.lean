/- code: appendHigherFirst. | code: higherFirst, signed. | code: instrOf. -/
import Derived.Test.YtmbgcpmapaedcaaGreatDoorMg20
import Derived.Test.YtmbgcpmapaedcaaGreatDoorMg3
import Derived.Test.YtmbgcpmapaedcaaGreatDoorMg15
import Derived.Test.YtmbgcpmapaedcaaGreatDoorMg16
import Derived.Test.YtmbgcpmapaedcaaGreatDoorMg8
import Derived.Deep.RegionHeld3
namespace Go.Proofs.YtmbgcpmapaedcaaGreatDoor
open Go.RowKit
open Wi (App encB)
/-- a byte of a number, and its lowest bytes, the higher ones first -/
def byI (n : Int) (j : Nat) : UInt8 := UInt8.ofNat (n / 2 ^ (8 * j) % 256).toNat
def hiB (n : Int) : Nat → List UInt8
  | 0 => []
  | j + 1 => byI n j :: hiB n j
theorem hiB_length (n : Int) : ∀ j, (hiB n j).length = j
  | 0 => rfl
  | j + 1 => by rw [hiB, List.length_cons, hiB_length n j]
theorem byI_enc (n : Int) (j : Nat) : encB (byI n j) = .int .u8 (n / 2 ^ (8 * j) % 256) := by
  unfold encB byI
  rw [Wi.byte_of]
  have h0 : 0 ≤ n / 2 ^ (8 * j) % 256 := Int.emod_nonneg _ (by decide)
  have h1 : n / 2 ^ (8 * j) % 256 < 256 := Int.emod_lt_of_pos _ (by decide)
  generalize n / 2 ^ (8 * j) % 256 = z at *
  congr 1
  omega
set_option maxRecDepth 100000 in
set_option maxHeartbeats 1600000 in
theorem higher_any (base : Nat) (v : Value) (m : Nat) (n : Int) (M : Nat) (hM : M ≤ 6) (xs : List Value) (w : World) (hown : w.ownsRow base 5 1 v m xs) (hbase : base ≤ w.heap.size) (hm : m ≤ 1000000000) :
    Calls Tryz.prog 99 #[v, .int .i64 n, .int .i64 (M : Int)] w fun e w' => ∃ v', e = .returned v' ∧ App base w v w' v' (m + M) (xs ++ (hiB n M).map encB) := by
  obtain ⟨i0, hi, hz0, hz1, hz2⟩ := info_parts Wi.in5
  have HO := hide hown
  clear hown
  go_enter Tryz.func99, Tryz.ntmps99
  go_wp2_with fail
  go_loopw [0, 7] (fun b i wr => ∃ (j : Nat) (b' : Value) (acc : List UInt8), j ≤ M ∧ i = .int .i64 ((j : Int) - 1) ∧ b' = b ∧ Hid (acc ++ hiB n j = hiB n M) ∧ App base w v wr b' (m + acc.length) (xs ++ acc.map encB)) (fun _ i _ => (intOf i + 1).toNat)
  case atStart => exact ⟨M, _, [], by omega, by go_num, rfl, rfl, ⟨by simpa using HO.out, ⟨rfl, rfl, rfl, Nat.le_refl _, fun _ _ _ => rfl⟩, .inl rfl⟩⟩
  case round =>
    obtain ⟨j, b, acc, hj, rfl, rfl, hacc, happ⟩ := hrel
    have hl : acc.length ≤ 6 := by
      have h := congrArg List.length hacc.out
      rw [List.length_append, hiB_length, hiB_length] at h
      omega
    have HA := hide happ
    have zr := happ.grow.size
    clear happ
    cases j with
    | zero =>
      have HE : Hid (acc = hiB n M) := by
        have h := hacc.out
        rw [show hiB n 0 = [] from rfl, List.append_nil] at h
        exact h
      have HL : Hid (acc.length = M) := by show _ = _; rw [HE.out, hiB_length]
      clear hacc
      go_wp2
      go_ret
      exact ⟨_, rfl, by rw [← HE.out, ← HL.out]; exact HA.out⟩
    | succ j =>
      have e1 : ((j + 1 : Nat) : Int) - 1 = (j : Int) := by omega
      rw [e1]
      have j0 : (0 : Int) ≤ (j : Int) := by omega
      have j6 : (j : Int) ≤ 5 := by omega
      have hbo : ∀ r, b.ownBlock = some r → base ≤ r := fun r hr => (HA.out.own.lt r hr).1
      have hw8 : IntKind.i64.wrap (8 * (j : Int)) = 8 * (j : Int) := by rw [IntKind.wrap_i64]; omega
      have ht8 : (8 * (j : Int)).toNat = 8 * j := by omega
      have HN : Hid (encB (byI n j) = .int .u8 (n / 2 ^ (8 * j) % 256)) := byI_enc n j
      go_wp2_with (at_builtin; go_must (refine wpList_append_lies _ (by rfl) _ _ _ (by rfl) base 5 i0 _ 1 1 Tryz.underlying78 hi hz0 hz1 hz2 rfl (by omega) b (m + acc.length) _ (by rfl) (HA.out.own.alloc _) ⟨wr.heap.size, 0, none⟩ 1 1 [.int .u8 (n / 2 ^ (8 * j) % 256)] (by rfl) (by rfl) (World.news_of_block (cs := #[.int .u8 (n / 2 ^ (8 * j) % 256)]) (t := 5) (fr := (0, 0)) (heap_alloc_new wr _)) (by simp [Value.oneCell']) (by omega) (by unfold maxLen; omega) (by omega) (by simp; omega) (wr.heap.size + 1) (by simp) ?_; intro gg cap' w3 hown3 hgrow hat3 hlt3))
      go_roundw
      case rel =>
        refine ⟨j, _, acc ++ [byI n j], by omega, by go_num, rfl, ?_, ?_⟩
        · show _ = _
          have h := hacc.out
          rw [hiB] at h
          rw [List.append_assoc]; exact h
        · have h := App.of_lies (w := wr) ((Below.refl _ _).alloc (Nat.le_refl _) _) hown3 hgrow (by simpa using hat3)
          have h2 := HA.out.trans h
          rw [List.append_assoc, ← HN.out] at h2
          rw [List.length_append, List.map_append]
          exact h2
      case measure => simp only [intOf]; omega
/-- the bytes of an instruction, and of code -/
def insB (i : Ins) : List UInt8 := UInt8.ofNat (i.op % 256).toNat :: (hiB i.a 2 ++ (hiB i.b 2 ++ hiB i.n 6))
def cdB (l : List Ins) : List UInt8 := l.flatMap insB
theorem insB_length (i : Ins) : (insB i).length = 11 := by
  unfold insB
  rw [List.length_cons, List.length_append, List.length_append, hiB_length, hiB_length, hiB_length]
theorem cdB_length (l : List Ins) : (cdB l).length = 11 * l.length := by
  unfold cdB
  induction l with
  | nil => rfl
  | cons i l ih => rw [List.flatMap_cons, List.length_append, ih, insB_length, List.length_cons]; omega
theorem cdB_take {l : List Ins} {k : Nat} {i : Ins} (h : l[k]? = some i) : cdB (l.take (k + 1)) = cdB (l.take k) ++ insB i := by
  unfold cdB
  rw [List.take_add_one, h, List.flatMap_append]
  simp
theorem opB_enc (n : Int) : encB (UInt8.ofNat (n % 256).toNat) = .int .u8 (n % 256) := by
  have h := byI_enc n 0
  unfold byI at h
  simpa using h
theorem bw2' (w : World) (A B : Obj) : Below w.heap.size w ((w.alloc A).alloc B) := ((Below.refl _ _).alloc (Nat.le_refl _) _).alloc (by simp) _
theorem box_far {w w1 : World} {cs : Array Value} {t : TypeId} {B : Obj} {r : Option Nat} (hg : ((w.alloc (.cells cs t)).alloc B).grownBy w1 r) (hne : some w.heap.size ≠ r) (j : Nat) : w1.cell? ⟨w.heap.size, j, none⟩ = cs[j]? := by
  rw [hg.cell_far ⟨w.heap.size, j, none⟩ (by simp; omega) hne]
  have h : ((w.alloc (.cells cs t)).alloc B).heap[w.heap.size]? = some (.cells cs t (0, 0)) := by rw [heap_alloc_old _ _ (by simp), heap_alloc_new]
  exact Lib.cell_of_heap h j
theorem app_ne {base : Nat} {w w' : World} {v v' : Value} {n : Nat} {xs : List Value} (h : App base w v w' v' n xs) {b : Nat} (hb : b < w.heap.size) (hne : some b ≠ v.ownBlock) : some b ≠ v'.ownBlock := by
  rcases h.lies with e | ⟨g, e, hg⟩
  · rw [e]; exact hne
  · rw [e]; intro he; injection he with he; omega
set_option maxRecDepth 100000 in
set_option maxHeartbeats 1600000 in
theorem instr_any (base : Nat) (v : Value) (m : Nat) (i : Ins) (xs : List Value) (w : World) (hown : w.ownsRow base 5 1 v m xs) (hbase : base ≤ w.heap.size) (hm : m ≤ 900000000) :
    Calls Tryz.prog 82 #[v, .agg #[.int .i64 i.op, .int .i64 i.a, .int .i64 i.b, .int .i64 i.n]] w fun e w' => ∃ v', e = .returned v' ∧ App base w v w' v' (m + 11) (xs ++ (insB i).map encB) := by
  obtain ⟨i0, hi, hz0, hz1, hz2⟩ := info_parts Wi.in5
  have HI : Hid ((insB i).map encB = [.int .u8 (i.op % 256)] ++ ((hiB i.a 2).map encB ++ ((hiB i.b 2).map encB ++ (hiB i.n 6).map encB))) := by
    show _ = _
    unfold insB
    rw [List.map_cons, opB_enc, List.map_append, List.map_append]; rfl
  have HO := hide hown
  obtain ⟨o, a, b, n⟩ := i
  have m1 : Hid (∀ (W : World) (u : Value) (ys : List Value), W.ownsRow base 5 1 u (m + 1) ys → base ≤ W.heap.size → Calls Tryz.prog 99 #[u, .int .i64 a, .int .i64 2] W fun e w' => ∃ v', e = .returned v' ∧ App base W u w' v' (m + 1 + 2) (ys ++ (hiB a 2).map encB)) := fun W u ys h hb => higher_any base u (m + 1) a 2 (by omega) ys W h hb (by omega)
  have m2 : Hid (∀ (W : World) (u : Value) (ys : List Value), W.ownsRow base 5 1 u (m + 1 + 2) ys → base ≤ W.heap.size → Calls Tryz.prog 99 #[u, .int .i64 b, .int .i64 2] W fun e w' => ∃ v', e = .returned v' ∧ App base W u w' v' (m + 1 + 2 + 2) (ys ++ (hiB b 2).map encB)) := fun W u ys h hb => higher_any base u (m + 1 + 2) b 2 (by omega) ys W h hb (by omega)
  have m3 : Hid (∀ (W : World) (u : Value) (ys : List Value), W.ownsRow base 5 1 u (m + 1 + 2 + 2) ys → base ≤ W.heap.size → Calls Tryz.prog 99 #[u, .int .i64 n, .int .i64 6] W fun e w' => ∃ v', e = .returned v' ∧ App base W u w' v' (m + 1 + 2 + 2 + 6) (ys ++ (hiB n 6).map encB)) := fun W u ys h hb => higher_any base u (m + 1 + 2 + 2) n 6 (by omega) ys W h hb (by omega)
  have hbo : Hid (∀ r, v.ownBlock = some r → base ≤ r ∧ r < w.heap.size) := fun r hr => hown.lt r hr
  have hob : ∀ r, v.ownBlock = some r → base ≤ r := fun r hr => (hbo.out r hr).1
  have hne : some w.heap.size ≠ v.ownBlock := fun e => by have := (hbo.out _ e.symm).2; omega
  clear hown
  go_enter Tryz.func82, Tryz.ntmps82
  go_wp2_with (at_builtin; go_must (refine wpList_append_lies _ (by rfl) _ _ _ (by rfl) base 5 i0 _ 1 1 Tryz.underlying78 hi hz0 hz1 hz2 rfl (by omega) v m xs (by rfl) ((HO.out.alloc _).alloc _) ⟨w.heap.size + 1, 0, none⟩ 1 1 [.int .u8 (o % 256)] (by rfl) (by rfl) (World.news_of_block (cs := #[.int .u8 (o % 256)]) (t := 5) (fr := (0, 0)) (Wi.alloc2_at w _ _)) (by simp [Value.oneCell']) (by omega) (by unfold maxLen; omega) (by omega) (by simp; omega) (w.heap.size + 2) (by simp) ?_; intro gg cap' w1 hown1 hgrow hat hlt3; have q1 := hide (box_far hgrow hne 1); have q2 := hide (box_far hgrow hne 2); have q3 := hide (box_far hgrow hne 3); have p1 : w1.cell? ⟨w.heap.size, 1, none⟩ = some (.int .i64 a) := q1.out; have A1 := hide (App.of_lies (w := w) (bw2' w _ _) hown1 hgrow (by simpa using hat)); have N1 : Hid (some w.heap.size ≠ (Value.slice (some ⟨gg, 0, none⟩) (m + 1) cap').ownBlock) := (by intro he; have he' : w.heap.size = gg := Option.some.inj he; rcases hat with e | e; exact hne (e.symm ▸ he' ▸ rfl); omega); have L1 : w.heap.size < w1.heap.size := (by have := hgrow.size; simp at this; omega); clear hown1 hgrow hat hlt3))
  refine (m1.out _ _ _ A1.out.own (by omega)).mono ?_
  rintro e w2 ⟨v2, rfl, happ2⟩
  have p2 : w2.cell? ⟨w.heap.size, 2, none⟩ = some (.int .i64 b) := (happ2.cell (a := ⟨w.heap.size, 2, none⟩) L1 N1.out).trans q2.out
  have p3 : Hid (w2.cell? ⟨w.heap.size, 3, none⟩ = some (.int .i64 n)) := (happ2.cell (a := ⟨w.heap.size, 3, none⟩) L1 N1.out).trans q3.out
  have N2 := hide (app_ne happ2 L1 N1.out)
  have L2 : w.heap.size < w2.heap.size := by have := happ2.grow.size; omega
  have A2 := hide (A1.out.trans happ2)
  clear happ2 A1 p1 q1 q2 q3
  go_wp2_with fail
  refine (m2.out _ _ _ A2.out.own (by omega)).mono ?_
  rintro e w3 ⟨v3, rfl, happ3⟩
  have p4 : w3.cell? ⟨w.heap.size, 3, none⟩ = some (.int .i64 n) := (happ3.cell (a := ⟨w.heap.size, 3, none⟩) L2 N2.out).trans p3.out
  have L3 : w.heap.size < w3.heap.size := by have := happ3.grow.size; omega
  have A3 := hide (A2.out.trans happ3)
  clear happ3 A2 p2 p3
  go_wp2_with fail
  refine (m3.out _ _ _ A3.out.own (by omega)).mono ?_
  rintro e w4 ⟨v4, rfl, happ4⟩
  have A4 := hide (A3.out.trans happ4)
  clear happ4 A3 p4
  go_wp2_with fail
  go_ret
  refine ⟨_, rfl, ?_⟩
  have h := A4.out
  rw [HI.out]
  simp only [List.append_assoc] at h ⊢
  exact h
end Go.Proofs.YtmbgcpmapaedcaaGreatDoor
namespace Go.Proofs.YtmbgcpmapaedcaaGreatDoor
open Go.RowKit
open Wi (numV)
set_option maxRecDepth 100000 in
set_option maxHeartbeats 1600000 in
theorem hf_any (s : ByteArray) (q : List UInt8) (hq : s.data.toList = q) (hs : q.length ≤ 6) (w : World) :
    Calls Tryz.prog 111 #[.string s] w fun e w' => e = .returned (.int .u64 ((numV q 0 : Nat) : Int)) ∧ w' = w := by
  have hz : s.size = q.length := by rw [← hq, Wi.text_len]
  obtain ⟨n, hn⟩ : ∃ n, n = q.length := ⟨_, rfl⟩
  have HN := hide hn
  have HQ := hide hq
  have i2 : (s.size : Int) = (n : Int) := by omega
  have n6 : n ≤ 6 := by omega
  clear hn hq hz hs
  go_enter Tryz.func111, Tryz.ntmps111
  go_wp2_with fail
  go_loop [3, 4, 7] (fun m _ i => ∃ k : Nat, k ≤ n ∧ i = .int .i64 (k : Int) ∧ m = .int .u64 ((numV (q.take k) 0 : Nat) : Int)) (fun _ _ i => n - (intOf i).toNat)
  case atStart => exact ⟨0, by omega, rfl, rfl⟩
  case round =>
    obtain ⟨k, hk, rfl, rfl⟩ := hrel
    have k0 : (0 : Int) ≤ (k : Int) := by omega
    by_cases hlt : k < n
    · have j1 : (k : Int) < (n : Int) := by omega
      have hql : k < q.length := by rw [← HN.out]; exact hlt
      have hx := Wi.run_idx s k q[k] (by rw [HQ.out, List.getElem?_eq_getElem hql])
      have hb := Wi.numV_bound q k (by omega)
      have HV : Hid (((numV (q.take (k + 1)) 0 : Nat) : Int) = bits .or .u64 (((numV (q.take k) 0 : Nat) : Int) * 256) ((q[k].toNat : Nat) : Int)) := by
        unfold Hid
        rw [Wi.or_u64s _ _ hb (q[k].toNat_lt), Wi.numV_take q k hql]
      have hc : (q[k].toNat : Int) < 256 := by have := q[k].toNat_lt; omega
      generalize q[k] = d at *
      have hb' : ((numV (q.take k) 0 : Nat) : Int) < 72057594037927936 := by omega
      generalize numV (q.take k) 0 = m at *
      go_wp2
      go_round
      case rel => exact ⟨k + 1, by omega, by go_num, by rw [HV.out]⟩
      case measure => simp only [intOf]; omega
    · obtain rfl : k = n := by omega
      have HE : Hid (q.take k = q) := List.take_of_length_le (by rw [← HN.out]; exact Nat.le_refl _)
      go_wp2
      go_ret
      exact ⟨by rw [HE.out]; rfl, rfl⟩
/-- a number of signed 48 bits -/
def sg48 (n : Nat) : Int := if n < 140737488355328 then (n : Int) else (n : Int) - 281474976710656
set_option maxRecDepth 100000 in
theorem signed_any (n : Nat) (hn : n < 281474976710656) (w : World) : Calls Tryz.prog 112 #[.int .u64 (n : Int)] w fun e w' => e = .returned (.int .i64 (sg48 n)) ∧ w' = w := by
  have h1 : IntKind.u64.wrap ((n : Int) * 65536) = (n : Int) * 65536 := by
    simp [IntKind.wrap, IntKind.bits, IntKind.signed]; omega
  have h2 : Hid (wrap64 ((n : Int) * 65536) / 65536 = sg48 n) := by
    show _ = _
    unfold wrap64 sg48
    split <;> omega
  have h3 : (n : Int) * 65536 < 18446744073709551616 := by omega
  go_enter Tryz.func112, Tryz.ntmps112
  go_wp2
  go_ret
  exact ⟨by rw [← h2.out]; rfl, rfl⟩
end Go.Proofs.YtmbgcpmapaedcaaGreatDoor
namespace Go.Proofs.YtmbgcpmapaedcaaGreatDoor
open Go.RowKit
open Wi (numV)
/-- an instruction's eleven bytes, read; a code's -/
def insV (q : List UInt8) : Ins := ⟨((q.headD 0).toNat : Int), ((numV ((q.drop 1).take 2) 0 : Nat) : Int), ((numV ((q.drop 3).take 2) 0 : Nat) : Int), sg48 (numV ((q.drop 5).take 6) 0)⟩
def cdN : Nat → List UInt8 → List Ins
  | 0, _ => []
  | n + 1, q => insV q :: cdN n (q.drop 11)
def cdV (q : List UInt8) : List Ins := cdN (q.length / 11) q
theorem cdN_length : ∀ (n : Nat) (q : List UInt8), (cdN n q).length = n
  | 0, _ => rfl
  | n + 1, q => by rw [cdN, List.length_cons, cdN_length n]
theorem num_lt (q : List UInt8) (k : Nat) (h : k ≤ 6) : numV (q.take k) 0 < 281474976710656 := by
  have h1 := Wi.numV_lt (q.take k) 0
  have h2 : (q.take k).length ≤ 6 := by rw [List.length_take]; omega
  have h3 : 256 ^ (q.take k).length ≤ 256 ^ 6 := Nat.pow_le_pow_right (by omega) h2
  have h4 : (256 : Nat) ^ 6 = 281474976710656 := by decide
  omega
set_option maxRecDepth 100000 in
set_option maxHeartbeats 1600000 in
theorem instrOf_any (s : ByteArray) (q : List UInt8) (hq : s.data.toList = q) (hs : 11 ≤ q.length) (w : World) :
    Calls Tryz.prog 89 #[.string s] w fun e w' => e = .returned (inA (insV q)) ∧ Below w.heap.size w w' := by
  have hz : s.size = q.length := by rw [← hq, Wi.text_len]
  have x0 := Wi.run_idx s 0 (q.headD 0) (by rw [hq]; cases q with | nil => simp at hs | cons a r => rfl)
  have x1 := Wi.slice_mid s 1 3 (by omega) (by omega)
  have x2 := Wi.slice_mid s 3 5 (by omega) (by omega)
  have x3 := Wi.slice_mid s 5 11 (by omega) (by omega)
  rw [hq] at x1 x2 x3
  have c1 : Hid (∀ W, Calls Tryz.prog 111 #[.string ⟨((q.drop 1).take 2).toArray⟩] W fun e w' => e = .returned (.int .u64 ((numV ((q.drop 1).take 2) 0 : Nat) : Int)) ∧ w' = W) := fun W => hf_any _ _ (by simp) (by rw [List.length_take]; omega) W
  have c2 : Hid (∀ W, Calls Tryz.prog 111 #[.string ⟨((q.drop 3).take 2).toArray⟩] W fun e w' => e = .returned (.int .u64 ((numV ((q.drop 3).take 2) 0 : Nat) : Int)) ∧ w' = W) := fun W => hf_any _ _ (by simp) (by rw [List.length_take]; omega) W
  have c3 : Hid (∀ W, Calls Tryz.prog 111 #[.string ⟨((q.drop 5).take 6).toArray⟩] W fun e w' => e = .returned (.int .u64 ((numV ((q.drop 5).take 6) 0 : Nat) : Int)) ∧ w' = W) := fun W => hf_any _ _ (by simp) (by rw [List.length_take]; omega) W
  have c4 : Hid (∀ W, Calls Tryz.prog 112 #[.int .u64 ((numV ((q.drop 5).take 6) 0 : Nat) : Int)] W fun e w' => e = .returned (.int .i64 (sg48 (numV ((q.drop 5).take 6) 0))) ∧ w' = W) := fun W => signed_any _ (num_lt _ 6 (by omega)) W
  have n1 : ((numV ((q.drop 1).take 2) 0 : Nat) : Int) < 281474976710656 := by have := num_lt (q.drop 1) 2 (by omega); omega
  have n2 : ((numV ((q.drop 3).take 2) 0 : Nat) : Int) < 281474976710656 := by have := num_lt (q.drop 3) 2 (by omega); omega
  have n0 : ((q.headD 0).toNat : Int) < 256 := by have := (q.headD 0).toNat_lt; omega
  have x1' : ∀ W, (Instr.slice 9 (.string s) (some (.int .i64 1)) (some (.int .i64 3)) none).run Tryz.prog W = .ok (.string ⟨((q.drop 1).take 2).toArray⟩) W := x1
  have x2' : ∀ W, (Instr.slice 9 (.string s) (some (.int .i64 3)) (some (.int .i64 5)) none).run Tryz.prog W = .ok (.string ⟨((q.drop 3).take 2).toArray⟩) W := x2
  have x3' : ∀ W, (Instr.slice 9 (.string s) (some (.int .i64 5)) (some (.int .i64 11)) none).run Tryz.prog W = .ok (.string ⟨((q.drop 5).take 6).toArray⟩) W := x3
  have x0' : ∀ W, (Instr.index 9 (.string s) (.int .i64 0)).run Tryz.prog W = .ok (.int .u8 ((q.headD 0).toNat : Int)) W := x0
  clear x0 x1 x2 x3 hz
  have HI : Hid (inA (insV q) = .agg #[.int .i64 ((q.headD 0).toNat : Int), .int .i64 ((numV ((q.drop 1).take 2) 0 : Nat) : Int), .int .i64 ((numV ((q.drop 3).take 2) 0 : Nat) : Int), .int .i64 (sg48 (numV ((q.drop 5).take 6) 0))]) := rfl
  rw [HI.out]
  clear HI hs hq
  generalize (⟨((q.drop 1).take 2).toArray⟩ : ByteArray) = s1 at *
  generalize (⟨((q.drop 3).take 2).toArray⟩ : ByteArray) = s2 at *
  generalize (⟨((q.drop 5).take 6).toArray⟩ : ByteArray) = s3 at *
  generalize sg48 (numV ((q.drop 5).take 6) 0) = m4 at *
  generalize numV ((q.drop 1).take 2) 0 = m1 at *
  generalize numV ((q.drop 3).take 2) 0 = m2 at *
  generalize numV ((q.drop 5).take 6) 0 = m3 at *
  generalize (q.headD 0).toNat = m0 at *
  have g0 : IntKind.i64.wrap (m0 : Int) = (m0 : Int) := by rw [IntKind.wrap_i64]; omega
  have g1 : IntKind.i64.wrap (m1 : Int) = (m1 : Int) := by rw [IntKind.wrap_i64]; omega
  have g2 : IntKind.i64.wrap (m2 : Int) = (m2 : Int) := by rw [IntKind.wrap_i64]; omega
  go_enter Tryz.func89, Tryz.ntmps89
  go_wp2_with fail
  go_region_held3 (fun _ => True) (trivial) (first | (go_at_call 112; refine (c4.out _).mono ?_; rintro e w1 ⟨rfl, rfl⟩) | (go_at_call 111; first | (with_reducible refine (c1.out _).mono ?_; rintro e w1 ⟨rfl, rfl⟩) | (with_reducible refine (c2.out _).mono ?_; rintro e w1 ⟨rfl, rfl⟩) | (with_reducible refine (c3.out _).mono ?_; rintro e w1 ⟨rfl, rfl⟩)))
  all_goals go_wp2
  all_goals refine bodyPost_ret (v := .agg #[.int .i64 (m0 : Int), .int .i64 (m1 : Int), .int .i64 (m2 : Int), .int .i64 m4]) ?_ rfl ⟨rfl, ?_⟩
  all_goals first | exact ((Below.refl _ _).alloc (Nat.le_refl _) _).drew | simp [results, Tryz.results89, go_sem]
end Go.Proofs.YtmbgcpmapaedcaaGreatDoor
