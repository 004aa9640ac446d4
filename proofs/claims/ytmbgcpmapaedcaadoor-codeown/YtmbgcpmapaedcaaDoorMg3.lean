/- The contracts of wrapping: the program's wrapped, the document's Wrapped. | Which values fit: the contracts of the program's Fits (over its table of spans) and of the document's. | Images: plain definitions, and slices of instructions in memory. | The contracts of the document's Fits and Has; of typeSet.has and operation.result. -/
import Derived.Test.YtmbgcpmapaedcaaDoorMg0
import Derived.Test.YtmbgcpmapaedcaaDoorMg1
import Derived.Test.YtmbgcpmapaedcaaDoorMg2
namespace Go.Proofs.YtmbgcpmapaedcaaDoor.Four
open Go.RowKit
theorem and_one (n : Int) : bits .and .i64 n 1 = n % 2 := by
  show IntKind.i64.wrap ((BitVec.ofInt 64 n &&& BitVec.ofInt 64 1).toNat : Int) = _
  rw [BitVec.toNat_and, ofInt_mod, show (BitVec.ofInt 64 1).toNat = 1 from rfl, Nat.and_one_is_mod]
  simp [IntKind.wrap, IntKind.bits, IntKind.signed]
  omega
theorem w64 {n : Int} (h1 : -9223372036854775808 ≤ n) (h2 : n < 9223372036854775808) : wrap64 n = n := by
  unfold wrap64; omega
theorem tmod_up (n m : Int) (hm : m = 65536 ∨ m = 4294967296) : (wrap64 (n.tmod m + m)).tmod m = n % m := by
  have h : n.tmod m = n % m ∨ n.tmod m = n % m - m := by
    rcases Int.le_total 0 n with h0 | h0
    · left; exact Int.tmod_eq_emod_of_nonneg h0
    · have e : (-n).tmod m = -(n.tmod m) := Int.neg_tmod n m
      rw [Int.tmod_eq_emod_of_nonneg (show 0 ≤ -n by omega)] at e
      rcases hm with rfl | rfl <;> omega
  have h2 : 0 ≤ n.tmod m + m ∧ n.tmod m + m < 9223372036854775808 ∧ (n.tmod m + m) % m = n % m := by
    rcases hm with rfl | rfl <;> omega
  rw [w64 (by omega) (by omega), Int.tmod_eq_emod_of_nonneg h2.1, h2.2.2]
theorem wr_i16 (n : Int) : wrap64 (IntKind.i16.wrap n) = wrN 2 n := by
  have e : IntKind.i16.wrap n = wrN 2 n := by
    unfold wrN
    rw [if_neg (by decide), show szN 2 = 65536 from rfl]
    simp [IntKind.wrap, IntKind.bits, IntKind.signed]
  obtain ⟨a, b⟩ := wr_range (t := 2) (by decide) n
  rw [show szN 2 = 65536 from rfl] at a b
  rw [e, w64 (by omega) (by omega)]
theorem wr_i32 {t : Int} (h1 : t ≠ 1) (h2 : t ≠ 2) (n : Int) : wrap64 (wrap32 n) = wrN t n := by
  have es : szN t = 4294967296 := by unfold szN; rw [if_neg h2]
  have e : wrap32 n = wrN t n := by
    unfold wrN wrap32
    rw [if_neg h1, es]
    split <;> omega
  obtain ⟨a, b⟩ := wr_range (t := t) h1 n
  rw [es] at a b
  rw [e, w64 (by omega) (by omega)]
set_option maxRecDepth 100000 in
theorem wrapped_any (t n : Int) (w : World) : Calls Tryd.prog 61 #[.int .i64 t, .int .i64 n] w fun e w' => e = .returned (.int .i64 (wrN t n)) ∧ w' = w := by
  by_cases h1 : t = 1
  · subst h1
    have E := hide ((wr_one n).trans (and_one n).symm)
    go_enter Tryd.func61, Tryd.ntmps61
    go_wp2
    go_ret
    exact ⟨by rw [E.out]; rfl, rfl⟩
  · by_cases h2 : t = 2
    · subst h2
      have E := hide (wr_i16 n).symm
      clear h1
      go_enter Tryd.func61, Tryd.ntmps61
      go_wp2
      go_ret
      exact ⟨by rw [E.out]; rfl, rfl⟩
    · have E := hide (wr_i32 h1 h2 n).symm
      go_enter Tryd.func61, Tryd.ntmps61
      go_wp2
      go_ret
      exact ⟨by rw [E.out]; rfl, rfl⟩
end Go.Proofs.YtmbgcpmapaedcaaDoor.Four
namespace Go.Proofs.YtmbgcpmapaedcaaDoor.Four
open Go.RowKit
/-- the table of spans lies in memory -/
def Glo (w : World) : Prop := ∀ k (h : k < 10), w.cell? ⟨1, k, none⟩ = some (.int .i64 ([0, 0, 0, 1, -32768, 32767, -2147483648, 2147483647, -2147483648, 2147483647][k]'h))
theorem Glo.below {B : Nat} {w w' : World} (h : Glo w) (hb : Below B w w') (hB : 1 < B) : Glo w' := fun t ht => (hb.cell (p := ⟨1, t, none⟩) hB).trans (h t ht)
theorem Glo.lt {w : World} (h : Glo w) : 1 < w.heap.size := World.block_lt_of_cell? w _ (h 0 (by omega))
theorem fit_span (t n : Int) : fitB t n = (tyB t && (decide (([0, 0, -32768, -2147483648, -2147483648] : List Int).getD t.toNat 0 ≤ n) && decide (n ≤ ([0, 1, 32767, 2147483647, 2147483647] : List Int).getD t.toNat 0))) := by
  by_cases h1 : 1 ≤ t
  · by_cases h4 : t ≤ 4
    · have : t = 1 ∨ t = 2 ∨ t = 3 ∨ t = 4 := by omega
      rcases this with rfl | rfl | rfl | rfl
      · unfold fitB
        rw [if_pos rfl]
        show _ = (true && (decide ((0 : Int) ≤ n) && decide (n ≤ 1)))
        rw [Bool.eq_iff_iff]; simp; omega
      · unfold fitB
        rw [if_neg (by decide)]
        show (true && (decide (-(65536 / 2 : Int) ≤ n) && decide (n < 65536 / 2))) = (true && (decide ((-32768 : Int) ≤ n) && decide (n ≤ 32767)))
        rw [Bool.eq_iff_iff]; simp; omega
      all_goals
        unfold fitB
        rw [if_neg (by decide)]
        show (true && (decide (-(4294967296 / 2 : Int) ≤ n) && decide (n < 4294967296 / 2))) = (true && (decide ((-2147483648 : Int) ≤ n) && decide (n ≤ 2147483647)))
        rw [Bool.eq_iff_iff]; simp; omega
    · have e : tyB t = false := by unfold tyB; rw [decide_eq_false h4, Bool.and_false]
      unfold fitB; rw [if_neg (by omega), e]; rfl
  · have e : tyB t = false := by unfold tyB; rw [decide_eq_false h1]; rfl
    unfold fitB; rw [if_neg (by omega), e]; rfl
set_option maxRecDepth 100000 in
theorem fits_any (t n : Int) (w : World) (hg : Glo w) : Calls Tryd.prog 43 #[.int .i64 t, .int .i64 n] w fun e w' => e = .returned (.bool (fitB t n)) ∧ w' = w := by
  have E := hide (fit_span t n)
  have c := isType_any t
  by_cases ht : tyB t = true
  · rw [ht] at c
    rw [E.out, ht, Bool.true_and]
    have : t = 1 ∨ t = 2 ∨ t = 3 ∨ t = 4 := by
      unfold tyB at ht
      rw [Bool.and_eq_true] at ht
      have h1 := of_decide_eq_true ht.1
      have h2 := of_decide_eq_true ht.2
      omega
    have g0 := hg 2 (by omega)
    have g1 := hg 3 (by omega)
    have g2 := hg 4 (by omega)
    have g3 := hg 5 (by omega)
    have g4 := hg 6 (by omega)
    have g5 := hg 7 (by omega)
    have g6 := hg 8 (by omega)
    have g7 := hg 9 (by omega)
    clear E ht hg
    rcases this with rfl | rfl | rfl | rfl
    all_goals
      go_enter Tryd.func43, Tryd.ntmps43
      go_wp2_with fail
      refine (c _).mono ?_
      rintro e w1 ⟨rfl, rfl⟩
      go_wp2
    all_goals
      go_ret
      refine ⟨ret_bool ?_, rfl⟩
      simp
      omega
  · rw [Bool.not_eq_true] at ht
    rw [ht] at c
    rw [E.out, ht]
    clear E hg ht
    go_enter Tryd.func43, Tryd.ntmps43
    go_wp2_with fail
    refine (c _).mono ?_
    rintro e w1 ⟨rfl, rfl⟩
    go_wp2
    go_ret
    exact ⟨rfl, rfl⟩
end Go.Proofs.YtmbgcpmapaedcaaDoor.Four
namespace Go.Proofs.YtmbgcpmapaedcaaDoor
open Go.RowKit
/-- an instruction -/
structure Ins where
  op : Int
  a : Int
  b : Int
  n : Int
deriving DecidableEq
/-- an image -/
structure Img where
  name : List UInt8
  ty : List Int
  fi : List Int
  ins : List Int
  outs : List Int
  cd : List Ins
def inB (c : Int) (n : Nat) : Bool := decide (0 ≤ c) && decide (c < (n : Int))
def fromB (n : Nat) (c m : Int) : Bool := inB c n && decide (m ≤ (n : Int) - c)
def arrB (ty : List Int) (a b : Int) : Bool := decide (1 ≤ b) && (decide (b ≤ 32) && (fromB ty.length a b && ((ty.drop a.toNat).take b.toNat).all fun t => t == ty.getD a.toNat 0))
def fldT (k : Int) : List Int := (fldK k).map Prod.fst
def blkB (ty : List Int) (k b : Int) : Bool := kindOk k && (fromB ty.length b ((fldK k).length : Int) && ((ty.drop b.toNat).take (fldK k).length == fldT k))
/-- what of an instruction must be 0 -/
def hasN (op : Int) : Nat := if op = 1 then 5 else if op = 2 ∨ op = 3 ∨ op = 9 ∨ op = 10 then 1 else if op = 12 then 0 else 3
def zeroB (h : Nat) (i : Ins) : Bool := (decide (h % 2 ≠ 0) || decide (i.a = 0)) && ((decide (h / 2 % 2 ≠ 0) || decide (i.b = 0)) && (decide (h / 4 % 2 ≠ 0) || decide (i.n = 0)))
def rightB (ty : List Int) (m : Nat) (i : Ins) : Bool :=
  if i.op = 1 then Four.fitB i.a i.n
  else if i.op = 2 ∨ i.op = 3 then inB i.a ty.length
  else if i.op = 4 ∨ i.op = 5 then arrB ty i.a i.b
  else if i.op = 6 then Four.has2 i.a i.b
  else if i.op = 7 then Four.has1 i.a i.b
  else if i.op = 8 then Four.tyB i.a && (Four.tyB i.b && decide ((i.a = 1) ↔ (i.b = 1)))
  else if i.op = 9 ∨ i.op = 10 then inB i.a m
  else if i.op = 11 then blkB ty i.a i.b else true
def mayI (ty : List Int) (m : Nat) (i : Ins) : Bool := (decide (1 ≤ i.op) && decide (i.op ≤ 12)) && (zeroB (hasN i.op) i && rightB ty m i)
/-- cells, none of them twice, nor among those ahead -/
def lineB (n : Nat) : List Int → List Int → Bool
  | _, [] => true
  | seen, c :: r => inB c n && (!(seen.contains c) && lineB n (c :: seen) r)
def cellB (x : Img) : Bool := decide (x.ty.length = x.fi.length) && (decide (x.ty.length ≤ 1024) && (List.zipWith Four.fitB x.ty x.fi).all id)
def frameB (x : Img) : Bool := Ex.nameB x.name && (cellB x && (lineB x.ty.length [] (x.ins ++ x.outs) && (decide (1 ≤ x.cd.length) && decide (x.cd.length ≤ 4096))))
/-- the first instruction that may not be -/
def badAt (ty : List Int) (m : Nat) : Nat → List Ins → Option Nat
  | _, [] => none
  | k, i :: r => if mayI ty m i then badAt ty m (k + 1) r else some k
def chkP (x : Img) : Int × Int := if frameB x then (match badAt x.ty x.cd.length 0 x.cd with | none => (0, 0) | some k => ((k : Int), 130)) else (-1, 130)
/-- a slice of instructions -/
def ISt (w : World) (v : Value) (l : List Ins) : Prop :=
  ∃ a b off cap, v = .slice a l.length cap ∧ (0 < l.length → b < w.heap.size ∧ a = some ⟨b, off, none⟩) ∧
    ∀ i q, l[i]? = some q → w.cell? ⟨b, off + i * 4, none⟩ = some (.int .i64 q.op) ∧ w.cell? ⟨b, off + i * 4 + 1, none⟩ = some (.int .i64 q.a) ∧ w.cell? ⟨b, off + i * 4 + 2, none⟩ = some (.int .i64 q.b) ∧ w.cell? ⟨b, off + i * 4 + 3, none⟩ = some (.int .i64 q.n)
theorem ISt.on {w w' : World} {v : Value} {l : List Ins} (h : ISt w v l) (hb : Below w.heap.size w w') : ISt w' v l := by
  obtain ⟨a, b, off, cap, rfl, h0, hI⟩ := h
  refine ⟨a, b, off, cap, rfl, fun h => ⟨by have := hb.size; have := (h0 h).1; omega, (h0 h).2⟩, fun i q hq => ?_⟩
  have hlt : b < w.heap.size := (h0 (by have := (List.getElem?_eq_some_iff.1 hq).1; omega)).1
  obtain ⟨h1, h2, h3, h4⟩ := hI i q hq
  exact ⟨(hb.cell (p := ⟨b, _, none⟩) hlt).trans h1, (hb.cell (p := ⟨b, _, none⟩) hlt).trans h2, (hb.cell (p := ⟨b, _, none⟩) hlt).trans h3, (hb.cell (p := ⟨b, _, none⟩) hlt).trans h4⟩
/-- an image's six cells -/
structure Im (w : World) (nm tv fv iv ov cv : Value) (x : Img) : Prop where
  name : nm = .string ⟨x.name.toArray⟩
  ty : ILst w tv x.ty
  fi : ILst w fv x.fi
  ins : ILst w iv x.ins
  outs : ILst w ov x.outs
  cd : ISt w cv x.cd
theorem Im.on {w w' : World} {nm tv fv iv ov cv : Value} {x : Img} (h : Im w nm tv fv iv ov cv x) (hb : Below w.heap.size w w') : Im w' nm tv fv iv ov cv x :=
  ⟨h.name, h.ty.on hb, h.fi.on hb, h.ins.on hb, h.outs.on hb, h.cd.on hb⟩
end Go.Proofs.YtmbgcpmapaedcaaDoor
namespace Go.Proofs.YtmbgcpmapaedcaaDoor.Four
open Go.RowKit
/-- which types an operation's row is for: the bit 1 << t -/
def bitT (s t : Int) : Bool := tyB t && (s / 2 ^ t.toNat % 2 == 1)
set_option maxRecDepth 100000 in
theorem has_any (s t : Int) (hs : s = 28 ∨ s = 12 ∨ s = 14 ∨ s = 30 ∨ s = 0) (w : World) : Calls Tryd.prog 88 #[.int .u8 s, .int .i64 t] w fun e w' => e = .returned (.bool (bitT s t)) ∧ w' = w := by
  have c := isType_any t
  cases hT : tyB t with
  | false =>
    have E := hide (show bitT s t = false by unfold bitT; rw [hT]; rfl)
    rw [hT] at c
    clear hT
    go_enter Tryd.func88, Tryd.ntmps88
    go_wp2_with fail
    refine (c _).mono ?_
    rintro e w1 ⟨rfl, rfl⟩
    go_wp2
    go_ret
    exact ⟨ret_bool (by rw [E.out]), rfl⟩
  | true =>
    have ht : t = 1 ∨ t = 2 ∨ t = 3 ∨ t = 4 := by
      unfold tyB at hT
      rw [Bool.and_eq_true] at hT
      have h1 := of_decide_eq_true hT.1
      have h2 := of_decide_eq_true hT.2
      omega
    rw [hT] at c
    clear hT
    rcases ht with rfl | rfl | rfl | rfl <;> rcases hs with rfl | rfl | rfl | rfl | rfl
    all_goals
      go_enter Tryd.func88, Tryd.ntmps88
      go_wp2_with fail
      refine (c _).mono ?_
      rintro e w1 ⟨rfl, rfl⟩
      go_wp2
      go_ret
      exact ⟨ret_bool (by decide +kernel), rfl⟩
end Go.Proofs.YtmbgcpmapaedcaaDoor.Four
