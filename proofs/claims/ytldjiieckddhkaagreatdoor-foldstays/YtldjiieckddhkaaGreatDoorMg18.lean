/- stmt.Check of no statements; decl.Check of a program without statements. | Small contracts: which numbers are types, truth as a number, the document's sizes; kind. | The contracts of wrapping: the program's wrapped, the document's Wrapped. | Which values fit: the contracts of the program's Fits (over its table of spans) and of the document's. | The contracts of the document's Fits and Has; of typeSet.has and operation.result. -/
import Derived.Test.YtldjiieckddhkaaGreatDoorMg17
import Derived.Test.YtldjiieckddhkaaGreatDoorMg13
import Derived.Test.YtldjiieckddhkaaGreatDoorProg
import Derived.Deep.QuietTactic
import Derived.BigQuiet
namespace Go.Proofs.YtldjiieckddhkaaGreatDoor
open Go.RowKit
def slLen (v : Value) : Nat := match v with
  | .slice _ n _ => n
  | _ => 0
set_option maxRecDepth 100000 in
set_option maxHeartbeats 1600000 in
theorem count_nil (w : World) : Calls Tryz.prog 158 #[.int .i64 400, .slice none 0 0] w fun e w' => e = .returned (.int .i64 0) ∧ Below w.heap.size w w' := by
  have B0 := hide ((Below.refl w.heap.size w).alloc (Nat.le_refl _) (.cells #[.slice none 0 0] 119))
  have hc : (w.alloc (.cells #[.slice none 0 0] 119)).cell? ⟨w.heap.size, 0, none⟩ = some (.slice none 0 0) := by rw [Lib.cell_of_heap (heap_alloc_new w _)]; rfl
  go_enter Tryz.func158, Tryz.ntmps158
  go_wp2
  generalize w.alloc (.cells #[.slice none 0 0] 119) = W0 at *
  go_loopw [5, 6] (fun n wv wr => n = .int .i64 0 ∧ wr = W0 ∧ (wv = .slice (some ⟨w.heap.size, 0, none⟩) 1 1 ∨ wv = .slice (some ⟨w.heap.size, 0, none⟩) 0 1)) (fun _ wv _ => slLen wv)
  case atStart => exact ⟨rfl, rfl, .inl rfl⟩
  case round =>
    obtain ⟨rfl, rfl, rfl | rfl⟩ := hrel
    · go_wp2
      go_loopw [36, 6] (fun i v wr' => i = .int .i64 0 ∧ wr' = wr ∧ v = .slice (some ⟨w.heap.size, 0, none⟩) 0 1) (fun _ _ _ => 0)
      case atStart => exact ⟨rfl, rfl, rfl⟩
      case round =>
        obtain ⟨rfl, rfl, rfl⟩ := hrel
        go_wp2
        go_roundw
        case rel => simp
        case measure => simp [slLen]
    · go_wp2
      go_ret
      exact ⟨rfl, B0.out⟩
set_option maxRecDepth 100000 in
theorem allMay_nil (w : World) : Calls Tryz.prog 159 #[.slice none 0 0, .int .i64 1] w fun e w' => e = .returned (.bool true) ∧ w' = w := by
  go_enter Tryz.func159, Tryz.ntmps159
  go_wp2
  go_loopw [9] (fun i wr' => i = .int .i64 0 ∧ wr' = w) (fun _ _ => 0)
  case atStart => exact ⟨rfl, rfl⟩
  case round =>
    obtain ⟨rfl, rfl⟩ := hrel
    go_wp2
    go_ret
    exact ⟨rfl, rfl⟩
theorem stmtCheck_nil (w : World) : Calls Tryz.prog 137 #[.slice none 0 0] w fun e w' => e = .returned (.int .i64 0) ∧ Below w.heap.size w w' := by
  have c := count_nil w
  go_enter Tryz.func137, Tryz.ntmps137
  go_wp2_with fail
  refine c.mono ?_
  rintro e w1 ⟨rfl, hb⟩
  have HB := hide hb
  have c2 := allMay_nil w1
  clear c hb
  go_wp2_with fail
  refine c2.mono ?_
  rintro e w2 ⟨rfl, rfl⟩
  go_wp2
  go_ret
  exact ⟨rfl, HB.out⟩
theorem name_p : nameB [80] = true := by decide +kernel
set_option maxRecDepth 100000 in
set_option maxHeartbeats 1600000 in
theorem declCheck_any (v : Value) (l : List Vv) (w : World) (hL : VLst w v l) (hlen : l.length ≤ 4398046510976) (hg : Glo w) :
    Calls Tryz.prog 101 #[.agg #[.string ⟨#[80]⟩, v, .slice none 0 0]] w fun e w' => e = .returned (.int .i64 (if (decide (l.length ≤ 64) && (l.map vrV).all varB) then 0 else 80)) ∧ Below w.heap.size w w' := by
  obtain ⟨W0, hW0⟩ : ∃ W0, W0 = w.alloc (.cells #[.string ⟨#[80]⟩, v, .slice none 0 0] 121) := ⟨_, rfl⟩
  have B0 : Below w.heap.size w W0 := by rw [hW0]; exact (Below.refl w.heap.size w).alloc (Nat.le_refl _) _
  have hz : W0.heap.size = w.heap.size + 1 := by rw [hW0, World.size_alloc]
  have hg0 := hg.below B0 hg.lt
  have hcell : ∀ j u, (#[.string ⟨#[80]⟩, v, .slice none 0 0] : Array Value)[j]? = some u → W0.cell? ⟨w.heap.size, j, none⟩ = some u := fun j u h => by
    rw [hW0, Lib.cell_of_heap (heap_alloc_new w _)]; exact h
  have c1 := eName_any [80] W0 hg0.kw
  rw [name_p] at c1
  have c2 := varsMayBe_any v l W0 (hL.below B0 (Nat.le_refl _)) hlen hg0
  obtain ⟨a, n, cp, rfl⟩ : ∃ a n cp, v = .slice a n cp := by obtain ⟨a, b, off, cap, h, -⟩ := hL; exact ⟨a, _, cap, h⟩
  have q0 := hcell 0 _ rfl
  have q1 := hcell 1 _ rfl
  have q2 := hcell 2 _ rfl
  have HZ := hide hz
  have HB := hide B0
  have HW0 := hide hW0
  clear hcell hg0 hg hz hL hlen B0 hW0
  generalize (decide (l.length ≤ 64) && (l.map vrV).all varB) = R at *
  go_enter Tryz.func101, Tryz.ntmps101
  go_wp2_with fail
  rw [← HW0.out]
  refine c1.mono ?_
  rintro e w1 ⟨rfl, rfl⟩
  clear c1
  go_wp2_with fail
  refine c2.mono ?_
  rintro e w2 ⟨rfl, hb2⟩
  have HB2 := hide (HB.out.trans (hb2.mono HB.out.size))
  have q2' : w2.cell? ⟨w.heap.size, 2, none⟩ = some (.slice none 0 0) := (hb2.cell (p := ⟨w.heap.size, 2, none⟩) (by show w.heap.size < _; have := HZ.out; omega)).trans q2
  have c3 := stmtCheck_nil w2
  clear c2 hb2 q0 q1 q2
  cases R with
  | false =>
    clear c3
    go_wp2
    go_ret
    exact ⟨rfl, HB2.out⟩
  | true =>
    go_wp2_with fail
    refine c3.mono ?_
    rintro e w3 ⟨rfl, hb3⟩
    have HB3 := hide (HB2.out.trans (hb3.mono HB2.out.size))
    clear c3 hb3 q2'
    go_wp2
    go_ret
    exact ⟨rfl, HB3.out⟩
end Go.Proofs.YtldjiieckddhkaaGreatDoor
namespace Go.Proofs.YtldjiieckddhkaaGreatDoor.Four
open Go.RowKit
theorem hide {p : Prop} (h : p) : Hid p := h
theorem ret_bool {a b : Bool} (h : a = b) : Ending.returned (.bool a) = .returned (.bool b) := by rw [h]
theorem ret_int {k : IntKind} {a b : Int} (h : a = b) : Ending.returned (.int k a) = .returned (.int k b) := by rw [h]
set_option maxRecDepth 100000 in
theorem isType_any (t : Int) (w : World) : Calls Tryz.prog 32 #[.int .i64 t] w fun e w' => e = .returned (.bool (tyB t)) ∧ w' = w := by
  have E := hide (show tyB t = (decide (1 ≤ t) && decide (t ≤ 4)) from rfl)
  by_cases h1 : 1 ≤ t
  · by_cases h2 : t ≤ 4
    · rw [E.out, decide_eq_true h1, decide_eq_true h2]
      clear E
      go_enter Tryz.func32, Tryz.ntmps32
      go_wp2
      go_ret
      exact ⟨rfl, rfl⟩
    · rw [E.out, decide_eq_true h1, decide_eq_false h2]
      clear E
      go_enter Tryz.func32, Tryz.ntmps32
      go_wp2
      go_ret
      exact ⟨rfl, rfl⟩
  · rw [E.out, decide_eq_false h1]
    clear E
    go_enter Tryz.func32, Tryz.ntmps32
    go_wp2
    go_ret
    exact ⟨rfl, rfl⟩
set_option maxRecDepth 100000 in
theorem type_any (t : Int) (w : World) : Calls Tryz.prog 126 #[.int .i64 t] w fun e w' => e = .returned (.bool (tyB t)) ∧ w' = w := by
  have E := hide (show tyB t = (decide (1 ≤ t) && decide (t ≤ 4)) from rfl)
  by_cases h1 : 1 ≤ t
  · by_cases h2 : t ≤ 4
    · rw [E.out, decide_eq_true h1, decide_eq_true h2]
      clear E
      go_enter Tryz.func126, Tryz.ntmps126
      go_wp2
      go_ret
      exact ⟨rfl, rfl⟩
    · rw [E.out, decide_eq_true h1, decide_eq_false h2]
      clear E
      go_enter Tryz.func126, Tryz.ntmps126
      go_wp2
      go_ret
      exact ⟨rfl, rfl⟩
  · rw [E.out, decide_eq_false h1]
    clear E
    go_enter Tryz.func126, Tryz.ntmps126
    go_wp2
    go_ret
    exact ⟨rfl, rfl⟩
set_option maxRecDepth 100000 in
theorem truth_any (b : Bool) (w : World) : Calls Tryz.prog 67 #[.bool b] w fun e w' => e = .returned (.int .i64 (flagN b)) ∧ w' = w := by
  cases b
  all_goals
    go_enter Tryz.func67, Tryz.ntmps67
    go_wp2
    go_ret
    exact ⟨rfl, rfl⟩
set_option maxRecDepth 100000 in
theorem flag_any (b : Bool) (w : World) : Calls Tryz.prog 155 #[.bool b] w fun e w' => e = .returned (.int .i64 (flagN b)) ∧ w' = w := by
  cases b
  all_goals
    go_enter Tryz.func155, Tryz.ntmps155
    go_wp2
    go_ret
    exact ⟨rfl, rfl⟩
set_option maxRecDepth 100000 in
theorem size_any (t : Int) (w : World) : Calls Tryz.prog 127 #[.int .i64 t] w fun e w' => e = .returned (.int .i64 (szN t)) ∧ w' = w := by
  by_cases h : t = 2
  · subst h
    go_enter Tryz.func127, Tryz.ntmps127
    go_wp2
    go_ret
    exact ⟨rfl, rfl⟩
  · have E := hide (show szN t = 4294967296 by unfold szN; rw [if_neg h])
    go_enter Tryz.func127, Tryz.ntmps127
    go_wp2
    go_ret
    exact ⟨by rw [E.out]; rfl, rfl⟩
end Go.Proofs.YtldjiieckddhkaaGreatDoor.Four
namespace Go.Proofs.YtldjiieckddhkaaGreatDoor.Four
open Go.RowKit
theorem and_one (n : Int) : bits .and .i64 n 1 = n % 2 := by
  show IntKind.i64.wrap ((BitVec.ofInt 64 n &&& BitVec.ofInt 64 1).toNat : Int) = _
  rw [BitVec.toNat_and, ofInt_mod, show (BitVec.ofInt 64 1).toNat = 1 from rfl, Nat.and_one_is_mod]
  simp [IntKind.wrap, IntKind.bits, IntKind.signed]
  omega
theorem w64 {n : Int} (h1 : -9223372036854775808 ≤ n) (h2 : n < 9223372036854775808) : wrap64 n = n := by
  unfold wrap64; omega
theorem tmod_up (n m : Int) (hm : m = 65536 ∨ m = 4294967296) : (wrap64 (n.tmod m + m)).tmod m = n % m := by
  have h : n.tmod m = n % m ∨ n.tmod m = n % m - m := by
    rcases Int.le_total 0 n with h0 | h0
    · left; exact Int.tmod_eq_emod_of_nonneg h0
    · have e : (-n).tmod m = -(n.tmod m) := Int.neg_tmod n m
      rw [Int.tmod_eq_emod_of_nonneg (show 0 ≤ -n by omega)] at e
      rcases hm with rfl | rfl <;> omega
  have h2 : 0 ≤ n.tmod m + m ∧ n.tmod m + m < 9223372036854775808 ∧ (n.tmod m + m) % m = n % m := by
    rcases hm with rfl | rfl <;> omega
  rw [w64 (by omega) (by omega), Int.tmod_eq_emod_of_nonneg h2.1, h2.2.2]
theorem wr_i16 (n : Int) : wrap64 (IntKind.i16.wrap n) = wrN 2 n := by
  have e : IntKind.i16.wrap n = wrN 2 n := by
    unfold wrN
    rw [if_neg (by decide), show szN 2 = 65536 from rfl]
    simp [IntKind.wrap, IntKind.bits, IntKind.signed]
  obtain ⟨a, b⟩ := wr_range (t := 2) (by decide) n
  rw [show szN 2 = 65536 from rfl] at a b
  rw [e, w64 (by omega) (by omega)]
theorem wr_i32 {t : Int} (h1 : t ≠ 1) (h2 : t ≠ 2) (n : Int) : wrap64 (wrap32 n) = wrN t n := by
  have es : szN t = 4294967296 := by unfold szN; rw [if_neg h2]
  have e : wrap32 n = wrN t n := by
    unfold wrN wrap32
    rw [if_neg h1, es]
    split <;> omega
  obtain ⟨a, b⟩ := wr_range (t := t) h1 n
  rw [es] at a b
  rw [e, w64 (by omega) (by omega)]
set_option maxRecDepth 100000 in
theorem wrapped_any (t n : Int) (w : World) : Calls Tryz.prog 34 #[.int .i64 t, .int .i64 n] w fun e w' => e = .returned (.int .i64 (wrN t n)) ∧ w' = w := by
  by_cases h1 : t = 1
  · subst h1
    have E := hide ((wr_one n).trans (and_one n).symm)
    go_enter Tryz.func34, Tryz.ntmps34
    go_wp2
    go_ret
    exact ⟨by rw [E.out]; rfl, rfl⟩
  · by_cases h2 : t = 2
    · subst h2
      have E := hide (wr_i16 n).symm
      clear h1
      go_enter Tryz.func34, Tryz.ntmps34
      go_wp2
      go_ret
      exact ⟨by rw [E.out]; rfl, rfl⟩
    · have E := hide (wr_i32 h1 h2 n).symm
      go_enter Tryz.func34, Tryz.ntmps34
      go_wp2
      go_ret
      exact ⟨by rw [E.out]; rfl, rfl⟩
set_option maxRecDepth 100000 in
theorem wrappedR_any (t n : Int) (w : World) : Calls Tryz.prog 130 #[.int .i64 t, .int .i64 n] w fun e w' => e = .returned (.int .i64 (wrN t n)) ∧ w' = w := by
  by_cases h1 : t = 1
  · subst h1
    have E := hide ((wr_one n).trans (and_one n).symm)
    go_enter Tryz.func130, Tryz.ntmps130
    go_wp2
    go_ret
    exact ⟨by rw [E.out]; rfl, rfl⟩
  · have c := size_any t
    have hs := sz_pos t
    have E := hide (show wrN t n = if szN t / 2 ≤ n % szN t then n % szN t - szN t else n % szN t by unfold wrN; rw [if_neg h1])
    generalize szN t = m at *
    have T := hide (tmod_up n m hs)
    rcases hs with rfl | rfl
    · go_enter Tryz.func130, Tryz.ntmps130
      go_wp2_with fail
      refine (c _).mono ?_
      rintro e w1 ⟨rfl, rfl⟩
      go_wp2
      · next h =>
        rw [T.out] at h
        go_ret
        exact ⟨by rw [E.out, if_pos (by omega), ← w64 (n := n % 65536 - 65536) (by omega) (by omega), ← T.out]; rfl, rfl⟩
      · next h =>
        rw [T.out] at h
        go_ret
        exact ⟨by rw [E.out, if_neg (by omega), ← T.out]; rfl, rfl⟩
    · go_enter Tryz.func130, Tryz.ntmps130
      go_wp2_with fail
      refine (c _).mono ?_
      rintro e w1 ⟨rfl, rfl⟩
      go_wp2
      · next h =>
        rw [T.out] at h
        go_ret
        exact ⟨by rw [E.out, if_pos (by omega), ← w64 (n := n % 4294967296 - 4294967296) (by omega) (by omega), ← T.out]; rfl, rfl⟩
      · next h =>
        rw [T.out] at h
        go_ret
        exact ⟨by rw [E.out, if_neg (by omega), ← T.out]; rfl, rfl⟩
end Go.Proofs.YtldjiieckddhkaaGreatDoor.Four
namespace Go.Proofs.YtldjiieckddhkaaGreatDoor.Four
open Go.RowKit
/-- the table of spans lies in memory -/
def Glo (w : World) : Prop := ∀ k (h : k < 10), w.cell? ⟨0, k, none⟩ = some (.int .i64 ([0, 0, 0, 1, -32768, 32767, -2147483648, 2147483647, -2147483648, 2147483647][k]'h))
theorem Glo.below {B : Nat} {w w' : World} (h : Glo w) (hb : Below B w w') (hB : 0 < B) : Glo w' := fun t ht => (hb.cell (p := ⟨0, t, none⟩) hB).trans (h t ht)
theorem Glo.lt {w : World} (h : Glo w) : 0 < w.heap.size := World.block_lt_of_cell? w _ (h 0 (by omega))
theorem fit_span (t n : Int) : fitB t n = (tyB t && (decide (([0, 0, -32768, -2147483648, -2147483648] : List Int).getD t.toNat 0 ≤ n) && decide (n ≤ ([0, 1, 32767, 2147483647, 2147483647] : List Int).getD t.toNat 0))) := by
  by_cases h1 : 1 ≤ t
  · by_cases h4 : t ≤ 4
    · have : t = 1 ∨ t = 2 ∨ t = 3 ∨ t = 4 := by omega
      rcases this with rfl | rfl | rfl | rfl
      · unfold fitB
        rw [if_pos rfl]
        show _ = (true && (decide ((0 : Int) ≤ n) && decide (n ≤ 1)))
        rw [Bool.eq_iff_iff]; simp; omega
      · unfold fitB
        rw [if_neg (by decide)]
        show (true && (decide (-(65536 / 2 : Int) ≤ n) && decide (n < 65536 / 2))) = (true && (decide ((-32768 : Int) ≤ n) && decide (n ≤ 32767)))
        rw [Bool.eq_iff_iff]; simp; omega
      all_goals
        unfold fitB
        rw [if_neg (by decide)]
        show (true && (decide (-(4294967296 / 2 : Int) ≤ n) && decide (n < 4294967296 / 2))) = (true && (decide ((-2147483648 : Int) ≤ n) && decide (n ≤ 2147483647)))
        rw [Bool.eq_iff_iff]; simp; omega
    · have e : tyB t = false := by unfold tyB; rw [decide_eq_false h4, Bool.and_false]
      unfold fitB; rw [if_neg (by omega), e]; rfl
  · have e : tyB t = false := by unfold tyB; rw [decide_eq_false h1]; rfl
    unfold fitB; rw [if_neg (by omega), e]; rfl
set_option maxRecDepth 100000 in
theorem fits_any (t n : Int) (w : World) (hg : Glo w) : Calls Tryz.prog 19 #[.int .i64 t, .int .i64 n] w fun e w' => e = .returned (.bool (fitB t n)) ∧ w' = w := by
  have E := hide (fit_span t n)
  have c := isType_any t
  by_cases ht : tyB t = true
  · rw [ht] at c
    rw [E.out, ht, Bool.true_and]
    have : t = 1 ∨ t = 2 ∨ t = 3 ∨ t = 4 := by
      unfold tyB at ht
      rw [Bool.and_eq_true] at ht
      have h1 := of_decide_eq_true ht.1
      have h2 := of_decide_eq_true ht.2
      omega
    have g0 := hg 2 (by omega)
    have g1 := hg 3 (by omega)
    have g2 := hg 4 (by omega)
    have g3 := hg 5 (by omega)
    have g4 := hg 6 (by omega)
    have g5 := hg 7 (by omega)
    have g6 := hg 8 (by omega)
    have g7 := hg 9 (by omega)
    clear E ht hg
    rcases this with rfl | rfl | rfl | rfl
    all_goals
      go_enter Tryz.func19, Tryz.ntmps19
      go_wp2_with fail
      refine (c _).mono ?_
      rintro e w1 ⟨rfl, rfl⟩
      go_wp2
    all_goals
      go_ret
      refine ⟨ret_bool ?_, rfl⟩
      simp
      omega
  · rw [Bool.not_eq_true] at ht
    rw [ht] at c
    rw [E.out, ht]
    clear E hg ht
    go_enter Tryz.func19, Tryz.ntmps19
    go_wp2_with fail
    refine (c _).mono ?_
    rintro e w1 ⟨rfl, rfl⟩
    go_wp2
    go_ret
    exact ⟨rfl, rfl⟩
end Go.Proofs.YtldjiieckddhkaaGreatDoor.Four
namespace Go.Proofs.YtldjiieckddhkaaGreatDoor.Four
open Go.RowKit
set_option maxRecDepth 100000 in
theorem fitsR_any (t n : Int) (w : World) : Calls Tryz.prog 89 #[.int .i64 t, .int .i64 n] w fun e w' => e = .returned (.bool (fitB t n)) ∧ w' = w := by
  by_cases h1 : t = 1
  · subst h1
    have E := hide (show fitB 1 n = (decide (n = 0) || decide (n = 1)) by unfold fitB; rw [if_pos rfl])
    go_enter Tryz.func89, Tryz.ntmps89
    go_wp2
    all_goals
      go_ret
      refine ⟨ret_bool ?_, rfl⟩
      rw [E.out]
      clear E
      rw [Bool.eq_iff_iff]
      simp [*]
  · have E := hide (show fitB t n = (tyB t && (decide (-(szN t / 2) ≤ n) && decide (n < szN t / 2))) by unfold fitB; rw [if_neg h1])
    have c := type_any t
    have d := size_any t
    have hs := sz_pos t
    generalize szN t = m at *
    cases hT : tyB t with
    | false =>
      rw [hT] at c E
      clear hT d hs
      go_enter Tryz.func89, Tryz.ntmps89
      go_wp2_with fail
      refine (c _).mono ?_
      rintro e w1 ⟨rfl, rfl⟩
      go_wp2
      go_ret
      exact ⟨ret_bool (by rw [E.out]; rfl), rfl⟩
    | true =>
      rw [hT, Bool.true_and] at E
      rw [hT] at c
      clear hT
      rcases hs with rfl | rfl
      all_goals
        go_enter Tryz.func89, Tryz.ntmps89
        go_wp2_with fail
        refine (c _).mono ?_
        rintro e w1 ⟨rfl, rfl⟩
        go_wp2_with fail
        refine (d _).mono ?_
        rintro e w1 ⟨rfl, rfl⟩
        go_wp2_with fail
        · refine (d _).mono ?_
          rintro e w1 ⟨rfl, rfl⟩
          go_wp2
          all_goals
            go_ret
            refine ⟨ret_bool ?_, rfl⟩
            rw [E.out]
            simp
            omega
        all_goals
          go_ret
          refine ⟨ret_bool ?_, rfl⟩
          rw [E.out]
          simp
          omega
/-- which types an operation's row is for: the bit 1 << t -/
def bitT (s t : Int) : Bool := tyB t && (s / 2 ^ t.toNat % 2 == 1)
set_option maxRecDepth 100000 in
theorem has_any (s t : Int) (hs : s = 28 ∨ s = 12 ∨ s = 14 ∨ s = 30 ∨ s = 0) (w : World) : Calls Tryz.prog 75 #[.int .u8 s, .int .i64 t] w fun e w' => e = .returned (.bool (bitT s t)) ∧ w' = w := by
  have c := isType_any t
  cases hT : tyB t with
  | false =>
    have E := hide (show bitT s t = false by unfold bitT; rw [hT]; rfl)
    rw [hT] at c
    clear hT
    go_enter Tryz.func75, Tryz.ntmps75
    go_wp2_with fail
    refine (c _).mono ?_
    rintro e w1 ⟨rfl, rfl⟩
    go_wp2
    go_ret
    exact ⟨ret_bool (by rw [E.out]), rfl⟩
  | true =>
    have ht : t = 1 ∨ t = 2 ∨ t = 3 ∨ t = 4 := by
      unfold tyB at hT
      rw [Bool.and_eq_true] at hT
      have h1 := of_decide_eq_true hT.1
      have h2 := of_decide_eq_true hT.2
      omega
    rw [hT] at c
    clear hT
    rcases ht with rfl | rfl | rfl | rfl <;> rcases hs with rfl | rfl | rfl | rfl | rfl
    all_goals
      go_enter Tryz.func75, Tryz.ntmps75
      go_wp2_with fail
      refine (c _).mono ?_
      rintro e w1 ⟨rfl, rfl⟩
      go_wp2
      go_ret
      exact ⟨ret_bool (by decide +kernel), rfl⟩
end Go.Proofs.YtldjiieckddhkaaGreatDoor.Four
