/- A slice of tokens among the arguments, opened; what the longer list of tables gives; a world that shows that it can be met. -/
import Derived.Test.YtfcnbiikjopajaaDoorFrame
import Derived.Test.YtfcnbiikjopajaaDoorShwP
import Derived.Deep.Slices
import Derived.LaidLaws
import Derived.SizedLaws
namespace Go.Proofs.YtfcnbiikjopajaaDoor
open Go.ChangeShapes Go.WideShapes Go.ChangeAt Go.RowKit
theorem laidOut : laidOutB Tryd.prog = true := by kernel_rfl
theorem cells41 : Tryd.prog.cellsOf 41 = 5 := by kernel_rfl
theorem bytes41 : Tryd.prog.bytesOf 41 = 48 := by kernel_rfl
theorem five {α : Type} {l : List α} (h : l.length = 5) : ∃ a b c d e, l = [a, b, c, d, e] := by
  match l, h with
  | [a, b, c, d, e], _ => exact ⟨a, b, c, d, e, rfl⟩
theorem wf_int {n : Int} (hw : (Lit.int .i64 n).wf = true) : -9223372036854775808 ≤ n ∧ n ≤ 9223372036854775807 := by
  have h : (decide (IntKind.i64.min ≤ n) && decide (n ≤ IntKind.i64.max)) = true := hw
  rw [Bool.and_eq_true] at h
  exact ⟨of_decide_eq_true h.1, of_decide_eq_true h.2⟩
/-- a token's data -/
def tvD {H : Type} (y : Tv) : DataW H := .agg [.lit (.int .i64 y.k), .lit (.string y.s.data.toList), .lit (.int .i64 y.n), .lit (.int .i64 y.t), .lit (.int .i64 y.at_)]
theorem open_tokens {H : Type} {enc : TypeId × Value → H} {W : World} {fuel len cap : Nat} {a : Option Addr} {x : DataW H × List MemPlace} {cs : List Value} (h : DataW.trod enc Tryd.prog W 0 (fun _ => true) true fuel 22 cs = some x) (hcs0 : cs = [.slice a len cap]) :
    ∃ l : List Tv, l.length = len ∧ len ≤ cap ∧ Lst W (.slice a len cap) l ∧ (∀ y ∈ l, -9223372036854775808 ≤ y.n ∧ y.n ≤ 9223372036854775807) ∧ ((x.1 = .nil ∧ len = 0) ∨ ∃ el sp, x.1 = .slice el sp ∧ el = l.map tvD) := by
  subst hcs0
  rcases Deep.open_slice Tryd.underlying22 h with ⟨hcs, rfl⟩ | ⟨a', len', cap', m, n, D, Pl, hcs, hb, hl, hm, hmm, rfl, hx⟩
  · simp at hcs
    obtain ⟨rfl, rfl, rfl⟩ := hcs
    exact ⟨[], rfl, Nat.le_refl _, ⟨none, 0, 0, 0, rfl, fun h => absurd h (Nat.lt_irrefl 0), fun i x hx => (by cases hx)⟩, fun y hy => (by cases hy), .inl ⟨rfl, rfl⟩⟩
  · simp at hcs
    obtain ⟨rfl, rfl, rfl⟩ := hcs
    simp only [if_true] at hmm
    subst hmm
    rw [cells41] at hx
    have each : ∀ i, i < len → ∃ y : Tv, W.cell? (a'.add (i * 5)) = some (.int .i64 y.k) ∧ W.cell? (a'.add (i * 5 + 1)) = some (.string y.s) ∧ W.cell? (a'.add (i * 5 + 2)) = some (.int .i64 y.n) ∧ W.cell? (a'.add (i * 5 + 3)) = some (.int .i64 y.t) ∧ W.cell? (a'.add (i * 5 + 4)) = some (.int .i64 y.at_) ∧ (-9223372036854775808 ≤ y.n ∧ y.n ≤ 9223372036854775807) ∧ D i = tvD y := fun i hi => by
      obtain ⟨cs', h1, h2⟩ := hx i (by omega)
      obtain ⟨_, hlen, hcell⟩ := World.cells?_some h1
      obtain ⟨xs, k, hk, hxy, _, hxl, hf⟩ := DataW.trod_struct Tryd.underlying41 h2
      obtain ⟨v0, v1, v2, v3, v4, rfl⟩ := five hlen
      obtain ⟨y0, y1, y2, y3, y4, rfl⟩ := five hxl
      have g0 := hf 0 _ rfl
      have g1 := hf 1 _ rfl
      have g2 := hf 2 _ rfl
      have g3 := hf 3 _ rfl
      have g4 := hf 4 _ rfl
      have g0' : DataW.trod enc Tryd.prog W 0 (fun _ => true) true k 3 [v0] = some y0 := by simpa [cells3] using g0
      have g1' : DataW.trod enc Tryd.prog W 0 (fun _ => true) true k 9 [v1] = some y1 := by simpa [cells9] using g1
      have g2' : DataW.trod enc Tryd.prog W 0 (fun _ => true) true k 2 [v2] = some y2 := by simpa [cells2] using g2
      have g3' : DataW.trod enc Tryd.prog W 0 (fun _ => true) true k 3 [v3] = some y3 := by simpa [cells3] using g3
      have g4' : DataW.trod enc Tryd.prog W 0 (fun _ => true) true k 3 [v4] = some y4 := by simpa [cells3] using g4
      obtain ⟨z0, e0, E0, _⟩ := DataW.trod_int Tryd.underlying3 g0'
      obtain ⟨s, e1, E1, _⟩ := DataW.trod_string Tryd.underlying9 g1'
      obtain ⟨z2, e2, E2, hw⟩ := DataW.trod_int Tryd.underlying2 g2'
      obtain ⟨z3, e3, E3, _⟩ := DataW.trod_int Tryd.underlying3 g3'
      obtain ⟨z4, e4, E4, _⟩ := DataW.trod_int Tryd.underlying3 g4'
      have d0 := hcell 0 (by omega)
      have d1 := hcell 1 (by omega)
      have d2 := hcell 2 (by omega)
      have d3 := hcell 3 (by omega)
      have d4 := hcell 4 (by omega)
      rw [Deep.add_add] at d0 d1 d2 d3 d4
      injection e0 with e0
      injection e1 with e1
      injection e2 with e2
      injection e3 with e3
      injection e4 with e4
      subst e0 e1 e2 e3 e4
      refine ⟨⟨z0, s, z2, z3, z4⟩, d0, d1, d2, d3, d4, wf_int hw, ?_⟩
      have hd := congrArg Prod.fst hxy
      simp only [List.map_cons, List.map_nil] at hd
      rw [hd, E0, E1, E2, E3, E4]
      rfl
    obtain ⟨f, hf⟩ := @Deep.choose_lt Tv ⟨⟨0, ⟨#[]⟩, 0, 0, 0⟩⟩ _ _ each
    refine ⟨(List.range len).map f, by simp, hl, ?_, ?_, .inr ⟨_, _, rfl, ?_⟩⟩
    · by_cases hl0 : len = 0
      · subst hl0
        exact ⟨some a', 0, 0, m, rfl, fun h => absurd h (Nat.lt_irrefl 0), fun i x hx => by cases hx⟩
      · obtain ⟨b, off, spot⟩ := a'
        have hspot : spot = none := by simpa [Addr.add] using World.cell?_spot (hf 0 (by omega)).1
        subst hspot
        have hbW : b < W.heap.size := World.block_lt_of_cell? W _ (by have := (hf 0 (by omega)).1; rwa [Addr.add_mid] at this)
        refine ⟨some ⟨b, off, none⟩, b, off, m, by simp, fun _ => ⟨hbW, rfl⟩, fun i y hy => ?_⟩
        have hi : i < len := by have := (List.getElem?_eq_some_iff.1 hy).1; simpa using this
        have hfy : f i = y := by simpa [hi] using hy
        obtain ⟨q0, q1, q2, q3, q4, _⟩ := hf i hi
        rw [Addr.add_mid] at q0 q1 q2 q3 q4
        rw [hfy] at q0 q1 q2 q3 q4
        exact ⟨q0, by rw [Nat.add_assoc]; exact q1, by rw [Nat.add_assoc]; exact q2, by rw [Nat.add_assoc]; exact q3, by rw [Nat.add_assoc]; exact q4⟩
    · intro y hy
      obtain ⟨i, hi, rfl⟩ := List.mem_map.1 hy
      exact (hf i (List.mem_range.1 hi)).2.2.2.2.2.1
    · rw [List.map_map]
      exact List.map_congr_left fun i hi => (hf i (List.mem_range.1 hi)).2.2.2.2.2.2
theorem weights_all {H : Type} {P : Program} {e : TypeId} : ∀ {ds : List (DataW H)} {d : DataW H}, d ∈ ds → ∀ n ∈ d.weights P e, n ∈ DataW.weightsAll P e ds
  | c :: ds, d, hd, n, hn => by
    simp only [DataW.weightsAll, List.mem_append]
    rcases List.mem_cons.1 hd with rfl | hd
    · exact .inl hn
    · exact .inr (weights_all hd n hn)
theorem okV_of {H : Type} {ts : List TypeId} {ds : List (DataW H)} {j : Nat} {l : List Tv} {el sp : List (DataW H)} (hsz : (DataW.weightsEach Tryd.prog ts ds).all (· ≤ reachBytes) = true) (ht : ts[j]? = some 22) (hd : ds[j]? = some (.slice el sp)) (he : el = l.map tvD)
    (hn : ∀ y ∈ l, -9223372036854775808 ≤ y.n ∧ y.n ≤ 9223372036854775807) : OkV l := by
  have hr : reachBytes = 140737488351232 := by decide
  refine ⟨?_, fun x hx => ⟨?_, hn x hx⟩⟩
  · have h := sized_slice hsz ht hd Tryd.underlying22
    rw [bytes41, he, List.length_map, hr] at h
    omega
  · have hm : x.s.data.toList.length ∈ (tvD (H := H) x).weights Tryd.prog 41 := by
      simp only [tvD, DataW.weights, Tryd.underlying41]
      refine List.mem_append_right _ (List.mem_append_left _ ?_)
      simp only [DataW.weights]
      exact List.mem_singleton.2 rfl
    have h := List.all_eq_true.1 hsz _ (DataW.weights_mem_each ht hd x.s.data.toList.length (by
      simp only [DataW.weights, Tryd.underlying22, List.mem_cons, List.mem_append]
      exact .inr (.inl (weights_all (by rw [he]; exact List.mem_map_of_mem hx) _ hm))))
    rw [hr] at h
    have := of_decide_eq_true h
    rw [Array.length_toList] at this
    exact this
/-! the longer list of tables -/
abbrev laid8 : List (String × DataW Unit) := [("math/bits.deBruijn32tab", Rows.laid_math_bits_deBruijn32tab), ("math/bits.deBruijn64tab", Rows.laid_math_bits_deBruijn64tab), ("internal/strconv.uint64pow10", Rows.laid_internal_strconv_uint64pow10), ("capstan/num.spans", Rows.laid_capstan_num_spans), ("capstan/lex.signs", Rows.laid_capstan_lex_signs), ("capstan/lex.bases", Rows.laid_capstan_lex_bases), ("capstan/lex.typeNames", Rows.laid_capstan_lex_typeNames), ("capstan/lex.units", Rows.laid_capstan_lex_units)]
theorem tabIs_of_reads {P : Program} {W : World} {name : String} {k : IntKind} {zs : List Int} {g : Nat} {t e : TypeId} {n : Nat}
    (hg : P.globalNamed name = some g) (hty : (P.globals[g]?).map (·.type) = some t) (ht : P.underlying t = some (.array n e)) (he : P.underlying e = some (.int k)) (hce : P.cellsOf e = 1) (hct : P.cellsOf t = n)
    (h : Lib.VarReads P W name (Lib.tabData k zs)) : Lib.TabIs P W name k zs := by
  obtain ⟨g', t', cs, fuel, p, hg', ht', hvar, hd⟩ := h
  obtain rfl := Option.some.inj (hg.symm.trans hg')
  obtain rfl := Option.some.inj (hty.symm.trans ht')
  have := Lib.cells_of_tab ht he hce hct hd
  unfold Lib.TabIs
  rw [hvar, ← this]
theorem tabIs_below {P : Program} {w w' : World} {name : String} {k : IntKind} {zs : List Int} {g B : Nat} (hg : P.globalNamed name = some g) (hB : g < B) (h : Lib.TabIs P w name k zs) (hb : Below B w w') : Lib.TabIs P w' name k zs := by
  unfold Lib.TabIs World.var? at h ⊢
  rw [hg] at h ⊢
  simp only [Option.bind_some] at h ⊢
  rw [hb.block g hB]
  exact h
theorem cells38 : Tryd.prog.cellsOf 38 = 1 := by kernel_rfl
theorem cells5 : Tryd.prog.cellsOf 5 = 1 := by kernel_rfl
def bruijn : List Int := [0, 1, 56, 2, 57, 49, 28, 3, 61, 58, 42, 50, 38, 29, 17, 4, 62, 47, 59, 36, 45, 43, 51, 22, 53, 39, 33, 30, 24, 18, 12, 5, 63, 55, 48, 27, 60, 41, 37, 16, 46, 35, 44, 21, 52, 32, 23, 11, 54, 26, 40, 15, 34, 20, 31, 10, 25, 14, 19, 9, 13, 8, 7, 6]
theorem lay3_of {W : World} (h : laidMet Tryd.prog laid8 W) : Lay3 W := by
  have r1 := Lib.laidMet.reads h (n := "internal/strconv.uint64pow10") (d := Rows.laid_internal_strconv_uint64pow10) (List.mem_cons_of_mem _ (List.mem_cons_of_mem _ List.mem_cons_self))
  have r2 := Lib.laidMet.reads h (n := "math/bits.deBruijn64tab") (d := Rows.laid_math_bits_deBruijn64tab) (List.mem_cons_of_mem _ List.mem_cons_self)
  have g6 : Tryd.prog.globalNamed "internal/strconv.uint64pow10" = some 6 := by kernel_rfl
  have g8 : Tryd.prog.globalNamed "math/bits.deBruijn64tab" = some 8 := by kernel_rfl
  have t1 : Lib.TabIs Tryd.prog W "internal/strconv.uint64pow10" .u64 Lib.pow10Tab := tabIs_of_reads g6 (by kernel_rfl) Tryd.underlying123 Tryd.underlying38 cells38 (by kernel_rfl) r1
  have t2 : Lib.TabIs Tryd.prog W "math/bits.deBruijn64tab" .u8 bruijn := tabIs_of_reads g8 (by kernel_rfl) Tryd.underlying130 Tryd.underlying5 cells5 (by kernel_rfl) r2
  have c : W.cell? ⟨8, 15, none⟩ = some (.int .u8 4) := t2.cell g8 15 (by decide)
  have h8 : 8 < W.heap.size := World.block_lt_of_cell? W _ c
  exact ⟨fun W' hb => tabIs_below g6 (Nat.lt_trans (by decide) h8) t1 hb, c, h8⟩
theorem glo8_of_laid {W : World} (h : laidMetH Tryd.prog laid8 W) (hs : W.ShapedOpen Tryd.prog) : Glo W ∧ Lay3 W :=
  ⟨glo_of_met (l := laid8) h (fun _ hx => List.mem_cons_of_mem _ (List.mem_cons_of_mem _ (List.mem_cons_of_mem _ hx))) hs, lay3_of h⟩
/-- the tables laid into a world's first blocks -/
def layGlo8 (w : World) : World :=
  let lay (k : Nat) (t : List Value) (w : World) : World := { w with heap := w.heap.modify k fun
      | .cells _ ty frozen => .cells t.toArray ty frozen
      | o => o }
  lay 6 (Lib.pow10Tab.map fun z => .int .u64 z) (lay 7 ([0, 1, 28, 2, 29, 14, 24, 3, 30, 22, 20, 15, 25, 17, 4, 8, 31, 27, 13, 23, 21, 19, 16, 7, 26, 12, 18, 6, 11, 5, 10, 9].map fun z => .int .u8 z) (lay 8 (bruijn.map fun z => .int .u8 z) (layGlo w)))
end Go.Proofs.YtfcnbiikjopajaaDoor
