/- What the rows' list gives: the program's tables lie in memory; a world that shows that the list can be met; an instruction among the arguments. | verify: a walk in memory. | Short forms of the kit's laws on drawn regions. -/
import Derived.Test.YtlckedionmgjjaaDoorCards
import Derived.Test.YtlckedionmgjjaaDoorTie
import Derived.Test.YtlckedionmgjjaaDoorMg9
import Derived.Test.YtlckedionmgjjaaDoorMg13
import Derived.WalkKit
import Derived.ProofKit
import Derived.OpenShut
import Derived.Deep.DeepHandedRow
import Derived.Lib.LaidTab
import Derived.Lib.LaidU8
import Derived.Lib.SmallJoins
import Derived.Shelf.LaysM
import Derived.Stop.BytesEq
import Derived.Deep.RegionHeldLaw
namespace Go.Proofs.YtlckedionmgjjaaDoor
open Go.ChangeShapes Go.WideShapes Go.ChangeAt Go.RowKit

theorem own : ownKnob Tryd.prog.godebug = none := by kernel_rfl
theorem cells9 : Tryd.prog.cellsOf 9 = 1 := by kernel_rfl
theorem cells2 : Tryd.prog.cellsOf 2 = 1 := by kernel_rfl
theorem cells3 : Tryd.prog.cellsOf 3 = 1 := by kernel_rfl
theorem text_of {s : ByteArray} {l : List UInt8} (h : s.data.toList = l) : s = ⟨l.toArray⟩ := by cases s; subst h; rfl
theorem ii_cells {H : Type} {enc : TypeId × Value → H} {W : World} {base : Nat} {sp : Nat → Bool} {held : Bool} {fuel : Nat} {cs : List Value} {x : DataW H × List MemPlace} {t : TypeId} {a b : Int} {f0 f1 : Field}
    (hu : Tryd.prog.underlying t = some (.struct #[f0, f1])) (hf0 : f0.type = 2) (ho0 : f0.offset = 0) (hf1 : f1.type = 2) (ho1 : f1.offset = 1)
    (h : DataW.trod enc Tryd.prog W base sp held fuel t cs = some x) (hx : x.1 = .agg [.lit (.int .i64 a), .lit (.int .i64 b)]) : cs[0]? = some (.int .i64 a) ∧ cs[1]? = some (.int .i64 b) := by
  obtain ⟨y0, y1, n, rfl, _, h0, h1⟩ := trod_struct2 hu h
  simp only [DataW.agg.injEq, List.cons.injEq, and_true] at hx
  rw [hf0, ho0] at h0
  rw [hf1, ho1] at h1
  obtain ⟨z0, c0, e0, _⟩ := DataW.trod_int Tryd.underlying2 h0
  obtain ⟨z1, c1, e1, _⟩ := DataW.trod_int Tryd.underlying2 h1
  rw [e0, e1] at hx
  simp only [DataW.lit.injEq, Lit.int.injEq, true_and] at hx
  obtain ⟨rfl, rfl⟩ := hx
  rw [cells2] at c0 c1
  constructor
  · have := congrArg (·[0]?) c0
    simpa [List.getElem?_take, List.getElem?_drop] using this
  · have := congrArg (·[0]?) c1
    simpa [List.getElem?_take, List.getElem?_drop] using this
theorem tab_pairs {W : World} {name : String} {g : Nat} {ty ety : TypeId} {n : Nat} (rows : List (DataW Unit × Value × Value)) (hg : Tryd.prog.globalNamed name = some g) (hty : (Tryd.prog.globals[g]?).map (·.type) = some ty)
    (hu : Tryd.prog.underlying ty = some (.array n ety)) (hc : Tryd.prog.cellsOf ety = 2) (hn : rows.length = n)
    (hrow : ∀ r ∈ rows, ∀ fuel cs x, DataW.trod (fun _ => ()) Tryd.prog W 0 (fun _ => true) false fuel ety cs = some x → x.1 = r.1 → cs[0]? = some r.2.1 ∧ cs[1]? = some r.2.2)
    (h : Lib.VarReads Tryd.prog W name (.agg (rows.map (·.1)))) : Ex.TabAt W g (rows.flatMap fun r => [r.2.1, r.2.2]) := by
  obtain ⟨g', t', cs, fuel, p, h1, h2, h3, h4⟩ := h
  obtain rfl := Option.some.inj (hg.symm.trans h1)
  obtain rfl := Option.some.inj (hty.symm.trans h2)
  obtain ⟨xs, m, _, hx, hl, hxn, hi⟩ := DataW.trod_array hu h4
  rw [hc] at hi
  simp only [Prod.mk.injEq] at hx
  have hmap : xs.map (·.1) = rows.map (·.1) := by
    have := hx.1
    rw [DataW.agg.injEq] at this
    exact this.symm
  have each : ∀ i (r : DataW Unit × Value × Value), rows[i]? = some r → cs.toList[i * 2]? = some r.2.1 ∧ cs.toList[i * 2 + 1]? = some r.2.2 := fun i r hr => by
    have hin : i < n := by rw [← hn]; exact (List.getElem?_eq_some_iff.1 hr).1
    have e : (xs.map (·.1))[i]? = some r.1 := by rw [hmap, List.getElem?_map, hr]; rfl
    obtain ⟨x, hxi, hxe⟩ : ∃ x, xs[i]? = some x ∧ x.1 = r.1 := by
      rw [List.getElem?_map, Option.map_eq_some_iff] at e; exact e
    have hh := hi i hin
    rw [hxi] at hh
    obtain ⟨c0, c1⟩ := hrow r (List.mem_of_getElem? hr) _ _ x hh hxe
    constructor
    · simpa [List.getElem?_take, List.getElem?_drop] using c0
    · simpa [List.getElem?_take, List.getElem?_drop] using c1
  intro k v hk
  have hcell := World.var?_cell hg h3 k
  rw [show W.cell? ⟨g, k, none⟩ = cs[k]? from by simpa using hcell]
  have key : ∀ (rs : List (DataW Unit × Value × Value)) (k : Nat) (v : Value), (rs.flatMap fun r => [r.2.1, r.2.2])[k]? = some v → ∃ i r, rs[i]? = some r ∧ ((k = i * 2 ∧ v = r.2.1) ∨ (k = i * 2 + 1 ∧ v = r.2.2)) := by
    intro rs
    induction rs with
    | nil => intro k v h; simp at h
    | cons r rs ih =>
      intro k v h
      match k, h with
      | 0, h => exact ⟨0, r, rfl, .inl ⟨rfl, by simpa using h.symm⟩⟩
      | 1, h => exact ⟨0, r, rfl, .inr ⟨rfl, by simpa using h.symm⟩⟩
      | k + 2, h =>
        obtain ⟨i, r', h1, h2⟩ := ih k v (by simpa using h)
        refine ⟨i + 1, r', by simpa using h1, ?_⟩
        rcases h2 with ⟨h2, h3⟩ | ⟨h2, h3⟩
        · exact .inl ⟨by omega, h3⟩
        · exact .inr ⟨by omega, h3⟩
  obtain ⟨i, r, hr, ⟨rfl, rfl⟩ | ⟨rfl, rfl⟩⟩ := key rows k v hk
  · have := (each i r hr).1
    simpa using this
  · have := (each i r hr).2
    simpa using this
theorem tab_texts {W : World} {name : String} {g : Nat} {ty : TypeId} {n : Nat} (rows : List (List UInt8)) (hg : Tryd.prog.globalNamed name = some g) (hty : (Tryd.prog.globals[g]?).map (·.type) = some ty)
    (hu : Tryd.prog.underlying ty = some (.array n 9)) (hn : rows.length = n)
    (h : Lib.VarReads Tryd.prog W name (.agg (rows.map fun r => .lit (.string r)))) : Ex.TabAt W g (rows.map fun r => .string ⟨r.toArray⟩) := by
  obtain ⟨g', t', cs, fuel, p, h1, h2, h3, h4⟩ := h
  obtain rfl := Option.some.inj (hg.symm.trans h1)
  obtain rfl := Option.some.inj (hty.symm.trans h2)
  obtain ⟨xs, m, _, hx, hl, hxn, hi⟩ := DataW.trod_array hu h4
  rw [cells9] at hi
  simp only [Prod.mk.injEq] at hx
  have hmap : xs.map (·.1) = rows.map fun r => .lit (.string r) := by
    have := hx.1
    rw [DataW.agg.injEq] at this
    exact this.symm
  intro k v hk
  have hcell := World.var?_cell hg h3 k
  rw [show W.cell? ⟨g, k, none⟩ = cs[k]? from by simpa using hcell]
  rw [List.getElem?_map, Option.map_eq_some_iff] at hk
  obtain ⟨r, hr, rfl⟩ := hk
  have hin : k < n := by rw [← hn]; exact (List.getElem?_eq_some_iff.1 hr).1
  have e : (xs.map (·.1))[k]? = some (.lit (.string r)) := by rw [hmap, List.getElem?_map, hr]; rfl
  obtain ⟨x, hxi, hxe⟩ : ∃ x, xs[k]? = some x ∧ x.1 = .lit (.string r) := by
    rw [List.getElem?_map, Option.map_eq_some_iff] at e; exact e
  have hh := hi k hin
  rw [hxi] at hh
  obtain ⟨z0, c0, e0, _⟩ := DataW.trod_string Tryd.underlying9 hh
  rw [e0] at hxe
  simp only [DataW.lit.injEq, Lit.string.injEq] at hxe
  rw [text_of hxe] at c0
  have := congrArg (·[0]?) c0
  simpa [List.getElem?_take, List.getElem?_drop] using this
def iiRow (a b : Int) : DataW Unit × Value × Value := (.agg [.lit (.int .i64 a), .lit (.int .i64 b)], .int .i64 a, .int .i64 b)
theorem tabIs_of_reads {P : Program} {W : World} {name : String} {k : IntKind} {zs : List Int} {g : Nat} {t e : TypeId} {n : Nat}
    (hg : P.globalNamed name = some g) (hty : (P.globals[g]?).map (·.type) = some t) (ht : P.underlying t = some (.array n e)) (he : P.underlying e = some (.int k)) (hce : P.cellsOf e = 1) (hct : P.cellsOf t = n)
    (h : Lib.VarReads P W name (Lib.tabData k zs)) : Lib.TabIs P W name k zs := by
  obtain ⟨g', t', cs, fuel, p, hg', ht', hvar, hd⟩ := h
  obtain rfl := Option.some.inj (hg.symm.trans hg')
  obtain rfl := Option.some.inj (hty.symm.trans ht')
  have := Lib.cells_of_tab ht he hce hct hd
  unfold Lib.TabIs
  rw [hvar, ← this]
abbrev laid3 : List (String × DataW Unit) := [("math/bits.deBruijn64tab", Rows.laid_math_bits_deBruijn64tab), ("capstan/num.spans", Rows.laid_capstan_num_spans), ("capstan/expr.keywords", Rows.laid_capstan_expr_keywords)]
def bruijn : List Int := [0, 1, 56, 2, 57, 49, 28, 3, 61, 58, 42, 50, 38, 29, 17, 4, 62, 47, 59, 36, 45, 43, 51, 22, 53, 39, 33, 30, 24, 18, 12, 5, 63, 55, 48, 27, 60, 41, 37, 16, 46, 35, 44, 21, 52, 32, 23, 11, 54, 26, 40, 15, 34, 20, 31, 10, 25, 14, 19, 9, 13, 8, 7, 6]
def spanL : List Int := [0, 0, 0, 1, -32768, 32767, -2147483648, 2147483647, -2147483648, 2147483647]
/-- what the laws of this stage read of the program's variables -/
def GlP (w : World) : Prop := GlC w ∧ Tz w
theorem bruijn_at : ∀ j : Fin 64, bruijn[j.val]? = some ((Lib.deBruijn64tab.getD j.val 0 : Nat) : Int) := by decide +kernel
theorem tz_of {W : World} (h : Lib.TabIs Tryd.prog W "math/bits.deBruijn64tab" .u8 bruijn) : Tz W := fun j hj => by
  have hcell := World.var?_cell (show Tryd.prog.globalNamed "math/bits.deBruijn64tab" = some 2 by kernel_rfl) h j
  have hb := bruijn_at ⟨j, hj⟩
  have e : W.cell? ⟨2, j, none⟩ = (bruijn.map fun z => Value.int .u8 z)[j]? := by simpa using hcell
  rw [e, List.getElem?_map]
  rw [show bruijn[j]? = some ((Lib.deBruijn64tab.getD j 0 : Nat) : Int) from hb]; rfl
set_option maxRecDepth 100000 in
theorem glo_of_met {l : List (String × DataW Unit)} {W : World} (hh : laidMet Tryd.prog l W) (hm : ∀ x ∈ laid3, x ∈ l) : GlP W := by
  have r3 := Lib.laidMet.reads hh (hm _ List.mem_cons_self)
  have r4 := Lib.laidMet.reads hh (hm _ (List.mem_cons_of_mem _ List.mem_cons_self))
  have r5 := Lib.laidMet.reads hh (hm _ (List.mem_cons_of_mem _ (List.mem_cons_of_mem _ List.mem_cons_self)))
  have t1 := tab_pairs (g := 1) (ty := 100) (ety := 99) (n := 5) [iiRow 0 0, iiRow 0 1, iiRow (-32768) 32767, iiRow (-2147483648) 2147483647, iiRow (-2147483648) 2147483647] (by kernel_rfl) (by kernel_rfl) Tryd.underlying100 (by kernel_rfl) rfl
      (fun r hr fuel cs x hx hxe => by
        simp only [List.mem_cons, List.not_mem_nil, or_false] at hr
        rcases hr with rfl | rfl | rfl | rfl | rfl <;> exact ii_cells Tryd.underlying99 rfl rfl rfl rfl hx hxe) r4
  refine ⟨⟨fun k h => ?_, ?_⟩, ?_⟩
  · have : k = 0 ∨ k = 1 ∨ k = 2 ∨ k = 3 ∨ k = 4 ∨ k = 5 ∨ k = 6 ∨ k = 7 ∨ k = 8 ∨ k = 9 := by omega
    rcases this with rfl | rfl | rfl | rfl | rfl | rfl | rfl | rfl | rfl | rfl
    all_goals exact t1 _ _ rfl
  · exact tab_texts (g := 0) (ty := 84) (n := 51) Ex.kwB (by kernel_rfl) (by kernel_rfl) Tryd.underlying84 rfl r5
  · exact tz_of (tabIs_of_reads (g := 2) (by kernel_rfl) (by kernel_rfl) Tryd.underlying74 Tryd.underlying5 (by kernel_rfl) (by kernel_rfl) r3)
theorem glo_of_laid {W : World} (h : laidMetH Tryd.prog laid3 W) : GlP W := glo_of_met (l := laid3) h (fun _ hx => hx)
/-- the tables laid into a world's first blocks -/
def layGlo (w : World) : World :=
  let lay (k : Nat) (t : List Value) (w : World) : World := { w with heap := w.heap.modify k fun
      | .cells _ ty frozen => .cells t.toArray ty frozen
      | o => o }
  lay 0 Ex.kwTab (lay 1 (spanL.map fun z => .int .i64 z) (lay 2 (bruijn.map fun z => .int .u8 z) w))
set_option maxRecDepth 100000 in
theorem cellsI : Tryd.prog.cellsOf 38 = 4 := by kernel_rfl
set_option maxRecDepth 100000 in
theorem open_ins {H : Type} {enc : TypeId × Value → H} {W : World} {base : Nat} {spare : Nat → Bool} {held : Bool} {r : Reach} {b0 : Nat} {v : Value} {d : DataW H} {ps : List MemPlace} (hv : Value.okWide Tryd.prog W r b0 38 v) (h : DataW.Trod enc Tryd.prog W base spare held 38 v d ps) :
    ∃ o a b n, v = .agg #[.int .i64 o, .int .i64 a, .int .i64 b, .int .i64 n] ∧ d = .agg [.lit (.int .i64 o), .lit (.int .i64 a), .lit (.int .i64 b), .lit (.int .i64 n)] ∧ ps = [] ∧ (Lit.int .i64 o).wf = true ∧ (Lit.int .i64 a).wf = true ∧ (Lit.int .i64 b).wf = true ∧ (Lit.int .i64 n).wf = true := by
  obtain ⟨c0, c1, c2, c3, y0, y1, y2, y3, m, rfl, rfl, rfl, hy0, hy1, hy2, hy3⟩ := Joins.open_agg4 Tryd.underlying38 (by kernel_rfl) cellsI hv h
  obtain ⟨o, e0, rfl, wo⟩ := DataW.trod_int Tryd.underlying3 hy0
  obtain ⟨a, e1, rfl, wa⟩ := DataW.trod_int Tryd.underlying3 hy1
  obtain ⟨b, e2, rfl, wb⟩ := DataW.trod_int Tryd.underlying3 hy2
  obtain ⟨n, e3, rfl, wn⟩ := DataW.trod_int Tryd.underlying2 hy3
  simp at e0 e1 e2 e3
  subst e0 e1 e2 e3
  exact ⟨o, a, b, n, rfl, rfl, rfl, wo, wa, wb, wn⟩
set_option maxRecDepth 100000 in
theorem shut_ins {H : Type} {enc : TypeId × Value → H} {W : World} {base : Nat} {spare : Nat → Bool} {held : Bool} {o a b n : Int} (wo : (Lit.int .i64 o).wf = true) (wa : (Lit.int .i64 a).wf = true) (wb : (Lit.int .i64 b).wf = true) (wn : (Lit.int .i64 n).wf = true) :
    DataW.Trod enc Tryd.prog W base spare held 38 (.agg #[.int .i64 o, .int .i64 a, .int .i64 b, .int .i64 n]) (.agg [.lit (.int .i64 o), .lit (.int .i64 a), .lit (.int .i64 b), .lit (.int .i64 n)]) [] :=
  Joins.shut_agg4 (y0 := (.lit (.int .i64 o), [])) (y1 := (.lit (.int .i64 a), [])) (y2 := (.lit (.int .i64 b), [])) (y3 := (.lit (.int .i64 n), [])) Tryd.underlying38 (by kernel_rfl) cellsI ⟨1, by simp [DataW.trod, Tryd.underlying3, wo]⟩ ⟨1, by simp [DataW.trod, Tryd.underlying3, wa]⟩ ⟨1, by simp [DataW.trod, Tryd.underlying3, wb]⟩ ⟨1, by simp [DataW.trod, Tryd.underlying2, wn]⟩
end Go.Proofs.YtlckedionmgjjaaDoor
namespace Go.Proofs.YtlckedionmgjjaaDoor
open Go.RowKit
open Extern.Stop (cell)
/-- many cells of a list set -/
def setsL : List Value → Nat → List Value → List Value
  | cs, _, [] => cs
  | cs, o, v :: r => setsL (cs.set o v) (o + 1) r
theorem setsL_length : ∀ (vs cs : List Value) (o : Nat), (setsL cs o vs).length = cs.length
  | [], _, _ => rfl
  | v :: r, cs, o => by show (setsL (cs.set o v) (o + 1) r).length = _; rw [setsL_length r, List.length_set]
theorem setsL_get : ∀ (vs cs : List Value) (o i : Nat), i < cs.length → (setsL cs o vs)[i]? = if o ≤ i ∧ i < o + vs.length then vs[i - o]? else cs[i]?
  | [], cs, o, i, _ => by rw [if_neg (by simp)]; rfl
  | v :: r, cs, o, i, hi => by
    show (setsL (cs.set o v) (o + 1) r)[i]? = _
    rw [setsL_get r _ _ i (by rw [List.length_set]; exact hi)]
    by_cases h : o + 1 ≤ i ∧ i < o + 1 + r.length
    · rw [if_pos h, if_pos (by simp; omega), show i - o = (i - (o + 1)) + 1 by omega, List.getElem?_cons_succ]
    · rw [if_neg h, List.getElem?_set]
      by_cases e : o = i
      · rw [if_pos e, if_pos (by omega), if_pos (by simp; omega), ← e, Nat.sub_self, List.getElem?_cons_zero]
      · rw [if_neg e, if_neg (by simp; omega)]
theorem Ob.sets {g : Nat} {T : TypeId} : ∀ (vs : List Value) {w : World} {cs : List Value} (o : Nat), Ob w g T cs → Ob (w.setCells g o vs) g T (setsL cs o vs)
  | [], _, _, _, h => h
  | v :: r, _, _, o, h => by
    rw [World.setCells]
    exact Ob.sets r (o + 1) (h.set o v)
theorem But.sets {R : Nat} : ∀ (vs : List Value) {w w' : World} (o : Nat), But R w w' → But R w (w'.setCells R o vs)
  | [], _, _, _, h => h
  | v :: r, _, _, o, h => by
    rw [World.setCells]
    exact But.sets r (o + 1) (h.set o v)
theorem Ob.there {w : World} {g : Nat} {T : TypeId} {cs : List Value} (h : Ob w g T cs) (o n : Nat) (hn : o + n ≤ cs.length) : w.there g o n := fun j hj => by
  refine ⟨?_, h.fr _⟩
  rw [h.cell (o + j) (List.getElem?_eq_getElem (by omega))]; rfl
theorem Ob.range {w : World} {g : Nat} {T : TypeId} {cs : List Value} (h : Ob w g T cs) (o : Nat) (xs : List Value) (hx : ∀ j v, xs[j]? = some v → cs[o + j]? = some v) : w.rangeAt g o xs := fun j v hv => h.cell (o + j) (hx j v hv)
/-- the stacks that places are reached with, as cells -/
def ahdC (n : Nat) (rs : List (Option Stk)) : List Value := (List.range (65 * n)).map fun i => (encS ((rs.getD (i / 65) none).getD [])).getD (i % 65) undef
theorem ahdC_length (n : Nat) (rs : List (Option Stk)) : (ahdC n rs).length = 65 * n := by simp [ahdC]
theorem ahdC_get (n : Nat) (rs : List (Option Stk)) (k r : Nat) (hk : k < n) (hr : r < 65) : (ahdC n rs)[k * 65 + r]? = (encS ((rs.getD k none).getD []))[r]? := by
  unfold ahdC
  rw [List.getElem?_map, List.getElem?_range (by omega)]
  have e1 : (k * 65 + r) / 65 = k := by omega
  have e2 : (k * 65 + r) % 65 = r := by omega
  simp only [Option.map_some, e1, e2]
  rw [List.getD_eq_getElem?_getD, List.getElem?_eq_getElem (by rw [encS_length]; exact hr)]; rfl
theorem ahdC_set (n : Nat) (rs : List (Option Stk)) (k : Nat) (s : Stk) (hk : k < n) (hn : rs.length = n) : setsL (ahdC n rs) (k * 65) (encS s) = ahdC n (rs.set k (some s)) := by
  refine List.ext_getElem? fun i => ?_
  by_cases hi : i < 65 * n
  · rw [setsL_get _ _ _ _ (by rw [ahdC_length]; exact hi), encS_length]
    obtain ⟨q, r, hr, rfl⟩ : ∃ q r, r < 65 ∧ i = q * 65 + r := ⟨i / 65, i % 65, by omega, by omega⟩
    rw [ahdC_get n rs q r (by omega) hr, ahdC_get n _ q r (by omega) hr, getD_set]
    by_cases e : k = q
    · subst e
      rw [if_pos (by omega), if_pos (by omega), Nat.add_sub_cancel_left]; rfl
    · rw [if_neg (by omega), if_neg (by omega)]
  · rw [List.getElem?_eq_none (by rw [setsL_length, ahdC_length]; omega), List.getElem?_eq_none (by rw [ahdC_length]; omega)]
def rchC (rs : List (Option Stk)) : List Value := rs.map fun o => .bool o.isSome
theorem rchC_get (rs : List (Option Stk)) (k : Nat) (hk : k < rs.length) : (rchC rs)[k]? = some (.bool (rs.getD k none).isSome) := by
  unfold rchC
  rw [List.getElem?_map, List.getD_eq_getElem?_getD, List.getElem?_eq_getElem hk]; rfl
theorem rchC_set (rs : List (Option Stk)) (k : Nat) (s : Stk) : (rchC rs).set k (.bool true) = rchC (rs.set k (some s)) := by
  unfold rchC; rw [List.map_set]; rfl
/-- a walk in memory -/
structure WM (n g g1 g2 : Nat) (xs : List Value) (m : Vs) (w : World) : Prop where
  ob : Ob w g 55 (encW (xs ++ [.slice (some ⟨g1, 0, none⟩) n n, .slice (some ⟨g2, 0, none⟩) n n]) m.wt m.dp)
  rch : Ob w g1 4 (rchC m.rs)
  ahd : Ob w g2 76 (ahdC n m.rs)
  good : GoodS n m
  len : n ≤ 4096
  n0 : 0 < n
  xs : xs.length = 6
  lo : 2 < g ∧ 2 < g1 ∧ 2 < g2
  ne : g ≠ g1 ∧ g ≠ g2 ∧ g1 ≠ g2
/-- nothing that was there is another but the walk's three blocks -/
structure Kp (g g1 g2 : Nat) (w w' : World) : Prop where
  os : w'.os = w.os
  tape : w'.tape = w.tape
  output : w'.output = w.output
  size : w.heap.size ≤ w'.heap.size
  block : ∀ k, k < w.heap.size → k ≠ g → k ≠ g1 → k ≠ g2 → w'.heap[k]? = w.heap[k]?
theorem Kp.refl (g g1 g2 : Nat) (w : World) : Kp g g1 g2 w w := ⟨rfl, rfl, rfl, Nat.le_refl _, fun _ _ _ _ _ => rfl⟩
theorem Kp.trans {g g1 g2 : Nat} {a b c : World} (h : Kp g g1 g2 a b) (k : Kp g g1 g2 b c) : Kp g g1 g2 a c :=
  ⟨k.os.trans h.os, k.tape.trans h.tape, k.output.trans h.output, Nat.le_trans h.size k.size, fun i hi h1 h2 h3 => (k.block i (Nat.lt_of_lt_of_le hi h.size) h1 h2 h3).trans (h.block i hi h1 h2 h3)⟩
theorem Kp.of_below {g g1 g2 : Nat} {w w' : World} (h : Below w.heap.size w w') : Kp g g1 g2 w w' := ⟨h.os, h.tape, h.output, h.size, fun k hk _ _ _ => h.block k hk⟩
theorem Kp.of_but {g g1 g2 R : Nat} {w w' : World} (h : But R w w') (hR : R = g ∨ R = g1 ∨ R = g2 ∨ w.heap.size ≤ R) : Kp g g1 g2 w w' :=
  ⟨h.os, h.tape, h.output, h.size, fun k hk h1 h2 h3 => h.block k hk (fun e => by have := Option.some.inj e; omega)⟩
theorem Kp.below {g g1 g2 B : Nat} {w w' : World} (h : Kp g g1 g2 w w') (hB : B ≤ g ∧ B ≤ g1 ∧ B ≤ g2) (hs : B ≤ w.heap.size) : Below B w w' :=
  ⟨h.os, h.tape, h.output, h.size, fun k hk => h.block k (by omega) (by omega) (by omega) (by omega)⟩
theorem Kp.ob {g g1 g2 b : Nat} {w w' : World} (h : Kp g g1 g2 w w') {T : TypeId} {cs : List Value} (hb : Ob w b T cs) (hn : b ≠ g ∧ b ≠ g1 ∧ b ≠ g2) : Ob w' b T cs := (h.block b hb.lt hn.1 hn.2.1 hn.2.2).trans hb
theorem Kp.alloc {g g1 g2 : Nat} {w w' : World} (h : Kp g g1 g2 w w') (o : Obj) : Kp g g1 g2 w (w'.alloc o) := h.trans (Kp.of_below ((Below.refl _ _).alloc (Nat.le_refl _) _))
theorem Kp.drewN {g g1 g2 : Nat} {w w' : World} (h : Kp g g1 g2 w w') (n : Nat) : Kp g g1 g2 w (w'.drewN n) := ⟨h.os, h.tape, h.output, h.size, h.block⟩
/-- where a world has the three blocks as they were, the walk is as it was -/
theorem WM.on {n g g1 g2 : Nat} {xs : List Value} {m : Vs} {w w' : World} (h : WM n g g1 g2 xs m w) (hb : Below w.heap.size w w') : WM n g g1 g2 xs m w' :=
  ⟨h.ob.on hb h.ob.lt, h.rch.on hb h.rch.lt, h.ahd.on hb h.ahd.lt, h.good, h.len, h.n0, h.xs, h.lo, h.ne⟩
theorem WM.but {n g g1 g2 R : Nat} {xs : List Value} {m : Vs} {w w' : World} (h : WM n g g1 g2 xs m w) (hb : But R w w') (hR : R ≠ g ∧ R ≠ g1 ∧ R ≠ g2) : WM n g g1 g2 xs m w' :=
  ⟨hb.ob h.ob (fun e => hR.1 e.symm), hb.ob h.rch (fun e => hR.2.1 e.symm), hb.ob h.ahd (fun e => hR.2.2 e.symm), h.good, h.len, h.n0, h.xs, h.lo, h.ne⟩
/-- two stacks compared as arrays -/
def bytS (s : Stk) : List UInt8 := (List.range 64).map fun i => UInt8.ofNat (s.getD i 0).toNat
def typC (s : Stk) : List Value := (List.range 64).map fun i => .int .u8 (s.getD i 0)
theorem typC_get (s : Stk) (i : Nat) (h : i < 64) : (typC s)[i]? = (encS s)[i]? := by
  rw [encS_get s i h]
  unfold typC
  rw [List.getElem?_map, List.getElem?_range h]; rfl
theorem okS_get {s : Stk} (h : OkS s) (i : Nat) : 0 ≤ s.getD i 0 ∧ s.getD i 0 ≤ 4 := by
  rw [List.getD_eq_getElem?_getD]
  cases e : s[i]? with
  | none => simp
  | some t => have := h.ty t (List.mem_of_getElem? e); simp; omega
theorem typC_cell {s : Stk} (h : OkS s) : typC s = (bytS s).map cell := by
  unfold typC bytS
  rw [List.map_map]
  refine List.map_congr_left fun i _ => ?_
  have := okS_get h i
  simp only [Function.comp, cell]
  congr 1
  rw [UInt8.toNat_ofNat', Nat.mod_eq_of_lt (by omega)]
  exact (Int.toNat_of_nonneg this.1).symm
theorem bytS_eq {s t : Stk} (hs : OkS s) (ht : OkS t) : (bytS s == bytS t) = decide (s = t) := by
  by_cases h : s = t
  · subst h; simp
  · rw [decide_eq_false h]
    refine beq_eq_false_iff_ne.2 fun e => h ?_
    have each : ∀ i, i < 64 → s.getD i 0 = t.getD i 0 := fun i hi => by
      have := congrArg (·[i]?) e
      simp only [bytS, List.getElem?_map, List.getElem?_range hi, Option.map_some, Option.some.injEq] at this
      have h2 := congrArg UInt8.toNat this
      rw [UInt8.toNat_ofNat', UInt8.toNat_ofNat'] at h2
      have := okS_get hs i
      have := okS_get ht i
      omega
    have hl : s.length = t.length := by
      rcases Nat.lt_trichotomy s.length t.length with hlt | he | hlt
      · have := each s.length (by have := ht.len; omega)
        rw [List.getD_eq_getElem?_getD, List.getD_eq_getElem?_getD, List.getElem?_eq_none (Nat.le_refl _), List.getElem?_eq_getElem hlt] at this
        have h2 := ht.ty _ (List.getElem_mem hlt)
        simp at this; omega
      · exact he
      · have := each t.length (by have := hs.len; omega)
        rw [List.getD_eq_getElem?_getD, List.getD_eq_getElem?_getD, List.getElem?_eq_none (Nat.le_refl t.length), List.getElem?_eq_getElem hlt] at this
        have h2 := hs.ty _ (List.getElem_mem hlt)
        simp at this; omega
    refine List.ext_getElem hl fun i h1 h2 => ?_
    have := each i (by have := hs.len; omega)
    rw [List.getD_eq_getElem?_getD, List.getD_eq_getElem?_getD, List.getElem?_eq_getElem h1, List.getElem?_eq_getElem h2] at this
    exact this
theorem size5 : (Tryd.prog.info? 5).map (·.size) = some 1 := by kernel_rfl
theorem sizeOf5 (w : World) : (sizeOf 5).run Tryd.prog w = .ok 1 w := by
  have h := size5
  cases hq : Tryd.prog.info? 5 with
  | none => rw [hq] at h; cases h
  | some i =>
    rw [hq] at h
    have : i.size = 1 := by simpa using h
    simp [sizeOf, typeInfo, hq, this]
theorem eq74 {s t : Stk} (hs : OkS s) (ht : OkS t) (w : World) : (binOp .eql 74 (.agg (typC s).toArray) (.agg (typC t).toArray)).run Tryd.prog w = .ok (.bool (decide (s = t))) w := by
  rw [typC_cell hs, typC_cell ht, run_eql_bytes w 74 5 64 Tryd.underlying74 Tryd.underlying5 sizeOf5 (bytS s) (bytS t) (by simp [bytS]) (by simp [bytS]), bytS_eq hs ht]
end Go.Proofs.YtlckedionmgjjaaDoor
namespace Go.Proofs.YtlckedionmgjjaaDoor
theorem tkH {P : Program} {ops : Array Oper} {Q : Exit → Act → World → Prop} {md : Region.Mode} {S : World → Prop} (i : Nat) {d : Option Tmp} {o : Op} {t : TypeId} {p : String} {f : Array Edge} {fuel : Nat} {listed : Array Bool} {a : Act} {w : World} (v : Value) (hS : S w)
    (h : wpAnyH P md ops Q S fuel (listed.setIfInBounds i true) (a.put d v) w) (hi : ops[i]? = some ⟨d, o, t, p, f, none⟩ := by rfl) (hs : Region.noSelect ops = true := by kernel_rfl) (hf : Region.free md ops listed i = true := by kernel_rfl)
    (hr : (Region.ready md ops listed).contains i = true := by kernel_rfl) (hQ : ∀ c a w, Q (.panic c) (a.put d v) w → Q (.panic c) a w := by exact fun _ _ _ h => h) (hy : YieldsIf P ops S ⟨d, o, t, p, f, none⟩ v a := by exact Or.inl ⟨by rfl, fun W hW => by ((try dsimp only at hW); go_simp)⟩) :
    wpAnyH P md ops Q S (fuel + 1) listed a w := wpAnyH_take hi hs hf hr hQ hy hS h
theorem rdH {P : Program} {ops : Array Oper} {Q : Exit → Act → World → Prop} {md : Region.Mode} {S : World → Prop} (i : Nat) {d : Option Tmp} {o : Op} {t : TypeId} {p : String} {f : Array Edge} {fuel : Nat} {listed : Array Bool} {a : Act} {w : World}
    (h : ∀ K' : Act → World → Prop, Shut (∀ a w, S w → (S w → wpAnyH P md ops Q S fuel (listed.setIfInBounds i true) a w) → K' a w) → if Region.wanted (⟨d, o, t, p, f, none⟩ : Oper) (yielded ops a.tmps) = true then Oper.wp P ⟨d, o, t, p, f, none⟩ a w K' Q else K' (a.put d undef) w)
    (hi : ops[i]? = some ⟨d, o, t, p, f, none⟩ := by rfl) (hr : Region.ready md ops listed = [i] := by kernel_rfl) : wpAnyH P md ops Q S (fuel + 1) listed a w :=
  wpAnyH_ready hr (by simp) (AllReadyH.cons hi h AllReadyH.nil)
end Go.Proofs.YtlckedionmgjjaaDoor
