/- What the rows' list gives: the program's tables lie in memory; a world that shows that the list can be met; an instruction among the arguments. -/
import Derived.Test.YtmbgcpmapaedcaaDoorCards
import Derived.Test.YtmbgcpmapaedcaaDoorTie
import Derived.Test.YtmbgcpmapaedcaaDoorWoW
import Derived.WalkKit
import Derived.ProofKit
import Derived.OpenShut
import Derived.Deep.DeepHandedRow
import Derived.Lib.LaidTab
import Derived.Lib.LaidU8
import Derived.Lib.SmallJoins
import Derived.Shelf.LaysM
namespace Go.Proofs.YtmbgcpmapaedcaaDoor
open Go.ChangeShapes Go.WideShapes Go.ChangeAt Go.RowKit
open Ex (TabAt)
theorem own : ownKnob Tryd.prog.godebug = none := by kernel_rfl
theorem cells9 : Tryd.prog.cellsOf 9 = 1 := by kernel_rfl
theorem cells2 : Tryd.prog.cellsOf 2 = 1 := by kernel_rfl
theorem cells3 : Tryd.prog.cellsOf 3 = 1 := by kernel_rfl
theorem text_of {s : ByteArray} {l : List UInt8} (h : s.data.toList = l) : s = ⟨l.toArray⟩ := by cases s; subst h; rfl
theorem ii_cells {H : Type} {enc : TypeId × Value → H} {W : World} {base : Nat} {sp : Nat → Bool} {held : Bool} {fuel : Nat} {cs : List Value} {x : DataW H × List MemPlace} {t : TypeId} {a b : Int} {f0 f1 : Field}
    (hu : Tryd.prog.underlying t = some (.struct #[f0, f1])) (hf0 : f0.type = 2) (ho0 : f0.offset = 0) (hf1 : f1.type = 2) (ho1 : f1.offset = 1)
    (h : DataW.trod enc Tryd.prog W base sp held fuel t cs = some x) (hx : x.1 = .agg [.lit (.int .i64 a), .lit (.int .i64 b)]) : cs[0]? = some (.int .i64 a) ∧ cs[1]? = some (.int .i64 b) := by
  obtain ⟨y0, y1, n, rfl, _, h0, h1⟩ := trod_struct2 hu h
  simp only [DataW.agg.injEq, List.cons.injEq, and_true] at hx
  rw [hf0, ho0] at h0
  rw [hf1, ho1] at h1
  obtain ⟨z0, c0, e0, _⟩ := DataW.trod_int Tryd.underlying2 h0
  obtain ⟨z1, c1, e1, _⟩ := DataW.trod_int Tryd.underlying2 h1
  rw [e0, e1] at hx
  simp only [DataW.lit.injEq, Lit.int.injEq, true_and] at hx
  obtain ⟨rfl, rfl⟩ := hx
  rw [cells2] at c0 c1
  constructor
  · have := congrArg (·[0]?) c0
    simpa [List.getElem?_take, List.getElem?_drop] using this
  · have := congrArg (·[0]?) c1
    simpa [List.getElem?_take, List.getElem?_drop] using this
theorem tab_pairs {W : World} {name : String} {g : Nat} {ty ety : TypeId} {n : Nat} (rows : List (DataW Unit × Value × Value)) (hg : Tryd.prog.globalNamed name = some g) (hty : (Tryd.prog.globals[g]?).map (·.type) = some ty)
    (hu : Tryd.prog.underlying ty = some (.array n ety)) (hc : Tryd.prog.cellsOf ety = 2) (hn : rows.length = n)
    (hrow : ∀ r ∈ rows, ∀ fuel cs x, DataW.trod (fun _ => ()) Tryd.prog W 0 (fun _ => true) false fuel ety cs = some x → x.1 = r.1 → cs[0]? = some r.2.1 ∧ cs[1]? = some r.2.2)
    (h : Lib.VarReads Tryd.prog W name (.agg (rows.map (·.1)))) : TabAt W g (rows.flatMap fun r => [r.2.1, r.2.2]) := by
  obtain ⟨g', t', cs, fuel, p, h1, h2, h3, h4⟩ := h
  obtain rfl := Option.some.inj (hg.symm.trans h1)
  obtain rfl := Option.some.inj (hty.symm.trans h2)
  obtain ⟨xs, m, _, hx, hl, hxn, hi⟩ := DataW.trod_array hu h4
  rw [hc] at hi
  simp only [Prod.mk.injEq] at hx
  have hmap : xs.map (·.1) = rows.map (·.1) := by
    have := hx.1
    rw [DataW.agg.injEq] at this
    exact this.symm
  have each : ∀ i (r : DataW Unit × Value × Value), rows[i]? = some r → cs.toList[i * 2]? = some r.2.1 ∧ cs.toList[i * 2 + 1]? = some r.2.2 := fun i r hr => by
    have hin : i < n := by rw [← hn]; exact (List.getElem?_eq_some_iff.1 hr).1
    have e : (xs.map (·.1))[i]? = some r.1 := by rw [hmap, List.getElem?_map, hr]; rfl
    obtain ⟨x, hxi, hxe⟩ : ∃ x, xs[i]? = some x ∧ x.1 = r.1 := by
      rw [List.getElem?_map, Option.map_eq_some_iff] at e; exact e
    have hh := hi i hin
    rw [hxi] at hh
    obtain ⟨c0, c1⟩ := hrow r (List.mem_of_getElem? hr) _ _ x hh hxe
    constructor
    · simpa [List.getElem?_take, List.getElem?_drop] using c0
    · simpa [List.getElem?_take, List.getElem?_drop] using c1
  intro k v hk
  have hcell := World.var?_cell hg h3 k
  rw [show W.cell? ⟨g, k, none⟩ = cs[k]? from by simpa using hcell]
  have key : ∀ (rs : List (DataW Unit × Value × Value)) (k : Nat) (v : Value), (rs.flatMap fun r => [r.2.1, r.2.2])[k]? = some v → ∃ i r, rs[i]? = some r ∧ ((k = i * 2 ∧ v = r.2.1) ∨ (k = i * 2 + 1 ∧ v = r.2.2)) := by
    intro rs
    induction rs with
    | nil => intro k v h; simp at h
    | cons r rs ih =>
      intro k v h
      match k, h with
      | 0, h => exact ⟨0, r, rfl, .inl ⟨rfl, by simpa using h.symm⟩⟩
      | 1, h => exact ⟨0, r, rfl, .inr ⟨rfl, by simpa using h.symm⟩⟩
      | k + 2, h =>
        obtain ⟨i, r', h1, h2⟩ := ih k v (by simpa using h)
        refine ⟨i + 1, r', by simpa using h1, ?_⟩
        rcases h2 with ⟨h2, h3⟩ | ⟨h2, h3⟩
        · exact .inl ⟨by omega, h3⟩
        · exact .inr ⟨by omega, h3⟩
  obtain ⟨i, r, hr, ⟨rfl, rfl⟩ | ⟨rfl, rfl⟩⟩ := key rows k v hk
  · have := (each i r hr).1
    simpa using this
  · have := (each i r hr).2
    simpa using this
theorem tab_texts {W : World} {name : String} {g : Nat} {ty : TypeId} {n : Nat} (rows : List (List UInt8)) (hg : Tryd.prog.globalNamed name = some g) (hty : (Tryd.prog.globals[g]?).map (·.type) = some ty)
    (hu : Tryd.prog.underlying ty = some (.array n 9)) (hn : rows.length = n)
    (h : Lib.VarReads Tryd.prog W name (.agg (rows.map fun r => .lit (.string r)))) : TabAt W g (rows.map fun r => .string ⟨r.toArray⟩) := by
  obtain ⟨g', t', cs, fuel, p, h1, h2, h3, h4⟩ := h
  obtain rfl := Option.some.inj (hg.symm.trans h1)
  obtain rfl := Option.some.inj (hty.symm.trans h2)
  obtain ⟨xs, m, _, hx, hl, hxn, hi⟩ := DataW.trod_array hu h4
  rw [cells9] at hi
  simp only [Prod.mk.injEq] at hx
  have hmap : xs.map (·.1) = rows.map fun r => .lit (.string r) := by
    have := hx.1
    rw [DataW.agg.injEq] at this
    exact this.symm
  intro k v hk
  have hcell := World.var?_cell hg h3 k
  rw [show W.cell? ⟨g, k, none⟩ = cs[k]? from by simpa using hcell]
  rw [List.getElem?_map, Option.map_eq_some_iff] at hk
  obtain ⟨r, hr, rfl⟩ := hk
  have hin : k < n := by rw [← hn]; exact (List.getElem?_eq_some_iff.1 hr).1
  have e : (xs.map (·.1))[k]? = some (.lit (.string r)) := by rw [hmap, List.getElem?_map, hr]; rfl
  obtain ⟨x, hxi, hxe⟩ : ∃ x, xs[k]? = some x ∧ x.1 = .lit (.string r) := by
    rw [List.getElem?_map, Option.map_eq_some_iff] at e; exact e
  have hh := hi k hin
  rw [hxi] at hh
  obtain ⟨z0, c0, e0, _⟩ := DataW.trod_string Tryd.underlying9 hh
  rw [e0] at hxe
  simp only [DataW.lit.injEq, Lit.string.injEq] at hxe
  rw [text_of hxe] at c0
  have := congrArg (·[0]?) c0
  simpa [List.getElem?_take, List.getElem?_drop] using this
def iiRow (a b : Int) : DataW Unit × Value × Value := (.agg [.lit (.int .i64 a), .lit (.int .i64 b)], .int .i64 a, .int .i64 b)
theorem tabIs_of_reads {P : Program} {W : World} {name : String} {k : IntKind} {zs : List Int} {g : Nat} {t e : TypeId} {n : Nat}
    (hg : P.globalNamed name = some g) (hty : (P.globals[g]?).map (·.type) = some t) (ht : P.underlying t = some (.array n e)) (he : P.underlying e = some (.int k)) (hce : P.cellsOf e = 1) (hct : P.cellsOf t = n)
    (h : Lib.VarReads P W name (Lib.tabData k zs)) : Lib.TabIs P W name k zs := by
  obtain ⟨g', t', cs, fuel, p, hg', ht', hvar, hd⟩ := h
  obtain rfl := Option.some.inj (hg.symm.trans hg')
  obtain rfl := Option.some.inj (hty.symm.trans ht')
  have := Lib.cells_of_tab ht he hce hct hd
  unfold Lib.TabIs
  rw [hvar, ← this]
abbrev laid5 : List (String × DataW Unit) := [("math/bits.deBruijn32tab", Rows.laid_math_bits_deBruijn32tab), ("math/bits.deBruijn64tab", Rows.laid_math_bits_deBruijn64tab), ("internal/strconv.uint64pow10", Rows.laid_internal_strconv_uint64pow10), ("capstan/num.spans", Rows.laid_capstan_num_spans), ("capstan/expr.keywords", Rows.laid_capstan_expr_keywords)]
def bruijn : List Int := [0, 1, 56, 2, 57, 49, 28, 3, 61, 58, 42, 50, 38, 29, 17, 4, 62, 47, 59, 36, 45, 43, 51, 22, 53, 39, 33, 30, 24, 18, 12, 5, 63, 55, 48, 27, 60, 41, 37, 16, 46, 35, 44, 21, 52, 32, 23, 11, 54, 26, 40, 15, 34, 20, 31, 10, 25, 14, 19, 9, 13, 8, 7, 6]
def spanL : List Int := [0, 0, 0, 1, -32768, 32767, -2147483648, 2147483647, -2147483648, 2147483647]
/-- what the laws of this stage read of the program's variables -/
def GlP (w : World) : Prop := GlC w ∧ Pow w
set_option maxRecDepth 100000 in
theorem glo_of_met {l : List (String × DataW Unit)} {W : World} (hh : laidMet Tryd.prog l W) (hm : ∀ x ∈ laid5, x ∈ l) : GlP W := by
  have r3 := Lib.laidMet.reads hh (hm _ (List.mem_cons_of_mem _ (List.mem_cons_of_mem _ List.mem_cons_self)))
  have r4 := Lib.laidMet.reads hh (hm _ (List.mem_cons_of_mem _ (List.mem_cons_of_mem _ (List.mem_cons_of_mem _ List.mem_cons_self))))
  have r5 := Lib.laidMet.reads hh (hm _ (List.mem_cons_of_mem _ (List.mem_cons_of_mem _ (List.mem_cons_of_mem _ (List.mem_cons_of_mem _ List.mem_cons_self)))))
  have t1 := tab_pairs (g := 1) (ty := 92) (ety := 91) (n := 5) [iiRow 0 0, iiRow 0 1, iiRow (-32768) 32767, iiRow (-2147483648) 2147483647, iiRow (-2147483648) 2147483647] (by kernel_rfl) (by kernel_rfl) Tryd.underlying92 (by kernel_rfl) rfl
      (fun r hr fuel cs x hx hxe => by
        simp only [List.mem_cons, List.not_mem_nil, or_false] at hr
        rcases hr with rfl | rfl | rfl | rfl | rfl <;> exact ii_cells Tryd.underlying91 rfl rfl rfl rfl hx hxe) r4
  refine ⟨⟨fun k h => ?_, ?_⟩, ?_⟩
  · have : k = 0 ∨ k = 1 ∨ k = 2 ∨ k = 3 ∨ k = 4 ∨ k = 5 ∨ k = 6 ∨ k = 7 ∨ k = 8 ∨ k = 9 := by omega
    rcases this with rfl | rfl | rfl | rfl | rfl | rfl | rfl | rfl | rfl | rfl
    all_goals exact t1 _ _ rfl
  · exact tab_texts (g := 0) (ty := 83) (n := 51) Ex.kwB (by kernel_rfl) (by kernel_rfl) Tryd.underlying83 rfl r5
  · exact tabIs_of_reads (g := 2) (by kernel_rfl) (by kernel_rfl) Tryd.underlying103 Tryd.underlying36 (by kernel_rfl) (by kernel_rfl) r3
theorem glo_of_laid {W : World} (h : laidMetH Tryd.prog laid5 W) : GlP W := glo_of_met (l := laid5) h (fun _ hx => hx)
/-- the tables laid into a world's first blocks -/
def layGlo (w : World) : World :=
  let lay (k : Nat) (t : List Value) (w : World) : World := { w with heap := w.heap.modify k fun
      | .cells _ ty frozen => .cells t.toArray ty frozen
      | o => o }
  lay 0 Ex.kwTab (lay 1 (spanL.map fun z => .int .i64 z) (lay 2 (Lib.pow10Tab.map fun z => .int .u64 z) (lay 3 ([0, 1, 28, 2, 29, 14, 24, 3, 30, 22, 20, 15, 25, 17, 4, 8, 31, 27, 13, 23, 21, 19, 16, 7, 26, 12, 18, 6, 11, 5, 10, 9].map fun z => .int .u8 z) (lay 4 (bruijn.map fun z => .int .u8 z) w))))
set_option maxRecDepth 100000 in
theorem cellsI : Tryd.prog.cellsOf 23 = 4 := by kernel_rfl
set_option maxRecDepth 100000 in
theorem open_ins {H : Type} {enc : TypeId × Value → H} {W : World} {base : Nat} {spare : Nat → Bool} {held : Bool} {r : Reach} {b0 : Nat} {v : Value} {d : DataW H} {ps : List MemPlace} (hv : Value.okWide Tryd.prog W r b0 23 v) (h : DataW.Trod enc Tryd.prog W base spare held 23 v d ps) :
    ∃ o a b n, v = .agg #[.int .i64 o, .int .i64 a, .int .i64 b, .int .i64 n] ∧ d = .agg [.lit (.int .i64 o), .lit (.int .i64 a), .lit (.int .i64 b), .lit (.int .i64 n)] ∧ ps = [] ∧ (Lit.int .i64 o).wf = true ∧ (Lit.int .i64 a).wf = true ∧ (Lit.int .i64 b).wf = true ∧ (Lit.int .i64 n).wf = true := by
  obtain ⟨c0, c1, c2, c3, y0, y1, y2, y3, m, rfl, rfl, rfl, hy0, hy1, hy2, hy3⟩ := Joins.open_agg4 Tryd.underlying23 (by kernel_rfl) cellsI hv h
  obtain ⟨o, e0, rfl, wo⟩ := DataW.trod_int Tryd.underlying3 hy0
  obtain ⟨a, e1, rfl, wa⟩ := DataW.trod_int Tryd.underlying3 hy1
  obtain ⟨b, e2, rfl, wb⟩ := DataW.trod_int Tryd.underlying3 hy2
  obtain ⟨n, e3, rfl, wn⟩ := DataW.trod_int Tryd.underlying2 hy3
  simp at e0 e1 e2 e3
  subst e0 e1 e2 e3
  exact ⟨o, a, b, n, rfl, rfl, rfl, wo, wa, wb, wn⟩
set_option maxRecDepth 100000 in
theorem shut_ins {H : Type} {enc : TypeId × Value → H} {W : World} {base : Nat} {spare : Nat → Bool} {held : Bool} {o a b n : Int} (wo : (Lit.int .i64 o).wf = true) (wa : (Lit.int .i64 a).wf = true) (wb : (Lit.int .i64 b).wf = true) (wn : (Lit.int .i64 n).wf = true) :
    DataW.Trod enc Tryd.prog W base spare held 23 (.agg #[.int .i64 o, .int .i64 a, .int .i64 b, .int .i64 n]) (.agg [.lit (.int .i64 o), .lit (.int .i64 a), .lit (.int .i64 b), .lit (.int .i64 n)]) [] :=
  Joins.shut_agg4 (y0 := (.lit (.int .i64 o), [])) (y1 := (.lit (.int .i64 a), [])) (y2 := (.lit (.int .i64 b), [])) (y3 := (.lit (.int .i64 n), [])) Tryd.underlying23 (by kernel_rfl) cellsI ⟨1, by simp [DataW.trod, Tryd.underlying3, wo]⟩ ⟨1, by simp [DataW.trod, Tryd.underlying3, wa]⟩ ⟨1, by simp [DataW.trod, Tryd.underlying3, wb]⟩ ⟨1, by simp [DataW.trod, Tryd.underlying2, wn]⟩
end Go.Proofs.YtmbgcpmapaedcaaDoor
