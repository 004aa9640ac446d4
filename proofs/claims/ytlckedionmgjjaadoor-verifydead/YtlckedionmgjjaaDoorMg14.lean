/- What the rows' list gives: the program's tables lie in memory; a world that shows that the list can be met; an instruction among the arguments. | Out of stage 13: lists of instructions as cells; images in memory. -/
import Derived.Test.YtlckedionmgjjaaDoorCards
import Derived.Test.YtlckedionmgjjaaDoorTie
import Derived.Test.YtlckedionmgjjaaDoorMg9
import Derived.Test.YtlckedionmgjjaaDoorMg13
import Derived.WalkKit
import Derived.ProofKit
import Derived.OpenShut
import Derived.Deep.DeepHandedRow
import Derived.Lib.LaidTab
import Derived.Lib.LaidU8
import Derived.Lib.SmallJoins
import Derived.Shelf.LaysM
import Derived.Deep.RegionHeld3
namespace Go.Proofs.YtlckedionmgjjaaDoor
open Go.ChangeShapes Go.WideShapes Go.ChangeAt Go.RowKit

theorem own : ownKnob Tryd.prog.godebug = none := by kernel_rfl
theorem cells9 : Tryd.prog.cellsOf 9 = 1 := by kernel_rfl
theorem cells2 : Tryd.prog.cellsOf 2 = 1 := by kernel_rfl
theorem cells3 : Tryd.prog.cellsOf 3 = 1 := by kernel_rfl
theorem text_of {s : ByteArray} {l : List UInt8} (h : s.data.toList = l) : s = ⟨l.toArray⟩ := by cases s; subst h; rfl
theorem ii_cells {H : Type} {enc : TypeId × Value → H} {W : World} {base : Nat} {sp : Nat → Bool} {held : Bool} {fuel : Nat} {cs : List Value} {x : DataW H × List MemPlace} {t : TypeId} {a b : Int} {f0 f1 : Field}
    (hu : Tryd.prog.underlying t = some (.struct #[f0, f1])) (hf0 : f0.type = 2) (ho0 : f0.offset = 0) (hf1 : f1.type = 2) (ho1 : f1.offset = 1)
    (h : DataW.trod enc Tryd.prog W base sp held fuel t cs = some x) (hx : x.1 = .agg [.lit (.int .i64 a), .lit (.int .i64 b)]) : cs[0]? = some (.int .i64 a) ∧ cs[1]? = some (.int .i64 b) := by
  obtain ⟨y0, y1, n, rfl, _, h0, h1⟩ := trod_struct2 hu h
  simp only [DataW.agg.injEq, List.cons.injEq, and_true] at hx
  rw [hf0, ho0] at h0
  rw [hf1, ho1] at h1
  obtain ⟨z0, c0, e0, _⟩ := DataW.trod_int Tryd.underlying2 h0
  obtain ⟨z1, c1, e1, _⟩ := DataW.trod_int Tryd.underlying2 h1
  rw [e0, e1] at hx
  simp only [DataW.lit.injEq, Lit.int.injEq, true_and] at hx
  obtain ⟨rfl, rfl⟩ := hx
  rw [cells2] at c0 c1
  constructor
  · have := congrArg (·[0]?) c0
    simpa [List.getElem?_take, List.getElem?_drop] using this
  · have := congrArg (·[0]?) c1
    simpa [List.getElem?_take, List.getElem?_drop] using this
theorem tab_pairs {W : World} {name : String} {g : Nat} {ty ety : TypeId} {n : Nat} (rows : List (DataW Unit × Value × Value)) (hg : Tryd.prog.globalNamed name = some g) (hty : (Tryd.prog.globals[g]?).map (·.type) = some ty)
    (hu : Tryd.prog.underlying ty = some (.array n ety)) (hc : Tryd.prog.cellsOf ety = 2) (hn : rows.length = n)
    (hrow : ∀ r ∈ rows, ∀ fuel cs x, DataW.trod (fun _ => ()) Tryd.prog W 0 (fun _ => true) false fuel ety cs = some x → x.1 = r.1 → cs[0]? = some r.2.1 ∧ cs[1]? = some r.2.2)
    (h : Lib.VarReads Tryd.prog W name (.agg (rows.map (·.1)))) : Ex.TabAt W g (rows.flatMap fun r => [r.2.1, r.2.2]) := by
  obtain ⟨g', t', cs, fuel, p, h1, h2, h3, h4⟩ := h
  obtain rfl := Option.some.inj (hg.symm.trans h1)
  obtain rfl := Option.some.inj (hty.symm.trans h2)
  obtain ⟨xs, m, _, hx, hl, hxn, hi⟩ := DataW.trod_array hu h4
  rw [hc] at hi
  simp only [Prod.mk.injEq] at hx
  have hmap : xs.map (·.1) = rows.map (·.1) := by
    have := hx.1
    rw [DataW.agg.injEq] at this
    exact this.symm
  have each : ∀ i (r : DataW Unit × Value × Value), rows[i]? = some r → cs.toList[i * 2]? = some r.2.1 ∧ cs.toList[i * 2 + 1]? = some r.2.2 := fun i r hr => by
    have hin : i < n := by rw [← hn]; exact (List.getElem?_eq_some_iff.1 hr).1
    have e : (xs.map (·.1))[i]? = some r.1 := by rw [hmap, List.getElem?_map, hr]; rfl
    obtain ⟨x, hxi, hxe⟩ : ∃ x, xs[i]? = some x ∧ x.1 = r.1 := by
      rw [List.getElem?_map, Option.map_eq_some_iff] at e; exact e
    have hh := hi i hin
    rw [hxi] at hh
    obtain ⟨c0, c1⟩ := hrow r (List.mem_of_getElem? hr) _ _ x hh hxe
    constructor
    · simpa [List.getElem?_take, List.getElem?_drop] using c0
    · simpa [List.getElem?_take, List.getElem?_drop] using c1
  intro k v hk
  have hcell := World.var?_cell hg h3 k
  rw [show W.cell? ⟨g, k, none⟩ = cs[k]? from by simpa using hcell]
  have key : ∀ (rs : List (DataW Unit × Value × Value)) (k : Nat) (v : Value), (rs.flatMap fun r => [r.2.1, r.2.2])[k]? = some v → ∃ i r, rs[i]? = some r ∧ ((k = i * 2 ∧ v = r.2.1) ∨ (k = i * 2 + 1 ∧ v = r.2.2)) := by
    intro rs
    induction rs with
    | nil => intro k v h; simp at h
    | cons r rs ih =>
      intro k v h
      match k, h with
      | 0, h => exact ⟨0, r, rfl, .inl ⟨rfl, by simpa using h.symm⟩⟩
      | 1, h => exact ⟨0, r, rfl, .inr ⟨rfl, by simpa using h.symm⟩⟩
      | k + 2, h =>
        obtain ⟨i, r', h1, h2⟩ := ih k v (by simpa using h)
        refine ⟨i + 1, r', by simpa using h1, ?_⟩
        rcases h2 with ⟨h2, h3⟩ | ⟨h2, h3⟩
        · exact .inl ⟨by omega, h3⟩
        · exact .inr ⟨by omega, h3⟩
  obtain ⟨i, r, hr, ⟨rfl, rfl⟩ | ⟨rfl, rfl⟩⟩ := key rows k v hk
  · have := (each i r hr).1
    simpa using this
  · have := (each i r hr).2
    simpa using this
theorem tab_texts {W : World} {name : String} {g : Nat} {ty : TypeId} {n : Nat} (rows : List (List UInt8)) (hg : Tryd.prog.globalNamed name = some g) (hty : (Tryd.prog.globals[g]?).map (·.type) = some ty)
    (hu : Tryd.prog.underlying ty = some (.array n 9)) (hn : rows.length = n)
    (h : Lib.VarReads Tryd.prog W name (.agg (rows.map fun r => .lit (.string r)))) : Ex.TabAt W g (rows.map fun r => .string ⟨r.toArray⟩) := by
  obtain ⟨g', t', cs, fuel, p, h1, h2, h3, h4⟩ := h
  obtain rfl := Option.some.inj (hg.symm.trans h1)
  obtain rfl := Option.some.inj (hty.symm.trans h2)
  obtain ⟨xs, m, _, hx, hl, hxn, hi⟩ := DataW.trod_array hu h4
  rw [cells9] at hi
  simp only [Prod.mk.injEq] at hx
  have hmap : xs.map (·.1) = rows.map fun r => .lit (.string r) := by
    have := hx.1
    rw [DataW.agg.injEq] at this
    exact this.symm
  intro k v hk
  have hcell := World.var?_cell hg h3 k
  rw [show W.cell? ⟨g, k, none⟩ = cs[k]? from by simpa using hcell]
  rw [List.getElem?_map, Option.map_eq_some_iff] at hk
  obtain ⟨r, hr, rfl⟩ := hk
  have hin : k < n := by rw [← hn]; exact (List.getElem?_eq_some_iff.1 hr).1
  have e : (xs.map (·.1))[k]? = some (.lit (.string r)) := by rw [hmap, List.getElem?_map, hr]; rfl
  obtain ⟨x, hxi, hxe⟩ : ∃ x, xs[k]? = some x ∧ x.1 = .lit (.string r) := by
    rw [List.getElem?_map, Option.map_eq_some_iff] at e; exact e
  have hh := hi k hin
  rw [hxi] at hh
  obtain ⟨z0, c0, e0, _⟩ := DataW.trod_string Tryd.underlying9 hh
  rw [e0] at hxe
  simp only [DataW.lit.injEq, Lit.string.injEq] at hxe
  rw [text_of hxe] at c0
  have := congrArg (·[0]?) c0
  simpa [List.getElem?_take, List.getElem?_drop] using this
def iiRow (a b : Int) : DataW Unit × Value × Value := (.agg [.lit (.int .i64 a), .lit (.int .i64 b)], .int .i64 a, .int .i64 b)
theorem tabIs_of_reads {P : Program} {W : World} {name : String} {k : IntKind} {zs : List Int} {g : Nat} {t e : TypeId} {n : Nat}
    (hg : P.globalNamed name = some g) (hty : (P.globals[g]?).map (·.type) = some t) (ht : P.underlying t = some (.array n e)) (he : P.underlying e = some (.int k)) (hce : P.cellsOf e = 1) (hct : P.cellsOf t = n)
    (h : Lib.VarReads P W name (Lib.tabData k zs)) : Lib.TabIs P W name k zs := by
  obtain ⟨g', t', cs, fuel, p, hg', ht', hvar, hd⟩ := h
  obtain rfl := Option.some.inj (hg.symm.trans hg')
  obtain rfl := Option.some.inj (hty.symm.trans ht')
  have := Lib.cells_of_tab ht he hce hct hd
  unfold Lib.TabIs
  rw [hvar, ← this]
abbrev laid3 : List (String × DataW Unit) := [("math/bits.deBruijn64tab", Rows.laid_math_bits_deBruijn64tab), ("capstan/num.spans", Rows.laid_capstan_num_spans), ("capstan/expr.keywords", Rows.laid_capstan_expr_keywords)]
def bruijn : List Int := [0, 1, 56, 2, 57, 49, 28, 3, 61, 58, 42, 50, 38, 29, 17, 4, 62, 47, 59, 36, 45, 43, 51, 22, 53, 39, 33, 30, 24, 18, 12, 5, 63, 55, 48, 27, 60, 41, 37, 16, 46, 35, 44, 21, 52, 32, 23, 11, 54, 26, 40, 15, 34, 20, 31, 10, 25, 14, 19, 9, 13, 8, 7, 6]
def spanL : List Int := [0, 0, 0, 1, -32768, 32767, -2147483648, 2147483647, -2147483648, 2147483647]
/-- what the laws of this stage read of the program's variables -/
def GlP (w : World) : Prop := GlC w ∧ Tz w
theorem bruijn_at : ∀ j : Fin 64, bruijn[j.val]? = some ((Lib.deBruijn64tab.getD j.val 0 : Nat) : Int) := by decide +kernel
theorem tz_of {W : World} (h : Lib.TabIs Tryd.prog W "math/bits.deBruijn64tab" .u8 bruijn) : Tz W := fun j hj => by
  have hcell := World.var?_cell (show Tryd.prog.globalNamed "math/bits.deBruijn64tab" = some 2 by kernel_rfl) h j
  have hb := bruijn_at ⟨j, hj⟩
  have e : W.cell? ⟨2, j, none⟩ = (bruijn.map fun z => Value.int .u8 z)[j]? := by simpa using hcell
  rw [e, List.getElem?_map]
  rw [show bruijn[j]? = some ((Lib.deBruijn64tab.getD j 0 : Nat) : Int) from hb]; rfl
set_option maxRecDepth 100000 in
theorem glo_of_met {l : List (String × DataW Unit)} {W : World} (hh : laidMet Tryd.prog l W) (hm : ∀ x ∈ laid3, x ∈ l) : GlP W := by
  have r3 := Lib.laidMet.reads hh (hm _ List.mem_cons_self)
  have r4 := Lib.laidMet.reads hh (hm _ (List.mem_cons_of_mem _ List.mem_cons_self))
  have r5 := Lib.laidMet.reads hh (hm _ (List.mem_cons_of_mem _ (List.mem_cons_of_mem _ List.mem_cons_self)))
  have t1 := tab_pairs (g := 1) (ty := 100) (ety := 99) (n := 5) [iiRow 0 0, iiRow 0 1, iiRow (-32768) 32767, iiRow (-2147483648) 2147483647, iiRow (-2147483648) 2147483647] (by kernel_rfl) (by kernel_rfl) Tryd.underlying100 (by kernel_rfl) rfl
      (fun r hr fuel cs x hx hxe => by
        simp only [List.mem_cons, List.not_mem_nil, or_false] at hr
        rcases hr with rfl | rfl | rfl | rfl | rfl <;> exact ii_cells Tryd.underlying99 rfl rfl rfl rfl hx hxe) r4
  refine ⟨⟨fun k h => ?_, ?_⟩, ?_⟩
  · have : k = 0 ∨ k = 1 ∨ k = 2 ∨ k = 3 ∨ k = 4 ∨ k = 5 ∨ k = 6 ∨ k = 7 ∨ k = 8 ∨ k = 9 := by omega
    rcases this with rfl | rfl | rfl | rfl | rfl | rfl | rfl | rfl | rfl | rfl
    all_goals exact t1 _ _ rfl
  · exact tab_texts (g := 0) (ty := 84) (n := 51) Ex.kwB (by kernel_rfl) (by kernel_rfl) Tryd.underlying84 rfl r5
  · exact tz_of (tabIs_of_reads (g := 2) (by kernel_rfl) (by kernel_rfl) Tryd.underlying74 Tryd.underlying5 (by kernel_rfl) (by kernel_rfl) r3)
theorem glo_of_laid {W : World} (h : laidMetH Tryd.prog laid3 W) : GlP W := glo_of_met (l := laid3) h (fun _ hx => hx)
/-- the tables laid into a world's first blocks -/
def layGlo (w : World) : World :=
  let lay (k : Nat) (t : List Value) (w : World) : World := { w with heap := w.heap.modify k fun
      | .cells _ ty frozen => .cells t.toArray ty frozen
      | o => o }
  lay 0 Ex.kwTab (lay 1 (spanL.map fun z => .int .i64 z) (lay 2 (bruijn.map fun z => .int .u8 z) w))
set_option maxRecDepth 100000 in
theorem cellsI : Tryd.prog.cellsOf 38 = 4 := by kernel_rfl
set_option maxRecDepth 100000 in
theorem open_ins {H : Type} {enc : TypeId × Value → H} {W : World} {base : Nat} {spare : Nat → Bool} {held : Bool} {r : Reach} {b0 : Nat} {v : Value} {d : DataW H} {ps : List MemPlace} (hv : Value.okWide Tryd.prog W r b0 38 v) (h : DataW.Trod enc Tryd.prog W base spare held 38 v d ps) :
    ∃ o a b n, v = .agg #[.int .i64 o, .int .i64 a, .int .i64 b, .int .i64 n] ∧ d = .agg [.lit (.int .i64 o), .lit (.int .i64 a), .lit (.int .i64 b), .lit (.int .i64 n)] ∧ ps = [] ∧ (Lit.int .i64 o).wf = true ∧ (Lit.int .i64 a).wf = true ∧ (Lit.int .i64 b).wf = true ∧ (Lit.int .i64 n).wf = true := by
  obtain ⟨c0, c1, c2, c3, y0, y1, y2, y3, m, rfl, rfl, rfl, hy0, hy1, hy2, hy3⟩ := Joins.open_agg4 Tryd.underlying38 (by kernel_rfl) cellsI hv h
  obtain ⟨o, e0, rfl, wo⟩ := DataW.trod_int Tryd.underlying3 hy0
  obtain ⟨a, e1, rfl, wa⟩ := DataW.trod_int Tryd.underlying3 hy1
  obtain ⟨b, e2, rfl, wb⟩ := DataW.trod_int Tryd.underlying3 hy2
  obtain ⟨n, e3, rfl, wn⟩ := DataW.trod_int Tryd.underlying2 hy3
  simp at e0 e1 e2 e3
  subst e0 e1 e2 e3
  exact ⟨o, a, b, n, rfl, rfl, rfl, wo, wa, wb, wn⟩
set_option maxRecDepth 100000 in
theorem shut_ins {H : Type} {enc : TypeId × Value → H} {W : World} {base : Nat} {spare : Nat → Bool} {held : Bool} {o a b n : Int} (wo : (Lit.int .i64 o).wf = true) (wa : (Lit.int .i64 a).wf = true) (wb : (Lit.int .i64 b).wf = true) (wn : (Lit.int .i64 n).wf = true) :
    DataW.Trod enc Tryd.prog W base spare held 38 (.agg #[.int .i64 o, .int .i64 a, .int .i64 b, .int .i64 n]) (.agg [.lit (.int .i64 o), .lit (.int .i64 a), .lit (.int .i64 b), .lit (.int .i64 n)]) [] :=
  Joins.shut_agg4 (y0 := (.lit (.int .i64 o), [])) (y1 := (.lit (.int .i64 a), [])) (y2 := (.lit (.int .i64 b), [])) (y3 := (.lit (.int .i64 n), [])) Tryd.underlying38 (by kernel_rfl) cellsI ⟨1, by simp [DataW.trod, Tryd.underlying3, wo]⟩ ⟨1, by simp [DataW.trod, Tryd.underlying3, wa]⟩ ⟨1, by simp [DataW.trod, Tryd.underlying3, wb]⟩ ⟨1, by simp [DataW.trod, Tryd.underlying2, wn]⟩
end Go.Proofs.YtlckedionmgjjaaDoor
namespace Go.Proofs.YtlckedionmgjjaaDoor
open Go.RowKit
theorem pigeon : ∀ (n : Nat) (s : List Int), s.Nodup → (∀ c ∈ s, 0 ≤ c ∧ c < (n : Int)) → s.length ≤ n
  | 0, s, _, h => by
    cases s with
    | nil => exact Nat.le_refl 0
    | cons c r => have := h c List.mem_cons_self; omega
  | n + 1, s, hd, h => by
    have ih := pigeon n (s.erase (n : Int)) (hd.erase _) (fun c hc => by
      rw [hd.mem_erase_iff] at hc
      have := h c hc.2
      have := hc.1
      omega)
    by_cases hm : (n : Int) ∈ s
    · rw [List.length_erase_of_mem hm] at ih; omega
    · rw [List.erase_of_not_mem hm] at ih; omega
theorem line_facts (n : Nat) : ∀ (l s : List Int), s.Nodup → (∀ c ∈ s, 0 ≤ c ∧ c < (n : Int)) → lineB n s l = true → (l.reverse ++ s).Nodup ∧ ∀ c ∈ l.reverse ++ s, 0 ≤ c ∧ c < (n : Int)
  | [], s, hd, hb, _ => ⟨hd, hb⟩
  | c :: r, s, hd, hb, h => by
    have h' : (inB c n && (!(s.contains c) && lineB n (c :: s) r)) = true := h
    simp only [Bool.and_eq_true, Bool.not_eq_true'] at h'
    have hin : 0 ≤ c ∧ c < (n : Int) := by
      have := h'.1
      unfold inB at this
      simp only [Bool.and_eq_true, decide_eq_true_eq] at this
      exact this
    have hnc : c ∉ s := fun hm => by
      have := List.contains_iff_mem.2 hm
      rw [h'.2.1] at this; cases this
    have ih := line_facts n r (c :: s) (List.nodup_cons.2 ⟨hnc, hd⟩) (fun y hy => by rcases List.mem_cons.1 hy with rfl | hy; exact hin; exact hb y hy) h'.2.2
    rw [List.reverse_cons, List.append_assoc]
    exact ih
theorem line_len {n : Nat} {l : List Int} (h : lineB n [] l = true) : l.length ≤ n := by
  obtain ⟨h1, h2⟩ := line_facts n l [] List.nodup_nil (fun c hc => by cases hc) h
  have := pigeon n _ h1 h2
  simpa using this
theorem six {W : World} {Z : Nat} {a b c d e f : Value} (h : W.heap[Z]? = some (.cells #[a, b, c, d, e, f] 26 (0, 0))) : W.cell? ⟨Z, 0, none⟩ = some a ∧ W.cell? ⟨Z, 1, none⟩ = some b ∧ W.cell? ⟨Z, 2, none⟩ = some c ∧ W.cell? ⟨Z, 3, none⟩ = some d ∧ W.cell? ⟨Z, 4, none⟩ = some e ∧ W.cell? ⟨Z, 5, none⟩ = some f ∧ ∀ j, W.frozen? ⟨Z, j, none⟩ = false :=
  ⟨(Lib.cell_of_heap (j := 0) h).trans rfl, (Lib.cell_of_heap (j := 1) h).trans rfl, (Lib.cell_of_heap (j := 2) h).trans rfl, (Lib.cell_of_heap (j := 3) h).trans rfl, (Lib.cell_of_heap (j := 4) h).trans rfl, (Lib.cell_of_heap (j := 5) h).trans rfl, fun j => Lib.frozen_of_heap h j⟩
theorem owns_set {w : World} {base e size n : Nat} {v : Value} {xs : List Value} (h : w.ownsRow base e size v n xs) (b o : Nat) (hb : b < base) (u : Value) : (w.setCell ⟨b, o, none⟩ u).ownsRow base e size v n xs := by
  refine ⟨h.1, ?_⟩
  rcases h.2 with h0 | ⟨g, cap, cur, hv, hg, hh, r⟩
  · exact .inl h0
  · exact .inr ⟨g, cap, cur, hv, hg, by rw [Below.heap_setCell _ _ _ _ (by show g ≠ b; omega)]; exact hh, r⟩
/-- six cells of a block written -/
def set6 (W : World) (Z : Nat) (a b c d e f : Value) : World := (((((W.setCell ⟨Z, 0, none⟩ a).setCell ⟨Z, 1, none⟩ b).setCell ⟨Z, 2, none⟩ c).setCell ⟨Z, 3, none⟩ d).setCell ⟨Z, 4, none⟩ e).setCell ⟨Z, 5, none⟩ f
theorem owns6 {W : World} {Z base ty s n : Nat} {v a b c d e f : Value} {xs : List Value} (h : W.ownsRow base ty s v n xs) (hZ : Z < base) : (set6 W Z a b c d e f).ownsRow base ty s v n xs :=
  owns_set (owns_set (owns_set (owns_set (owns_set (owns_set h Z 0 hZ a) Z 1 hZ b) Z 2 hZ c) Z 3 hZ d) Z 4 hZ e) Z 5 hZ f
theorem below6 {w W : World} {B Z : Nat} {a b c d e f : Value} (h : Below B w W) (hZ : B ≤ Z) : Below B w (set6 W Z a b c d e f) :=
  (((((h.setCell hZ a).setCell hZ b).setCell hZ c).setCell hZ d).setCell hZ e).setCell hZ f
theorem heap6 {W : World} {Z ty : Nat} {a0 a1 a2 a3 a4 a5 a b c d e f : Value} (h : W.heap[Z]? = some (.cells #[a0, a1, a2, a3, a4, a5] ty (0, 0))) : (set6 W Z a b c d e f).heap[Z]? = some (.cells #[a, b, c, d, e, f] ty (0, 0)) :=
  (Lib.heap_setCell_same (Lib.heap_setCell_same (Lib.heap_setCell_same (Lib.heap_setCell_same (Lib.heap_setCell_same (Lib.heap_setCell_same h _) _) _) _) _) _).trans rfl
theorem inX : (Tryd.prog.info? 38).map (fun i => (i.zero, i.size, i.bytes)) = some (some (.agg #[.int .i64 0, .int .i64 0, .int .i64 0, .int .i64 0]), 4, 32) := by kernel_rfl
/-- a list's cells -/
def inC (l : List Ins) : List Value := l.flatMap fun i => [.int .i64 i.op, .int .i64 i.a, .int .i64 i.b, .int .i64 i.n]
theorem inC_one (l : List Ins) (i : Ins) : inC (l ++ [i]) = inC l ++ [.int .i64 i.op, .int .i64 i.a, .int .i64 i.b, .int .i64 i.n] := by
  unfold inC; rw [List.flatMap_append]; simp
theorem inC_length (l : List Ins) : (inC l).length = 4 * l.length := by
  unfold inC
  induction l with
  | nil => rfl
  | cons i l ih => rw [List.flatMap_cons, List.length_append, ih, List.length_cons]; simp; omega
theorem inC_get : ∀ (l : List Ins) (k : Nat) (i : Ins), l[k]? = some i → (inC l)[k * 4]? = some (.int .i64 i.op) ∧ (inC l)[k * 4 + 1]? = some (.int .i64 i.a) ∧ (inC l)[k * 4 + 2]? = some (.int .i64 i.b) ∧ (inC l)[k * 4 + 3]? = some (.int .i64 i.n)
  | [], k, i, h => by cases h
  | j :: l, 0, i, h => by obtain rfl := Option.some.inj h; exact ⟨rfl, rfl, rfl, rfl⟩
  | j :: l, k + 1, i, h => by
    have ih := inC_get l k i h
    have e : ∀ m, (inC (j :: l))[m + 4]? = (inC l)[m]? := fun m => rfl
    refine ⟨?_, ?_, ?_, ?_⟩
    · rw [show (k + 1) * 4 = k * 4 + 4 by omega, e]; exact ih.1
    · rw [show (k + 1) * 4 + 1 = k * 4 + 1 + 4 by omega, e]; exact ih.2.1
    · rw [show (k + 1) * 4 + 2 = k * 4 + 2 + 4 by omega, e]; exact ih.2.2.1
    · rw [show (k + 1) * 4 + 3 = k * 4 + 3 + 4 by omega, e]; exact ih.2.2.2
theorem ISt.nil (w : World) (c : Nat) : ISt w (.slice none 0 c) [] := ⟨none, 0, 0, c, rfl, fun h => absurd h (Nat.lt_irrefl 0), fun i x hx => by cases hx⟩
theorem ISt.of_owns {w : World} {base : Nat} {v : Value} {l : List Ins} (h : w.ownsRow base 38 4 v l.length (inC l)) : ISt w v l := by
  rcases h.2 with ⟨hv, h0⟩ | ⟨g, cap, cur, hv, hb, hg, hn, hm, hc, ht⟩
  · obtain rfl := List.eq_nil_of_length_eq_zero h0
    subst hv
    exact ISt.nil w 0
  · subst hv
    refine ⟨_, g, 0, cap, rfl, fun _ => ⟨(Array.getElem?_eq_some_iff.1 hg).1, rfl⟩, fun i x hx => ?_⟩
    have hi : i < l.length := (List.getElem?_eq_some_iff.1 hx).1
    obtain ⟨h0, h1, h2, h3⟩ := inC_get l i x hx
    rw [Nat.zero_add]
    exact ⟨(h.cellAt _ (by omega)).trans h0, (h.cellAt _ (by omega)).trans h1, (h.cellAt _ (by omega)).trans h2, (h.cellAt _ (by omega)).trans h3⟩
/-- an instruction of a machine -/
structure InB (i : Ins) : Prop where
  a0 : -9223372036854775808 ≤ i.a
  a1 : i.a ≤ 9223372036854775807
  b0 : -9223372036854775808 ≤ i.b
  b1 : i.b ≤ 9223372036854775807
  n0 : -9223372036854775808 ≤ i.n
  n1 : i.n ≤ 9223372036854775807
end Go.Proofs.YtlckedionmgjjaaDoor
