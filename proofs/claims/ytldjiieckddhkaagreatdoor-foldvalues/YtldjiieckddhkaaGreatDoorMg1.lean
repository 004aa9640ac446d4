/- Frame | EwW -/
import Derived.Test.YtldjiieckddhkaaGreatDoorCards
import Derived.Test.YtldjiieckddhkaaGreatDoorTie
import Derived.Test.YtldjiieckddhkaaGreatDoorMg0
import Derived.WalkKit
import Derived.ProofKit
import Derived.OpenShut
import Derived.Deep.DeepHandedRow
import Derived.Lib.LaidTab
import Derived.Lib.LaidU8
import Derived.Lib.SmallJoins
import Derived.Shelf.LaysM
namespace Go.Proofs.YtldjiieckddhkaaGreatDoor
open Go.ChangeShapes Go.WideShapes Go.ChangeAt Go.RowKit
theorem own : ownKnob Tryz.prog.godebug = none := by kernel_rfl
theorem cells9 : Tryz.prog.cellsOf 9 = 1 := by kernel_rfl
theorem cells2 : Tryz.prog.cellsOf 2 = 1 := by kernel_rfl
theorem cells3 : Tryz.prog.cellsOf 3 = 1 := by kernel_rfl
theorem text_of {s : ByteArray} {l : List UInt8} (h : s.data.toList = l) : s = ⟨l.toArray⟩ := of_list s l h
theorem si_cells {H : Type} {enc : TypeId × Value → H} {W : World} {base : Nat} {sp : Nat → Bool} {held : Bool} {fuel : Nat} {cs : List Value} {x : DataW H × List MemPlace} {t t1 : TypeId} {a : List UInt8} {b : Int} {f0 f1 : Field}
    (hu : Tryz.prog.underlying t = some (.struct #[f0, f1])) (hf0 : f0.type = 9) (ho0 : f0.offset = 0) (hf1 : f1.type = t1) (ho1 : f1.offset = 1) (ht : Tryz.prog.underlying t1 = some (.int .i64)) (hc : Tryz.prog.cellsOf t1 = 1)
    (h : DataW.trod enc Tryz.prog W base sp held fuel t cs = some x) (hx : x.1 = .agg [.lit (.string a), .lit (.int .i64 b)]) : cs[0]? = some (.string ⟨a.toArray⟩) ∧ cs[1]? = some (.int .i64 b) := by
  obtain ⟨y0, y1, n, rfl, _, h0, h1⟩ := trod_struct2 hu h
  simp only [DataW.agg.injEq, List.cons.injEq, and_true] at hx
  rw [hf0, ho0] at h0
  rw [hf1, ho1] at h1
  obtain ⟨z0, c0, e0, _⟩ := DataW.trod_string Tryz.underlying9 h0
  obtain ⟨z1, c1, e1, _⟩ := DataW.trod_int ht h1
  rw [e0, e1] at hx
  simp only [DataW.lit.injEq, Lit.int.injEq, Lit.string.injEq, true_and] at hx
  obtain ⟨q, rfl⟩ := hx
  rw [text_of q] at c0
  rw [cells9] at c0
  rw [hc] at c1
  constructor
  · have := congrArg (·[0]?) c0
    simpa [List.getElem?_take, List.getElem?_drop] using this
  · have := congrArg (·[0]?) c1
    simpa [List.getElem?_take, List.getElem?_drop] using this
theorem ii_cells {H : Type} {enc : TypeId × Value → H} {W : World} {base : Nat} {sp : Nat → Bool} {held : Bool} {fuel : Nat} {cs : List Value} {x : DataW H × List MemPlace} {t : TypeId} {a b : Int} {f0 f1 : Field}
    (hu : Tryz.prog.underlying t = some (.struct #[f0, f1])) (hf0 : f0.type = 2) (ho0 : f0.offset = 0) (hf1 : f1.type = 2) (ho1 : f1.offset = 1)
    (h : DataW.trod enc Tryz.prog W base sp held fuel t cs = some x) (hx : x.1 = .agg [.lit (.int .i64 a), .lit (.int .i64 b)]) : cs[0]? = some (.int .i64 a) ∧ cs[1]? = some (.int .i64 b) := by
  obtain ⟨y0, y1, n, rfl, _, h0, h1⟩ := trod_struct2 hu h
  simp only [DataW.agg.injEq, List.cons.injEq, and_true] at hx
  rw [hf0, ho0] at h0
  rw [hf1, ho1] at h1
  obtain ⟨z0, c0, e0, _⟩ := DataW.trod_int Tryz.underlying2 h0
  obtain ⟨z1, c1, e1, _⟩ := DataW.trod_int Tryz.underlying2 h1
  rw [e0, e1] at hx
  simp only [DataW.lit.injEq, Lit.int.injEq, true_and] at hx
  obtain ⟨rfl, rfl⟩ := hx
  rw [cells2] at c0 c1
  constructor
  · have := congrArg (·[0]?) c0
    simpa [List.getElem?_take, List.getElem?_drop] using this
  · have := congrArg (·[0]?) c1
    simpa [List.getElem?_take, List.getElem?_drop] using this
theorem tab_pairs {W : World} {name : String} {g : Nat} {ty ety : TypeId} {n : Nat} (rows : List (DataW Unit × Value × Value)) (hg : Tryz.prog.globalNamed name = some g) (hty : (Tryz.prog.globals[g]?).map (·.type) = some ty)
    (hu : Tryz.prog.underlying ty = some (.array n ety)) (hc : Tryz.prog.cellsOf ety = 2) (hn : rows.length = n)
    (hrow : ∀ r ∈ rows, ∀ fuel cs x, DataW.trod (fun _ => ()) Tryz.prog W 0 (fun _ => true) false fuel ety cs = some x → x.1 = r.1 → cs[0]? = some r.2.1 ∧ cs[1]? = some r.2.2)
    (h : Lib.VarReads Tryz.prog W name (.agg (rows.map (·.1)))) : TabAt W g (rows.flatMap fun r => [r.2.1, r.2.2]) := by
  obtain ⟨g', t', cs, fuel, p, h1, h2, h3, h4⟩ := h
  obtain rfl := Option.some.inj (hg.symm.trans h1)
  obtain rfl := Option.some.inj (hty.symm.trans h2)
  obtain ⟨xs, m, _, hx, hl, hxn, hi⟩ := DataW.trod_array hu h4
  rw [hc] at hi
  simp only [Prod.mk.injEq] at hx
  have hmap : xs.map (·.1) = rows.map (·.1) := by
    have := hx.1
    rw [DataW.agg.injEq] at this
    exact this.symm
  have each : ∀ i (r : DataW Unit × Value × Value), rows[i]? = some r → cs.toList[i * 2]? = some r.2.1 ∧ cs.toList[i * 2 + 1]? = some r.2.2 := fun i r hr => by
    have hin : i < n := by rw [← hn]; exact (List.getElem?_eq_some_iff.1 hr).1
    have e : (xs.map (·.1))[i]? = some r.1 := by rw [hmap, List.getElem?_map, hr]; rfl
    obtain ⟨x, hxi, hxe⟩ : ∃ x, xs[i]? = some x ∧ x.1 = r.1 := by
      rw [List.getElem?_map, Option.map_eq_some_iff] at e; exact e
    have hh := hi i hin
    rw [hxi] at hh
    obtain ⟨c0, c1⟩ := hrow r (List.mem_of_getElem? hr) _ _ x hh hxe
    constructor
    · simpa [List.getElem?_take, List.getElem?_drop] using c0
    · simpa [List.getElem?_take, List.getElem?_drop] using c1
  intro k v hk
  have hcell := World.var?_cell hg h3 k
  rw [show W.cell? ⟨g, k, none⟩ = cs[k]? from by simpa using hcell]
  have key : ∀ (rs : List (DataW Unit × Value × Value)) (k : Nat) (v : Value), (rs.flatMap fun r => [r.2.1, r.2.2])[k]? = some v → ∃ i r, rs[i]? = some r ∧ ((k = i * 2 ∧ v = r.2.1) ∨ (k = i * 2 + 1 ∧ v = r.2.2)) := by
    intro rs
    induction rs with
    | nil => intro k v h; simp at h
    | cons r rs ih =>
      intro k v h
      match k, h with
      | 0, h => exact ⟨0, r, rfl, .inl ⟨rfl, by simpa using h.symm⟩⟩
      | 1, h => exact ⟨0, r, rfl, .inr ⟨rfl, by simpa using h.symm⟩⟩
      | k + 2, h =>
        obtain ⟨i, r', h1, h2⟩ := ih k v (by simpa using h)
        refine ⟨i + 1, r', by simpa using h1, ?_⟩
        rcases h2 with ⟨h2, h3⟩ | ⟨h2, h3⟩
        · exact .inl ⟨by omega, h3⟩
        · exact .inr ⟨by omega, h3⟩
  obtain ⟨i, r, hr, ⟨rfl, rfl⟩ | ⟨rfl, rfl⟩⟩ := key rows k v hk
  · have := (each i r hr).1
    simpa using this
  · have := (each i r hr).2
    simpa using this
theorem tab_texts {W : World} {name : String} {g : Nat} {ty : TypeId} {n : Nat} (rows : List (List UInt8)) (hg : Tryz.prog.globalNamed name = some g) (hty : (Tryz.prog.globals[g]?).map (·.type) = some ty)
    (hu : Tryz.prog.underlying ty = some (.array n 9)) (hn : rows.length = n)
    (h : Lib.VarReads Tryz.prog W name (.agg (rows.map fun r => .lit (.string r)))) : TabAt W g (rows.map fun r => .string ⟨r.toArray⟩) := by
  obtain ⟨g', t', cs, fuel, p, h1, h2, h3, h4⟩ := h
  obtain rfl := Option.some.inj (hg.symm.trans h1)
  obtain rfl := Option.some.inj (hty.symm.trans h2)
  obtain ⟨xs, m, _, hx, hl, hxn, hi⟩ := DataW.trod_array hu h4
  rw [cells9] at hi
  simp only [Prod.mk.injEq] at hx
  have hmap : xs.map (·.1) = rows.map fun r => .lit (.string r) := by
    have := hx.1
    rw [DataW.agg.injEq] at this
    exact this.symm
  intro k v hk
  have hcell := World.var?_cell hg h3 k
  rw [show W.cell? ⟨g, k, none⟩ = cs[k]? from by simpa using hcell]
  rw [List.getElem?_map, Option.map_eq_some_iff] at hk
  obtain ⟨r, hr, rfl⟩ := hk
  have hin : k < n := by rw [← hn]; exact (List.getElem?_eq_some_iff.1 hr).1
  have e : (xs.map (·.1))[k]? = some (.lit (.string r)) := by rw [hmap, List.getElem?_map, hr]; rfl
  obtain ⟨x, hxi, hxe⟩ : ∃ x, xs[k]? = some x ∧ x.1 = .lit (.string r) := by
    rw [List.getElem?_map, Option.map_eq_some_iff] at e; exact e
  have hh := hi k hin
  rw [hxi] at hh
  obtain ⟨z0, c0, e0, _⟩ := DataW.trod_string Tryz.underlying9 hh
  rw [e0] at hxe
  simp only [DataW.lit.injEq, Lit.string.injEq] at hxe
  rw [text_of hxe] at c0
  have := congrArg (·[0]?) c0
  simpa [List.getElem?_take, List.getElem?_drop] using this
theorem iisi_cells {H : Type} {enc : TypeId × Value → H} {W : World} {base : Nat} {sp : Nat → Bool} {held : Bool} {fuel : Nat} {cs : List Value} {x : DataW H × List MemPlace} {t : TypeId} {a b d : Int} {c : List UInt8} {f0 f1 f2 f3 : Field}
    (hu : Tryz.prog.underlying t = some (.struct #[f0, f1, f2, f3])) (hf0 : f0.type = 3) (ho0 : f0.offset = 0) (hf1 : f1.type = 3) (ho1 : f1.offset = 1) (hf2 : f2.type = 9) (ho2 : f2.offset = 2) (hf3 : f3.type = 2) (ho3 : f3.offset = 3)
    (h : DataW.trod enc Tryz.prog W base sp held fuel t cs = some x) (hx : x.1 = .agg [.lit (.int .i64 a), .lit (.int .i64 b), .lit (.string c), .lit (.int .i64 d)]) : cs[0]? = some (.int .i64 a) ∧ cs[1]? = some (.int .i64 b) ∧ cs[2]? = some (.string ⟨c.toArray⟩) ∧ cs[3]? = some (.int .i64 d) := by
  obtain ⟨y0, y1, y2, y3, n, rfl, _, h0, h1, h2, h3⟩ := Go.Joins.trod_struct4 hu h
  simp only [DataW.agg.injEq, List.cons.injEq, and_true] at hx
  rw [hf0, ho0] at h0
  rw [hf1, ho1] at h1
  rw [hf2, ho2] at h2
  rw [hf3, ho3] at h3
  obtain ⟨z0, c0, e0, _⟩ := DataW.trod_int Tryz.underlying3 h0
  obtain ⟨z1, c1, e1, _⟩ := DataW.trod_int Tryz.underlying3 h1
  obtain ⟨z2, c2, e2, _⟩ := DataW.trod_string Tryz.underlying9 h2
  obtain ⟨z3, c3, e3, _⟩ := DataW.trod_int Tryz.underlying2 h3
  rw [e0, e1, e2, e3] at hx
  simp only [DataW.lit.injEq, Lit.int.injEq, Lit.string.injEq, true_and] at hx
  obtain ⟨rfl, rfl, q, rfl⟩ := hx
  rw [text_of q] at c2
  rw [cells3] at c0 c1
  rw [cells9] at c2
  rw [cells2] at c3
  refine ⟨?_, ?_, ?_, ?_⟩
  · have := congrArg (·[0]?) c0
    simpa [List.getElem?_take, List.getElem?_drop] using this
  · have := congrArg (·[0]?) c1
    simpa [List.getElem?_take, List.getElem?_drop] using this
  · have := congrArg (·[0]?) c2
    simpa [List.getElem?_take, List.getElem?_drop] using this
  · have := congrArg (·[0]?) c3
    simpa [List.getElem?_take, List.getElem?_drop] using this
theorem tab_fours {W : World} {name : String} {g : Nat} {ty ety : TypeId} {n : Nat} (rows : List (DataW Unit × Value × Value × Value × Value)) (hg : Tryz.prog.globalNamed name = some g) (hty : (Tryz.prog.globals[g]?).map (·.type) = some ty)
    (hu : Tryz.prog.underlying ty = some (.array n ety)) (hc : Tryz.prog.cellsOf ety = 4) (hn : rows.length = n)
    (hrow : ∀ r ∈ rows, ∀ fuel cs x, DataW.trod (fun _ => ()) Tryz.prog W 0 (fun _ => true) false fuel ety cs = some x → x.1 = r.1 → cs[0]? = some r.2.1 ∧ cs[1]? = some r.2.2.1 ∧ cs[2]? = some r.2.2.2.1 ∧ cs[3]? = some r.2.2.2.2)
    (h : Lib.VarReads Tryz.prog W name (.agg (rows.map (·.1)))) : TabAt W g (rows.flatMap fun r => [r.2.1, r.2.2.1, r.2.2.2.1, r.2.2.2.2]) := by
  obtain ⟨g', t', cs, fuel, p, h1, h2, h3, h4⟩ := h
  obtain rfl := Option.some.inj (hg.symm.trans h1)
  obtain rfl := Option.some.inj (hty.symm.trans h2)
  obtain ⟨xs, m, _, hx, hl, hxn, hi⟩ := DataW.trod_array hu h4
  rw [hc] at hi
  simp only [Prod.mk.injEq] at hx
  have hmap : xs.map (·.1) = rows.map (·.1) := by
    have := hx.1
    rw [DataW.agg.injEq] at this
    exact this.symm
  have each : ∀ i (r : DataW Unit × Value × Value × Value × Value), rows[i]? = some r → cs.toList[i * 4]? = some r.2.1 ∧ cs.toList[i * 4 + 1]? = some r.2.2.1 ∧ cs.toList[i * 4 + 2]? = some r.2.2.2.1 ∧ cs.toList[i * 4 + 3]? = some r.2.2.2.2 := fun i r hr => by
    have hin : i < n := by rw [← hn]; exact (List.getElem?_eq_some_iff.1 hr).1
    have e : (xs.map (·.1))[i]? = some r.1 := by rw [hmap, List.getElem?_map, hr]; rfl
    obtain ⟨x, hxi, hxe⟩ : ∃ x, xs[i]? = some x ∧ x.1 = r.1 := by
      rw [List.getElem?_map, Option.map_eq_some_iff] at e; exact e
    have hh := hi i hin
    rw [hxi] at hh
    obtain ⟨c0, c1, c2, c3⟩ := hrow r (List.mem_of_getElem? hr) _ _ x hh hxe
    refine ⟨?_, ?_, ?_, ?_⟩
    · simpa [List.getElem?_take, List.getElem?_drop] using c0
    · simpa [List.getElem?_take, List.getElem?_drop] using c1
    · simpa [List.getElem?_take, List.getElem?_drop] using c2
    · simpa [List.getElem?_take, List.getElem?_drop] using c3
  intro k v hk
  have hcell := World.var?_cell hg h3 k
  rw [show W.cell? ⟨g, k, none⟩ = cs[k]? from by simpa using hcell]
  have key : ∀ (rs : List (DataW Unit × Value × Value × Value × Value)) (k : Nat) (v : Value), (rs.flatMap fun r => [r.2.1, r.2.2.1, r.2.2.2.1, r.2.2.2.2])[k]? = some v → ∃ i r, rs[i]? = some r ∧ ((k = i * 4 ∧ v = r.2.1) ∨ (k = i * 4 + 1 ∧ v = r.2.2.1) ∨ (k = i * 4 + 2 ∧ v = r.2.2.2.1) ∨ (k = i * 4 + 3 ∧ v = r.2.2.2.2)) := by
    intro rs
    induction rs with
    | nil => intro k v h; simp at h
    | cons r rs ih =>
      intro k v h
      match k, h with
      | 0, h => exact ⟨0, r, rfl, .inl ⟨rfl, by simpa using h.symm⟩⟩
      | 1, h => exact ⟨0, r, rfl, .inr (.inl ⟨rfl, by simpa using h.symm⟩)⟩
      | 2, h => exact ⟨0, r, rfl, .inr (.inr (.inl ⟨rfl, by simpa using h.symm⟩))⟩
      | 3, h => exact ⟨0, r, rfl, .inr (.inr (.inr ⟨rfl, by simpa using h.symm⟩))⟩
      | k + 4, h =>
        obtain ⟨i, r', h1, h2⟩ := ih k v (by simpa using h)
        refine ⟨i + 1, r', by simpa using h1, ?_⟩
        rcases h2 with ⟨h2, h3⟩ | ⟨h2, h3⟩ | ⟨h2, h3⟩ | ⟨h2, h3⟩
        · exact .inl ⟨by omega, h3⟩
        · exact .inr (.inl ⟨by omega, h3⟩)
        · exact .inr (.inr (.inl ⟨by omega, h3⟩))
        · exact .inr (.inr (.inr ⟨by omega, h3⟩))
  obtain ⟨i, r, hr, ⟨rfl, rfl⟩ | ⟨rfl, rfl⟩ | ⟨rfl, rfl⟩ | ⟨rfl, rfl⟩⟩ := key rows k v hk
  · have := (each i r hr).1
    simpa using this
  · have := (each i r hr).2.1
    simpa using this
  · have := (each i r hr).2.2.1
    simpa using this
  · have := (each i r hr).2.2.2
    simpa using this
def siRow (s : List UInt8) (n : Int) : DataW Unit × Value × Value := (.agg [.lit (.string s), .lit (.int .i64 n)], .string ⟨s.toArray⟩, .int .i64 n)
def iiRow (a b : Int) : DataW Unit × Value × Value := (.agg [.lit (.int .i64 a), .lit (.int .i64 b)], .int .i64 a, .int .i64 b)
def opRowW (r : Int × Int × Bs × Int) : DataW Unit × Value × Value × Value × Value := (.agg [.lit (.int .i64 r.1), .lit (.int .i64 r.2.1), .lit (.string r.2.2.1), .lit (.int .i64 r.2.2.2)], .int .i64 r.1, .int .i64 r.2.1, .string ⟨r.2.2.1.toArray⟩, .int .i64 r.2.2.2)
abbrev laid7 : List (String × DataW Unit) := [("capstan/num.spans", Rows.laid_capstan_num_spans), ("capstan/expr.keywords", Rows.laid_capstan_expr_keywords), ("capstan/expr.operations", Rows.laid_capstan_expr_operations), ("capstan/expr.conversions", Rows.laid_capstan_expr_conversions), ("capstan/stmt.namings", Rows.laid_capstan_stmt_namings), ("capstan/decl.typeWords", Rows.laid_capstan_decl_typeWords), ("capstan/decl.sectionWords", Rows.laid_capstan_decl_sectionWords)]
theorem op_rows : (opRows.map opRowW).flatMap (fun r => [r.2.1, r.2.2.1, r.2.2.2.1, r.2.2.2.2]) = opTab := by
  unfold opTab
  rw [List.flatMap_map]
  rfl
theorem cv_rows : (cvRows.map fun r => siRow r.1 r.2).flatMap (fun r => [r.2.1, r.2.2]) = cvTab := by
  unfold cvTab
  rw [List.flatMap_map]
  rfl
theorem tw_rows : (twRows.map fun r => siRow r.1 r.2).flatMap (fun r => [r.2.1, r.2.2]) = twTab := by
  unfold twTab
  rw [List.flatMap_map]
  rfl
theorem sw_rows : (swRows.map fun r => siRow r.1 r.2).flatMap (fun r => [r.2.1, r.2.2]) = swTab := by
  unfold swTab
  rw [List.flatMap_map]
  rfl
set_option maxRecDepth 100000 in
theorem glo_of_laid {W : World} (h' : laidMetH Tryz.prog laid7 W) : Glo W := by
  have hh : laidMet Tryz.prog laid7 W := h'
  have r1 := Lib.laidMet.reads hh (List.mem_cons_self)
  have r2 := Lib.laidMet.reads hh (List.mem_cons_of_mem _ List.mem_cons_self)
  have r3 := Lib.laidMet.reads hh (List.mem_cons_of_mem _ (List.mem_cons_of_mem _ List.mem_cons_self))
  have r4 := Lib.laidMet.reads hh (List.mem_cons_of_mem _ (List.mem_cons_of_mem _ (List.mem_cons_of_mem _ List.mem_cons_self)))
  have r5 := Lib.laidMet.reads hh (List.mem_cons_of_mem _ (List.mem_cons_of_mem _ (List.mem_cons_of_mem _ (List.mem_cons_of_mem _ List.mem_cons_self))))
  have r6 := Lib.laidMet.reads hh (List.mem_cons_of_mem _ (List.mem_cons_of_mem _ (List.mem_cons_of_mem _ (List.mem_cons_of_mem _ (List.mem_cons_of_mem _ List.mem_cons_self)))))
  have r7 := Lib.laidMet.reads hh (List.mem_cons_of_mem _ (List.mem_cons_of_mem _ (List.mem_cons_of_mem _ (List.mem_cons_of_mem _ (List.mem_cons_of_mem _ (List.mem_cons_of_mem _ List.mem_cons_self))))))
  refine ⟨?_, ?_, ?_, ?_, ?_, ?_⟩
  · exact tab_pairs (g := 0) (ty := 58) (ety := 57) (n := 5) [iiRow 0 0, iiRow 0 1, iiRow (-32768) 32767, iiRow (-2147483648) 2147483647, iiRow (-2147483648) 2147483647] (by kernel_rfl) (by kernel_rfl) Tryz.underlying58 (by kernel_rfl) rfl
      (fun r hr fuel cs x hx hxe => by
        simp only [List.mem_cons, List.not_mem_nil, or_false] at hr
        rcases hr with rfl | rfl | rfl | rfl | rfl <;> exact ii_cells Tryz.underlying57 rfl rfl rfl rfl hx hxe) r1
  · exact tab_texts (g := 1) (ty := 163) (n := 51) kwB (by kernel_rfl) (by kernel_rfl) Tryz.underlying163 rfl r2
  · rw [← op_rows]
    exact tab_fours (g := 2) (ty := 165) (ety := 126) (n := 17) (opRows.map opRowW) (by kernel_rfl) (by kernel_rfl) Tryz.underlying165 (by kernel_rfl) rfl
      (fun r hr fuel cs x hx hxe => by
        obtain ⟨q, _, rfl⟩ := List.mem_map.1 hr
        exact iisi_cells Tryz.underlying126 rfl rfl rfl rfl rfl rfl rfl rfl hx hxe) r3
  · rw [← cv_rows]
    exact tab_pairs (g := 3) (ty := 166) (ety := 130) (n := 3) (cvRows.map fun r => siRow r.1 r.2) (by kernel_rfl) (by kernel_rfl) Tryz.underlying166 (by kernel_rfl) rfl
      (fun r hr fuel cs x hx hxe => by
        obtain ⟨q, _, rfl⟩ := List.mem_map.1 hr
        exact si_cells Tryz.underlying130 rfl rfl rfl rfl Tryz.underlying3 cells3 hx hxe) r4
  · rw [← tw_rows]
    exact tab_pairs (g := 4) (ty := 206) (ety := 205) (n := 14) (twRows.map fun r => siRow r.1 r.2) (by kernel_rfl) (by kernel_rfl) Tryz.underlying206 (by kernel_rfl) rfl
      (fun r hr fuel cs x hx hxe => by
        obtain ⟨q, _, rfl⟩ := List.mem_map.1 hr
        exact si_cells Tryz.underlying205 rfl rfl rfl rfl Tryz.underlying3 cells3 hx hxe) r6
  · rw [← sw_rows]
    exact tab_pairs (g := 5) (ty := 209) (ety := 208) (n := 3) (swRows.map fun r => siRow r.1 r.2) (by kernel_rfl) (by kernel_rfl) Tryz.underlying209 (by kernel_rfl) rfl
      (fun r hr fuel cs x hx hxe => by
        obtain ⟨q, _, rfl⟩ := List.mem_map.1 hr
        exact si_cells Tryz.underlying208 rfl rfl rfl rfl Tryz.underlying3 cells3 hx hxe) r7
def nmTab : List Value := [.int .i64 1, .bool true, .bool true, .bool true, .bool false, .bool false, .bool false, .bool false, .bool false, .bool false, .int .i64 2, .bool false, .bool false, .bool true, .bool false, .bool false, .bool true, .bool true, .bool false, .bool false, .int .i64 3, .bool false, .bool false, .bool true, .bool false, .bool false, .bool true, .bool false, .bool false, .bool false, .int .i64 4, .bool false, .bool false, .bool true, .bool false, .bool false, .bool true, .bool false, .bool false, .bool false, .int .i64 5, .bool true, .bool false, .bool true, .bool true, .bool true, .bool true, .bool false, .bool false, .bool false, .int .i64 6, .bool false, .bool false, .bool true, .bool false, .bool false, .bool false, .bool true, .bool true, .bool false, .int .i64 7, .bool true, .bool false, .bool false, .bool false, .bool false, .bool false, .bool false, .bool false, .bool true, .int .i64 8, .bool false, .bool false, .bool false, .bool false, .bool false, .bool false, .bool false, .bool false, .bool false, .int .i64 9, .bool false, .bool false, .bool false, .bool false, .bool false, .bool false, .bool false, .bool false, .bool false]
def layGlo (w : World) : World :=
  let lay (k : Nat) (t : List Value) (w : World) : World := { w with heap := w.heap.modify k fun
      | .cells _ ty frozen => .cells t.toArray ty frozen
      | o => o }
  lay 0 spanTab (lay 1 kwTab (lay 2 opTab (lay 3 cvTab (lay 4 twTab (lay 5 swTab (lay 6 nmTab w))))))
end Go.Proofs.YtldjiieckddhkaaGreatDoor
namespace Go.Proofs.YtldjiieckddhkaaGreatDoor
open Go.RowKit
set_option maxRecDepth 100000 in
theorem eDigit_any (c : UInt8) (w : World) : Calls Tryz.prog 143 #[.int .u8 (c.toNat : Int)] w fun e w' => e = .returned (.bool (isDig c)) ∧ w' = w := by
  have E := hide (dig_int c)
  generalize (c.toNat : Int) = x at *
  by_cases h1 : (48 : Int) ≤ x
  · go_enter Tryz.func143, Tryz.ntmps143
    go_wp2
    go_ret
    exact ⟨ret_bool (by rw [E.out, Bool.eq_iff_iff]; simp; try omega), rfl⟩
  · go_enter Tryz.func143, Tryz.ntmps143
    go_wp2
    go_ret
    exact ⟨ret_bool (by rw [E.out, Bool.eq_iff_iff]; simp; try omega), rfl⟩
def capB (c : UInt8) : Bool := (decide (65 ≤ c) && decide (c ≤ 90)) || decide (c = 95)
theorem cap_int (c : UInt8) : capB c = ((decide ((65 : Int) ≤ (c.toNat : Int)) && decide ((c.toNat : Int) ≤ 90)) || decide ((c.toNat : Int) = 95)) := by
  unfold capB
  have e1 : decide ((65 : UInt8) ≤ c) = decide ((65 : Int) ≤ (c.toNat : Int)) := by rw [decide_eq_decide, u8_le]; rfl
  have e2 : decide (c ≤ (90 : UInt8)) = decide ((c.toNat : Int) ≤ 90) := by rw [decide_eq_decide, u8_le]; rfl
  have e3 : decide (c = (95 : UInt8)) = decide ((c.toNat : Int) = 95) := by rw [decide_eq_decide, u8_eq]; rfl
  rw [e1, e2, e3]
theorem capC_eq (c : UInt8) : capC c = (capB c || isDig c) := by
  unfold capC capB
  cases isDig c <;> cases (decide (65 ≤ c) && decide (c ≤ 90)) <;> simp
set_option maxRecDepth 100000 in
theorem eCap_any (c : UInt8) (w : World) : Calls Tryz.prog 144 #[.int .u8 (c.toNat : Int)] w fun e w' => e = .returned (.bool (capB c)) ∧ w' = w := by
  have E := hide (cap_int c)
  generalize (c.toNat : Int) = x at *
  by_cases h1 : (65 : Int) ≤ x
  · by_cases h2 : x ≤ 90
    · go_enter Tryz.func144, Tryz.ntmps144
      go_wp2
      go_ret
      exact ⟨ret_bool (by rw [E.out, Bool.eq_iff_iff]; simp; try omega), rfl⟩
    · go_enter Tryz.func144, Tryz.ntmps144
      go_wp2
      go_ret
      exact ⟨ret_bool (by rw [E.out, Bool.eq_iff_iff]; simp; try omega), rfl⟩
  · go_enter Tryz.func144, Tryz.ntmps144
    go_wp2
    go_ret
    exact ⟨ret_bool (by rw [E.out, Bool.eq_iff_iff]; simp; try omega), rfl⟩
theorem beq_text (a b : ByteArray) : (a.toList == b.toList) = decide (a = b) := by
  rw [ByteArray.toList_eq, ByteArray.toList_eq]
  by_cases h : a = b
  · rw [h, decide_eq_true rfl]; exact beq_self_eq_true _
  · rw [decide_eq_false h, beq_eq_false_iff_ne]; exact fun e => h (text_ext e)
theorem nil_text (s : Bs) : (⟨s.toArray⟩ : ByteArray).toList.isEmpty = decide (s = []) := by
  rw [ByteArray.toList_eq]
  cases s <;> rfl
set_option maxRecDepth 100000 in
set_option maxHeartbeats 1600000 in
theorem eWord_any (s : Bs) (w : World) : Calls Tryz.prog 106 #[.string ⟨s.toArray⟩] w fun e w' => e = .returned (.bool (wordB s)) ∧ w' = w := by
  match s with
  | [] =>
    go_enter Tryz.func106, Tryz.ntmps106
    go_wp2
    go_ret
    exact ⟨rfl, rfl⟩
  | c :: r =>
    have e2 : (⟨(c :: r).toArray⟩ : ByteArray).toList.isEmpty = false := by rw [nil_text]; rfl
    have hsz := list_size (c :: r)
    have HW : Hid (wordB (c :: r) = (decide (r.length + 1 ≤ 24) && (!isDig c && (c :: r).all capC))) := rfl
    have HX : Hid (∀ (i : Nat) (h : i < (c :: r).length), ∀ W : World, (Instr.index 9 (.string ⟨(c :: r).toArray⟩) (.int .i64 (i : Int))).run Tryz.prog W = .ok (.int .u8 ((c :: r)[i].toNat : Int)) W) := fun i h W => run_idx ⟨(c :: r).toArray⟩ i (c :: r)[i] (List.getElem?_eq_getElem h) W
    have x0 := HX.out 0 (by simp)
    simp only [List.getElem_cons_zero] at x0
    have x0' : ∀ W : World, (Instr.index 9 (.string ⟨(c :: r).toArray⟩) (.int .i64 0)).run Tryz.prog W = .ok (.int .u8 (c.toNat : Int)) W := x0
    have d0 := eDigit_any c w
    clear x0
    by_cases hl : 24 < (c :: r).length
    · have i1 : (24 : Int) < ((⟨(c :: r).toArray⟩ : ByteArray).size : Int) := by omega
      have HE : Hid (wordB (c :: r) = false) := by
        show _ = _
        rw [HW.out, decide_eq_false (by simp at hl; omega)]; rfl
      generalize (⟨(c :: r).toArray⟩ : ByteArray) = S at *
      clear hsz HX d0 x0' hl
      go_enter Tryz.func106, Tryz.ntmps106
      go_wp2
      go_ret
      exact ⟨ret_bool HE.out.symm, rfl⟩
    · have i1 : ¬ (24 : Int) < ((⟨(c :: r).toArray⟩ : ByteArray).size : Int) := by omega
      have HT : Hid (decide (r.length + 1 ≤ 24) = true) := decide_eq_true (by simp at hl; omega)
      obtain ⟨N, hN⟩ : ∃ N, N = (c :: r).length := ⟨_, rfl⟩
      have HN := hide hN
      rw [← hN] at hsz hl
      have n1 : (N : Int) ≤ 24 := by omega
      generalize (⟨(c :: r).toArray⟩ : ByteArray) = S at *
      have HSZ := hide hsz
      cases hd : isDig c with
      | true =>
        rw [hd] at d0
        have HE : Hid (wordB (c :: r) = false) := by
          show _ = _
          rw [HW.out, hd]; simp
        clear hsz HX hl hN
        go_enter Tryz.func106, Tryz.ntmps106
        go_wp2_with fail
        refine d0.mono ?_
        rintro e w1 ⟨rfl, hw1⟩
        subst hw1
        go_wp2
        go_ret
        exact ⟨ret_bool HE.out.symm, rfl⟩
      | false =>
        rw [hd] at d0
        have HE : Hid (wordB (c :: r) = (c :: r).all capC) := by
          show _ = _
          rw [HW.out, HT.out, hd]; simp
        have hsz2 : (S.size : Int) = (N : Int) := by omega
        clear hl hN hsz HW HT
        go_enter Tryz.func106, Tryz.ntmps106
        go_wp2_with fail
        refine d0.mono ?_
        rintro e w1 ⟨rfl, hw1⟩
        subst hw1
        clear d0 x0'
        go_wp2_with fail
        go_loopw [18] (fun i wr => ∃ k : Nat, k ≤ N ∧ i = .int .i64 (k : Int) ∧ Hid (((c :: r).take k).all capC = true ∧ wr = w1)) (fun i _ => N - (intOf i).toNat)
        case atStart => exact ⟨0, by omega, rfl, rfl, rfl⟩
        case round =>
          obtain ⟨k, hk, rfl, hh⟩ := hrel
          obtain ⟨ha, hw⟩ := hh.out
          subst hw
          have HA := hide ha
          by_cases hlt : k < N
          · have j1 : (k : Int) < (N : Int) := by omega
            have hki : k < (c :: r).length := by rw [← HN.out]; exact hlt
            have xi := HX.out k hki
            obtain ⟨b, hb⟩ : ∃ b, b = (c :: r)[k] := ⟨_, rfl⟩
            rw [← hb] at xi
            have c1 := fun W => eCap_any b W
            have c2 := fun W => eDigit_any b W
            have HS : Hid (capC b = true → ((c :: r).take (k + 1)).all capC = true) := fun h => by
              rw [List.take_add_one, List.all_append, HA.out, List.getElem?_eq_getElem hki, ← hb]
              simp [h]
            have HF : Hid (capC b = false → (c :: r).all capC = false) := fun h => by
              rw [List.all_eq_false]
              exact ⟨b, by rw [hb]; exact List.getElem_mem hki, by rw [h]; decide⟩
            have HC := hide (capC_eq b)
            clear hb hki ha hh
            go_wp2_with fail
            refine (c1 _).mono ?_
            rintro e w2 ⟨rfl, hw2⟩
            subst hw2
            cases hcb : capB b with
            | true =>
              have HR := hide (HS.out (by rw [HC.out, hcb]; rfl))
              clear c1 c2 HS HF
              go_wp2
              go_roundw
              case rel => exact ⟨k + 1, by omega, by go_num, HR.out, by trivial⟩
              case measure => simp [intOf]; omega
            | false =>
              go_wp2_with fail
              refine (c2 _).mono ?_
              rintro e w3 ⟨rfl, hw3⟩
              subst hw3
              cases hdb : isDig b with
              | true =>
                have HR := hide (HS.out (by rw [HC.out, hcb, hdb]; rfl))
                clear c1 c2 HS HF
                go_wp2
                go_roundw
                case rel => exact ⟨k + 1, by omega, by go_num, HR.out, by trivial⟩
                case measure => simp [intOf]; omega
              | false =>
                have HR := hide (HF.out (by rw [HC.out, hcb, hdb]; rfl))
                clear c1 c2 HS HF
                go_wp2
                go_ret
                exact ⟨ret_bool (by rw [HE.out, HR.out]), rfl⟩
          · obtain rfl : k = N := by omega
            have HT2 : Hid ((c :: r).all capC = true) := by
              have h := HA.out
              rw [List.take_of_length_le (by rw [← HN.out]; exact Nat.le_refl _)] at h
              exact h
            clear hh ha HA
            go_wp2
            go_ret
            exact ⟨ret_bool (by rw [HE.out, HT2.out]), rfl⟩
theorem size163' : (Tryz.prog.info? 163).map (·.size) = some 51 := by kernel_rfl
theorem size163 : (Tryz.prog.info? 163).map (·.size) = some kwTab.length := size163'
theorem kw_idx (k : Nat) (h : k < 51) (W : World) : (Instr.index 163 (.agg kwTab.toArray) (.int .i64 (k : Int))).run Tryz.prog W = .ok (.string ⟨(kwB[k]'h).toArray⟩) W :=
  index_cell Tryz.underlying163 (fun _ => Tryz.isAgg9 _) (fun _ => Tryz.sizeOf9 _) _ k h _ (by
    rw [List.getElem?_toArray, kwTab, List.getElem?_map, List.getElem?_eq_getElem (show k < kwB.length from h)]; rfl) W
set_option maxRecDepth 100000 in
set_option maxHeartbeats 1600000 in
theorem eName_any (s : Bs) (w : World) (hg : TabAt w 1 kwTab) : Calls Tryz.prog 105 #[.string ⟨s.toArray⟩] w fun e w' => e = .returned (.bool (nameB s)) ∧ w' = w := by
  have HN : Hid (nameB s = (!(kwB.contains s) && wordB s)) := rfl
  have c1 := fun W => eWord_any s W
  have ix : Hid (∀ (k : Nat) (h : k < 51) (W : World), (Instr.index 163 (.agg kwTab.toArray) (.int .i64 (k : Int))).run Tryz.prog W = .ok (.string ⟨(kwB[k]'h).toArray⟩) W) := kw_idx
  obtain ⟨S, hS⟩ : ∃ S : ByteArray, S = ⟨s.toArray⟩ := ⟨_, rfl⟩
  rw [← hS] at c1 ⊢
  have HS := hide hS
  clear hS
  obtain ⟨KT, hT⟩ : ∃ KT, Value.agg kwTab.toArray = KT := ⟨_, rfl⟩
  rw [hT] at ix
  go_enter Tryz.func105, Tryz.ntmps105
  go_wp2_with ((with_reducible refine at_load (ty := 163) ?_); go_must (refine load_tab (b := 1) (t := kwTab) (T := KT) rfl hg hT Tryz.underlying163 rfl size163 ?_))
  clear hg hT
  go_loop [6] (fun i => ∃ k : Nat, k ≤ 51 ∧ i = .int .i64 (k : Int) ∧ Hid ((kwB.take k).contains s = false)) (fun i => 51 - (intOf i).toNat)
  case atStart => exact ⟨0, by omega, rfl, rfl⟩
  case round =>
    obtain ⟨k, hk, rfl, hf⟩ := hrel
    by_cases hlt : k < 51
    · have x0 := ix.out k hlt
      have i1 : (k : Int) < 51 := by omega
      obtain ⟨g, hgk⟩ : ∃ g, g = kwB[k]'hlt := ⟨_, rfl⟩
      rw [← hgk] at x0
      have bt := beq_text ⟨g.toArray⟩ S
      have HM : Hid (g ∈ kwB) := by rw [hgk]; exact List.getElem_mem _
      have HTK : Hid (kwB.take (k + 1) = kwB.take k ++ [g]) := by
        show _ = _
        rw [List.take_add_one, List.getElem?_eq_getElem (show k < kwB.length from hlt), hgk]; rfl
      obtain ⟨u, HU⟩ : ∃ u : ByteArray, Hid ((⟨g.toArray⟩ : ByteArray) = u) := ⟨_, rfl⟩
      rw [HU.out] at x0 bt
      clear hgk ix
      by_cases he : u = S
      · have hb : (u.toList == S.toList) = true := by rw [bt]; exact decide_eq_true he
        have HE : Hid (nameB s = false) := by
          show _ = _
          have hgs : g = s := by
            have e : (⟨g.toArray⟩ : ByteArray) = ⟨s.toArray⟩ := by rw [HU.out, ← HS.out]; exact he
            simpa using congrArg (fun x : ByteArray => x.data.toList) e
          rw [HN.out, show kwB.contains s = true from by rw [List.contains_iff_mem, ← hgs]; exact HM.out]; rfl
        clear bt he c1 hf
        go_wp2
        go_ret
        exact ⟨ret_bool HE.out.symm, rfl⟩
      · have hb : (u.toList == S.toList) = false := by rw [bt]; exact decide_eq_false he
        have HR : Hid ((kwB.take (k + 1)).contains s = false) := by
          show _ = _
          rw [HTK.out]
          have h1 := hf.out
          rw [Bool.eq_false_iff, Ne, List.contains_iff_mem] at h1 ⊢
          intro h
          rcases List.mem_append.1 h with h | h
          · exact h1 h
          · exact he (by rw [← HU.out, HS.out, List.mem_singleton.1 h])
        clear bt he c1 hf
        go_wp2
        go_round
        case rel => exact ⟨k + 1, by omega, by go_num, HR.out⟩
        case measure => simp [intOf]; omega
    · obtain rfl : k = 51 := by omega
      have HE : Hid (nameB s = wordB s) := by
        show _ = _
        have h := hf.out
        rw [List.take_of_length_le (show kwB.length ≤ 51 from Nat.le_refl _)] at h
        rw [HN.out, h]; rfl
      clear hf ix
      go_wp2_with fail
      refine (c1 _).mono ?_
      rintro e w1 ⟨rfl, hw1⟩
      subst hw1
      go_wp2
      go_ret
      exact ⟨ret_bool HE.out.symm, rfl⟩
end Go.Proofs.YtldjiieckddhkaaGreatDoor
