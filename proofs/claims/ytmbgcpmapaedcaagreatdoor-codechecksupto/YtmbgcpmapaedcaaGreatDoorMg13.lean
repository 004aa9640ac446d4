/- The chapter's example: works. | What the rows' list gives: the program's tables lie in memory; a world that shows that the list can be met; an instruction among the arguments. -/
import Derived.Test.YtmbgcpmapaedcaaGreatDoorMg11
import Derived.Test.YtmbgcpmapaedcaaGreatDoorMg12
import Derived.Test.YtmbgcpmapaedcaaGreatDoorCards
import Derived.Test.YtmbgcpmapaedcaaGreatDoorTie
import Derived.WalkKit
import Derived.ProofKit
import Derived.OpenShut
import Derived.Deep.DeepHandedRow
import Derived.Lib.LaidTab
import Derived.Lib.LaidU8
import Derived.Lib.SmallJoins
import Derived.Shelf.LaysM
namespace Go.Proofs.YtmbgcpmapaedcaaGreatDoor
open Go.RowKit
def exC1 : List Ins := [⟨1, 2, 0, 5⟩, ⟨3, 0, 0, 0⟩, ⟨12, 0, 0, 0⟩]
def exC2 : List Ins := [⟨1, 2, 0, 5⟩, ⟨2, 1, 0, 0⟩, ⟨12, 0, 0, 0⟩]
def exI (c : List Ins) : Img := ⟨[80], [2], [0], [], [], c⟩
theorem ex_one : chkP (exI exC1) = (0, 0) := by decide +kernel
theorem ex_two : chkP (exI exC2) = (1, 130) := by decide +kernel
theorem ex_show : shI ⟨1, 2, 0, -5⟩ = [80, 85, 83, 72, 32, 50, 32, 48, 32, 45, 53] := by decide +kernel
theorem ex_im (W : World) (g0 g1 g2 : Nat) (c : List Ins) (hc : c.length = 3) (h0 : W.heap[g0]? = some (.cells #[.int .i64 2] 3 (0, 0))) (h1 : W.heap[g1]? = some (.cells #[.int .i64 0] 2 (0, 0)))
    (h2 : W.heap[g2]? = some (.cells (c.flatMap fun i => [.int .i64 i.op, .int .i64 i.a, .int .i64 i.b, .int .i64 i.n]).toArray 41 (0, 0))) :
    Im W (.string ⟨#[80]⟩) (.slice (some ⟨g0, 0, none⟩) 1 1) (.slice (some ⟨g1, 0, none⟩) 1 1) (.slice none 0 0) (.slice none 0 0) (.slice (some ⟨g2, 0, none⟩) 3 3) (exI c) := by
  obtain ⟨i, j, k, rfl⟩ : ∃ i j k, c = [i, j, k] := by match c, hc with | [i, j, k], _ => exact ⟨i, j, k, rfl⟩
  refine ⟨rfl, ⟨_, g0, 0, 1, rfl, fun _ => ⟨(Array.getElem?_eq_some_iff.1 h0).1, rfl⟩, fun i x hx => ?_⟩, ⟨_, g1, 0, 1, rfl, fun _ => ⟨(Array.getElem?_eq_some_iff.1 h1).1, rfl⟩, fun i x hx => ?_⟩, ILst.nil W 0, ILst.nil W 0, ⟨_, g2, 0, 3, rfl, fun _ => ⟨(Array.getElem?_eq_some_iff.1 h2).1, rfl⟩, fun t q hq => ?_⟩⟩
  · match i, hx with
    | 0, hx => obtain rfl := Option.some.inj hx; rw [Lib.cell_of_heap h0]; rfl
  · match i, hx with
    | 0, hx => obtain rfl := Option.some.inj hx; rw [Lib.cell_of_heap h1]; rfl
  · match t, hq with
    | 0, hq => obtain rfl := Option.some.inj hq; exact ⟨by rw [Lib.cell_of_heap h2]; rfl, by rw [Lib.cell_of_heap h2]; rfl, by rw [Lib.cell_of_heap h2]; rfl, by rw [Lib.cell_of_heap h2]; rfl⟩
    | 1, hq => obtain rfl := Option.some.inj hq; exact ⟨by rw [Lib.cell_of_heap h2]; rfl, by rw [Lib.cell_of_heap h2]; rfl, by rw [Lib.cell_of_heap h2]; rfl, by rw [Lib.cell_of_heap h2]; rfl⟩
    | 2, hq => obtain rfl := Option.some.inj hq; exact ⟨by rw [Lib.cell_of_heap h2]; rfl, by rw [Lib.cell_of_heap h2]; rfl, by rw [Lib.cell_of_heap h2]; rfl, by rw [Lib.cell_of_heap h2]; rfl⟩
theorem ex_l (c : List Ins) (hc : c.length = 3) : ImL (exI c) := ⟨by show 1 ≤ _; omega, by show 1 ≤ _; omega, by show 0 ≤ _; omega, by show 0 ≤ _; omega, by show c.length ≤ _; omega⟩
set_option maxRecDepth 100000 in
set_option maxHeartbeats 1600000 in
theorem works_any (w : World) (hg : GlC w) (hp : Pow w) : Calls Tryz.prog 13 #[] w fun e w' => e = .returned (.bool true) ∧ Below w.heap.size w w' := by
  have m1 : Hid (∀ W g0 g1 g2, Below w.heap.size w W → W.heap[g0]? = some (.cells #[.int .i64 2] 3 (0, 0)) → W.heap[g1]? = some (.cells #[.int .i64 0] 2 (0, 0)) → W.heap[g2]? = some (.cells #[.int .i64 1, .int .i64 2, .int .i64 0, .int .i64 5, .int .i64 3, .int .i64 0, .int .i64 0, .int .i64 0, .int .i64 12, .int .i64 0, .int .i64 0, .int .i64 0] 41 (0, 0)) → Calls Tryz.prog 7 #[.agg #[.string ⟨#[80]⟩, .slice (some ⟨g0, 0, none⟩) 1 1, .slice (some ⟨g1, 0, none⟩) 1 1, .slice none 0 0, .slice none 0 0, .slice (some ⟨g2, 0, none⟩) 3 3]] W fun e w' => e = .returned (.tuple #[.int .i64 0, .int .i64 0]) ∧ Below W.heap.size W w') := fun W g0 g1 g2 hb h0 h1 h2 => by
    have h := check_any _ _ _ _ _ _ (exI exC1) W (hg.on hb hg.lt) (ex_im W g0 g1 g2 exC1 rfl h0 h1 h2) (fun a n c e => by cases e; decide) (ex_l _ rfl)
    rw [ex_one] at h
    exact h
  have m2 : Hid (∀ W g0 g1 g2, Below w.heap.size w W → W.heap[g0]? = some (.cells #[.int .i64 2] 3 (0, 0)) → W.heap[g1]? = some (.cells #[.int .i64 0] 2 (0, 0)) → W.heap[g2]? = some (.cells #[.int .i64 1, .int .i64 2, .int .i64 0, .int .i64 5, .int .i64 2, .int .i64 1, .int .i64 0, .int .i64 0, .int .i64 12, .int .i64 0, .int .i64 0, .int .i64 0] 41 (0, 0)) → Calls Tryz.prog 7 #[.agg #[.string ⟨#[80]⟩, .slice (some ⟨g0, 0, none⟩) 1 1, .slice (some ⟨g1, 0, none⟩) 1 1, .slice none 0 0, .slice none 0 0, .slice (some ⟨g2, 0, none⟩) 3 3]] W fun e w' => e = .returned (.tuple #[.int .i64 1, .int .i64 130]) ∧ Below W.heap.size W w') := fun W g0 g1 g2 hb h0 h1 h2 => by
    have h := check_any _ _ _ _ _ _ (exI exC2) W (hg.on hb hg.lt) (ex_im W g0 g1 g2 exC2 rfl h0 h1 h2) (fun a n c e => by cases e; decide) (ex_l _ rfl)
    rw [ex_two] at h
    exact h
  have m3 : Hid (∀ W, Below w.heap.size w W → Calls Tryz.prog 28 #[.agg #[.int .i64 1, .int .i64 2, .int .i64 0, .int .i64 (-5)]] W fun e w' => e = .returned (.string ⟨#[80, 85, 83, 72, 32, 50, 32, 48, 32, 45, 53]⟩) ∧ Below W.heap.size W w') := fun W hb => by
    have h := show_any ⟨1, 2, 0, -5⟩ ⟨by decide, by decide, by decide, by decide, by decide, by decide⟩ W (hp.on hb)
    rw [ex_show] at h
    exact h
  clear hg hp
  go_enter Tryz.func13, Tryz.ntmps13
  go_wp2_with fail
  have a0 : ∀ A B C D : Obj, ((((w.alloc A).alloc B).alloc C).alloc D).heap[w.heap.size]? = some A := fun A B C D => by rw [heap_alloc_old _ _ (by simp <;> omega), heap_alloc_old _ _ (by simp <;> omega), heap_alloc_old _ _ (by simp <;> omega), heap_alloc_new]
  have a1 : ∀ A B C D : Obj, ((((w.alloc A).alloc B).alloc C).alloc D).heap[w.heap.size + 1]? = some B := fun A B C D => by rw [heap_alloc_old _ _ (by simp <;> omega), heap_alloc_old _ _ (by simp <;> omega), show w.heap.size + 1 = (w.alloc A).heap.size from by simp, heap_alloc_new]
  have a2 : ∀ A B C D : Obj, ((((w.alloc A).alloc B).alloc C).alloc D).heap[w.heap.size + 2]? = some C := fun A B C D => by rw [heap_alloc_old _ _ (by simp <;> omega), show w.heap.size + 2 = ((w.alloc A).alloc B).heap.size from by simp, heap_alloc_new]
  have a3 : ∀ A B C D : Obj, ((((w.alloc A).alloc B).alloc C).alloc D).heap[w.heap.size + 3]? = some D := fun A B C D => by rw [show w.heap.size + 3 = (((w.alloc A).alloc B).alloc C).heap.size from by simp, heap_alloc_new]
  have a4 : ∀ A B C D : Obj, Below w.heap.size w ((((w.alloc A).alloc B).alloc C).alloc D) := fun A B C D => ((((Below.refl _ _).alloc (Nat.le_refl _) _).alloc (by simp <;> omega) _).alloc (by simp <;> omega) _).alloc (by simp <;> omega) _
  refine (m1.out _ _ _ _ (a4 _ _ _ _) (a0 _ _ _ _) (a1 _ _ _ _) (a2 _ _ _ _)).mono ?_
  rintro e w1 ⟨rfl, b1⟩
  have H0 := (b1.block _ (by simp <;> omega)).trans (a0 _ _ _ _)
  have H1 := (b1.block _ (by simp <;> omega)).trans (a1 _ _ _ _)
  have H2 := (b1.block _ (by simp <;> omega)).trans (a2 _ _ _ _)
  have H3 := (b1.block _ (by simp <;> omega)).trans (a3 _ _ _ _)
  have B1 := hide ((a4 _ _ _ _).trans (b1.mono (by simp <;> omega)))
  clear b1 a0 a1 a2 a3 a4
  have c30 : w1.cell? ⟨w.heap.size + 3, 0, none⟩ = some (.string ⟨#[80]⟩) := (Lib.cell_of_heap (j := 0) H3).trans rfl
  have c31 : w1.cell? ⟨w.heap.size + 3, 1, none⟩ = some (.slice (some ⟨w.heap.size, 0, none⟩) 1 1) := (Lib.cell_of_heap (j := 1) H3).trans rfl
  have c32 : w1.cell? ⟨w.heap.size + 3, 2, none⟩ = some (.slice (some ⟨w.heap.size + 1, 0, none⟩) 1 1) := (Lib.cell_of_heap (j := 2) H3).trans rfl
  have c33 : w1.cell? ⟨w.heap.size + 3, 3, none⟩ = some (.slice none 0 0) := (Lib.cell_of_heap (j := 3) H3).trans rfl
  have c34 : w1.cell? ⟨w.heap.size + 3, 4, none⟩ = some (.slice none 0 0) := (Lib.cell_of_heap (j := 4) H3).trans rfl
  have c35 : w1.cell? ⟨w.heap.size + 3, 5, none⟩ = some (.slice (some ⟨w.heap.size + 2, 0, none⟩) 3 3) := (Lib.cell_of_heap (j := 5) H3).trans rfl
  have c24 : w1.cell? ⟨w.heap.size + 2, 4, none⟩ = some (.int .i64 3) := (Lib.cell_of_heap (j := 4) H2).trans rfl
  have f24 : w1.frozen? ⟨w.heap.size + 2, 4, none⟩ = false := Lib.frozen_of_heap H2 4
  have c25 : w1.cell? ⟨w.heap.size + 2, 5, none⟩ = some (.int .i64 0) := (Lib.cell_of_heap (j := 5) H2).trans rfl
  have f25 : w1.frozen? ⟨w.heap.size + 2, 5, none⟩ = false := Lib.frozen_of_heap H2 5
  have c26 : w1.cell? ⟨w.heap.size + 2, 6, none⟩ = some (.int .i64 0) := (Lib.cell_of_heap (j := 6) H2).trans rfl
  have f26 : w1.frozen? ⟨w.heap.size + 2, 6, none⟩ = false := Lib.frozen_of_heap H2 6
  have c27 : w1.cell? ⟨w.heap.size + 2, 7, none⟩ = some (.int .i64 0) := (Lib.cell_of_heap (j := 7) H2).trans rfl
  have f27 : w1.frozen? ⟨w.heap.size + 2, 7, none⟩ = false := Lib.frozen_of_heap H2 7
  have HH0 := hide H0
  have HH1 := hide H1
  have HH2 := hide H2
  clear H0 H1 H2 H3
  go_wp2_with fail
  refine (m2.out _ (w.heap.size) (w.heap.size + 1) (w.heap.size + 2) ?_ ?_ ?_ ?_).mono ?_
  · exact below_set (below_set (below_set (below_set B1.out (by omega) _ _) (by omega) _ _) (by omega) _ _) (by omega) _ _
  · rw [heap_setCell_other _ _ _ _ (by show w.heap.size ≠ w.heap.size + 2; omega), heap_setCell_other _ _ _ _ (by show w.heap.size ≠ w.heap.size + 2; omega), heap_setCell_other _ _ _ _ (by show w.heap.size ≠ w.heap.size + 2; omega), heap_setCell_other _ _ _ _ (by show w.heap.size ≠ w.heap.size + 2; omega)]
    exact HH0.out
  · rw [heap_setCell_other _ _ _ _ (by show w.heap.size + 1 ≠ w.heap.size + 2; omega), heap_setCell_other _ _ _ _ (by show w.heap.size + 1 ≠ w.heap.size + 2; omega), heap_setCell_other _ _ _ _ (by show w.heap.size + 1 ≠ w.heap.size + 2; omega), heap_setCell_other _ _ _ _ (by show w.heap.size + 1 ≠ w.heap.size + 2; omega)]
    exact HH1.out
  · exact (Lib.heap_setCell_same (Lib.heap_setCell_same (Lib.heap_setCell_same (Lib.heap_setCell_same HH2.out _) _) _) _).trans rfl
  · rintro e w2 ⟨rfl, b2⟩
    have B3 := below_set (below_set (below_set (below_set B1.out (g := w.heap.size + 2) (by omega) 4 (.int .i64 2)) (g := w.heap.size + 2) (by omega) 5 (.int .i64 1)) (g := w.heap.size + 2) (by omega) 6 (.int .i64 0)) (g := w.heap.size + 2) (by omega) 7 (.int .i64 0)
    have B2 := hide (B3.trans (b2.mono B3.size))
    clear b2 B3 c30 c31 c32 c33 c34 c35 c24 c25 c26 c27 f24 f25 f26 f27
    go_wp2_with (go_at_call 28; refine (m3.out _ B2.out).mono ?_; rintro e w3 ⟨rfl, b3⟩; have B4 := hide (B2.out.trans (b3.mono B2.out.size)); clear b3)
    go_ret
    exact ⟨rfl, B4.out⟩
end Go.Proofs.YtmbgcpmapaedcaaGreatDoor
namespace Go.Proofs.YtmbgcpmapaedcaaGreatDoor
open Go.ChangeShapes Go.WideShapes Go.ChangeAt Go.RowKit
open Ex (TabAt)
theorem own : ownKnob Tryz.prog.godebug = none := by kernel_rfl
theorem cells9 : Tryz.prog.cellsOf 9 = 1 := by kernel_rfl
theorem cells2 : Tryz.prog.cellsOf 2 = 1 := by kernel_rfl
theorem cells3 : Tryz.prog.cellsOf 3 = 1 := by kernel_rfl
theorem text_of {s : ByteArray} {l : List UInt8} (h : s.data.toList = l) : s = ⟨l.toArray⟩ := by cases s; subst h; rfl
theorem ii_cells {H : Type} {enc : TypeId × Value → H} {W : World} {base : Nat} {sp : Nat → Bool} {held : Bool} {fuel : Nat} {cs : List Value} {x : DataW H × List MemPlace} {t : TypeId} {a b : Int} {f0 f1 : Field}
    (hu : Tryz.prog.underlying t = some (.struct #[f0, f1])) (hf0 : f0.type = 2) (ho0 : f0.offset = 0) (hf1 : f1.type = 2) (ho1 : f1.offset = 1)
    (h : DataW.trod enc Tryz.prog W base sp held fuel t cs = some x) (hx : x.1 = .agg [.lit (.int .i64 a), .lit (.int .i64 b)]) : cs[0]? = some (.int .i64 a) ∧ cs[1]? = some (.int .i64 b) := by
  obtain ⟨y0, y1, n, rfl, _, h0, h1⟩ := trod_struct2 hu h
  simp only [DataW.agg.injEq, List.cons.injEq, and_true] at hx
  rw [hf0, ho0] at h0
  rw [hf1, ho1] at h1
  obtain ⟨z0, c0, e0, _⟩ := DataW.trod_int Tryz.underlying2 h0
  obtain ⟨z1, c1, e1, _⟩ := DataW.trod_int Tryz.underlying2 h1
  rw [e0, e1] at hx
  simp only [DataW.lit.injEq, Lit.int.injEq, true_and] at hx
  obtain ⟨rfl, rfl⟩ := hx
  rw [cells2] at c0 c1
  constructor
  · have := congrArg (·[0]?) c0
    simpa [List.getElem?_take, List.getElem?_drop] using this
  · have := congrArg (·[0]?) c1
    simpa [List.getElem?_take, List.getElem?_drop] using this
theorem tab_pairs {W : World} {name : String} {g : Nat} {ty ety : TypeId} {n : Nat} (rows : List (DataW Unit × Value × Value)) (hg : Tryz.prog.globalNamed name = some g) (hty : (Tryz.prog.globals[g]?).map (·.type) = some ty)
    (hu : Tryz.prog.underlying ty = some (.array n ety)) (hc : Tryz.prog.cellsOf ety = 2) (hn : rows.length = n)
    (hrow : ∀ r ∈ rows, ∀ fuel cs x, DataW.trod (fun _ => ()) Tryz.prog W 0 (fun _ => true) false fuel ety cs = some x → x.1 = r.1 → cs[0]? = some r.2.1 ∧ cs[1]? = some r.2.2)
    (h : Lib.VarReads Tryz.prog W name (.agg (rows.map (·.1)))) : TabAt W g (rows.flatMap fun r => [r.2.1, r.2.2]) := by
  obtain ⟨g', t', cs, fuel, p, h1, h2, h3, h4⟩ := h
  obtain rfl := Option.some.inj (hg.symm.trans h1)
  obtain rfl := Option.some.inj (hty.symm.trans h2)
  obtain ⟨xs, m, _, hx, hl, hxn, hi⟩ := DataW.trod_array hu h4
  rw [hc] at hi
  simp only [Prod.mk.injEq] at hx
  have hmap : xs.map (·.1) = rows.map (·.1) := by
    have := hx.1
    rw [DataW.agg.injEq] at this
    exact this.symm
  have each : ∀ i (r : DataW Unit × Value × Value), rows[i]? = some r → cs.toList[i * 2]? = some r.2.1 ∧ cs.toList[i * 2 + 1]? = some r.2.2 := fun i r hr => by
    have hin : i < n := by rw [← hn]; exact (List.getElem?_eq_some_iff.1 hr).1
    have e : (xs.map (·.1))[i]? = some r.1 := by rw [hmap, List.getElem?_map, hr]; rfl
    obtain ⟨x, hxi, hxe⟩ : ∃ x, xs[i]? = some x ∧ x.1 = r.1 := by
      rw [List.getElem?_map, Option.map_eq_some_iff] at e; exact e
    have hh := hi i hin
    rw [hxi] at hh
    obtain ⟨c0, c1⟩ := hrow r (List.mem_of_getElem? hr) _ _ x hh hxe
    constructor
    · simpa [List.getElem?_take, List.getElem?_drop] using c0
    · simpa [List.getElem?_take, List.getElem?_drop] using c1
  intro k v hk
  have hcell := World.var?_cell hg h3 k
  rw [show W.cell? ⟨g, k, none⟩ = cs[k]? from by simpa using hcell]
  have key : ∀ (rs : List (DataW Unit × Value × Value)) (k : Nat) (v : Value), (rs.flatMap fun r => [r.2.1, r.2.2])[k]? = some v → ∃ i r, rs[i]? = some r ∧ ((k = i * 2 ∧ v = r.2.1) ∨ (k = i * 2 + 1 ∧ v = r.2.2)) := by
    intro rs
    induction rs with
    | nil => intro k v h; simp at h
    | cons r rs ih =>
      intro k v h
      match k, h with
      | 0, h => exact ⟨0, r, rfl, .inl ⟨rfl, by simpa using h.symm⟩⟩
      | 1, h => exact ⟨0, r, rfl, .inr ⟨rfl, by simpa using h.symm⟩⟩
      | k + 2, h =>
        obtain ⟨i, r', h1, h2⟩ := ih k v (by simpa using h)
        refine ⟨i + 1, r', by simpa using h1, ?_⟩
        rcases h2 with ⟨h2, h3⟩ | ⟨h2, h3⟩
        · exact .inl ⟨by omega, h3⟩
        · exact .inr ⟨by omega, h3⟩
  obtain ⟨i, r, hr, ⟨rfl, rfl⟩ | ⟨rfl, rfl⟩⟩ := key rows k v hk
  · have := (each i r hr).1
    simpa using this
  · have := (each i r hr).2
    simpa using this
theorem tab_texts {W : World} {name : String} {g : Nat} {ty : TypeId} {n : Nat} (rows : List (List UInt8)) (hg : Tryz.prog.globalNamed name = some g) (hty : (Tryz.prog.globals[g]?).map (·.type) = some ty)
    (hu : Tryz.prog.underlying ty = some (.array n 9)) (hn : rows.length = n)
    (h : Lib.VarReads Tryz.prog W name (.agg (rows.map fun r => .lit (.string r)))) : TabAt W g (rows.map fun r => .string ⟨r.toArray⟩) := by
  obtain ⟨g', t', cs, fuel, p, h1, h2, h3, h4⟩ := h
  obtain rfl := Option.some.inj (hg.symm.trans h1)
  obtain rfl := Option.some.inj (hty.symm.trans h2)
  obtain ⟨xs, m, _, hx, hl, hxn, hi⟩ := DataW.trod_array hu h4
  rw [cells9] at hi
  simp only [Prod.mk.injEq] at hx
  have hmap : xs.map (·.1) = rows.map fun r => .lit (.string r) := by
    have := hx.1
    rw [DataW.agg.injEq] at this
    exact this.symm
  intro k v hk
  have hcell := World.var?_cell hg h3 k
  rw [show W.cell? ⟨g, k, none⟩ = cs[k]? from by simpa using hcell]
  rw [List.getElem?_map, Option.map_eq_some_iff] at hk
  obtain ⟨r, hr, rfl⟩ := hk
  have hin : k < n := by rw [← hn]; exact (List.getElem?_eq_some_iff.1 hr).1
  have e : (xs.map (·.1))[k]? = some (.lit (.string r)) := by rw [hmap, List.getElem?_map, hr]; rfl
  obtain ⟨x, hxi, hxe⟩ : ∃ x, xs[k]? = some x ∧ x.1 = .lit (.string r) := by
    rw [List.getElem?_map, Option.map_eq_some_iff] at e; exact e
  have hh := hi k hin
  rw [hxi] at hh
  obtain ⟨z0, c0, e0, _⟩ := DataW.trod_string Tryz.underlying9 hh
  rw [e0] at hxe
  simp only [DataW.lit.injEq, Lit.string.injEq] at hxe
  rw [text_of hxe] at c0
  have := congrArg (·[0]?) c0
  simpa [List.getElem?_take, List.getElem?_drop] using this
def iiRow (a b : Int) : DataW Unit × Value × Value := (.agg [.lit (.int .i64 a), .lit (.int .i64 b)], .int .i64 a, .int .i64 b)
theorem tabIs_of_reads {P : Program} {W : World} {name : String} {k : IntKind} {zs : List Int} {g : Nat} {t e : TypeId} {n : Nat}
    (hg : P.globalNamed name = some g) (hty : (P.globals[g]?).map (·.type) = some t) (ht : P.underlying t = some (.array n e)) (he : P.underlying e = some (.int k)) (hce : P.cellsOf e = 1) (hct : P.cellsOf t = n)
    (h : Lib.VarReads P W name (Lib.tabData k zs)) : Lib.TabIs P W name k zs := by
  obtain ⟨g', t', cs, fuel, p, hg', ht', hvar, hd⟩ := h
  obtain rfl := Option.some.inj (hg.symm.trans hg')
  obtain rfl := Option.some.inj (hty.symm.trans ht')
  have := Lib.cells_of_tab ht he hce hct hd
  unfold Lib.TabIs
  rw [hvar, ← this]
abbrev laid5 : List (String × DataW Unit) := [("math/bits.deBruijn32tab", Rows.laid_math_bits_deBruijn32tab), ("math/bits.deBruijn64tab", Rows.laid_math_bits_deBruijn64tab), ("internal/strconv.uint64pow10", Rows.laid_internal_strconv_uint64pow10), ("capstan/num.spans", Rows.laid_capstan_num_spans), ("capstan/expr.keywords", Rows.laid_capstan_expr_keywords)]
def bruijn : List Int := [0, 1, 56, 2, 57, 49, 28, 3, 61, 58, 42, 50, 38, 29, 17, 4, 62, 47, 59, 36, 45, 43, 51, 22, 53, 39, 33, 30, 24, 18, 12, 5, 63, 55, 48, 27, 60, 41, 37, 16, 46, 35, 44, 21, 52, 32, 23, 11, 54, 26, 40, 15, 34, 20, 31, 10, 25, 14, 19, 9, 13, 8, 7, 6]
def spanL : List Int := [0, 0, 0, 1, -32768, 32767, -2147483648, 2147483647, -2147483648, 2147483647]
/-- what the laws of this stage read of the program's variables -/
def GlP (w : World) : Prop := GlC w ∧ Pow w
set_option maxRecDepth 100000 in
theorem glo_of_met {l : List (String × DataW Unit)} {W : World} (hh : laidMet Tryz.prog l W) (hm : ∀ x ∈ laid5, x ∈ l) : GlP W := by
  have r3 := Lib.laidMet.reads hh (hm _ (List.mem_cons_of_mem _ (List.mem_cons_of_mem _ List.mem_cons_self)))
  have r4 := Lib.laidMet.reads hh (hm _ (List.mem_cons_of_mem _ (List.mem_cons_of_mem _ (List.mem_cons_of_mem _ List.mem_cons_self))))
  have r5 := Lib.laidMet.reads hh (hm _ (List.mem_cons_of_mem _ (List.mem_cons_of_mem _ (List.mem_cons_of_mem _ (List.mem_cons_of_mem _ List.mem_cons_self)))))
  have t1 := tab_pairs (g := 1) (ty := 129) (ety := 128) (n := 5) [iiRow 0 0, iiRow 0 1, iiRow (-32768) 32767, iiRow (-2147483648) 2147483647, iiRow (-2147483648) 2147483647] (by kernel_rfl) (by kernel_rfl) Tryz.underlying129 (by kernel_rfl) rfl
      (fun r hr fuel cs x hx hxe => by
        simp only [List.mem_cons, List.not_mem_nil, or_false] at hr
        rcases hr with rfl | rfl | rfl | rfl | rfl <;> exact ii_cells Tryz.underlying128 rfl rfl rfl rfl hx hxe) r4
  refine ⟨⟨fun k h => ?_, ?_⟩, ?_⟩
  · have : k = 0 ∨ k = 1 ∨ k = 2 ∨ k = 3 ∨ k = 4 ∨ k = 5 ∨ k = 6 ∨ k = 7 ∨ k = 8 ∨ k = 9 := by omega
    rcases this with rfl | rfl | rfl | rfl | rfl | rfl | rfl | rfl | rfl | rfl
    all_goals exact t1 _ _ rfl
  · exact tab_texts (g := 0) (ty := 103) (n := 51) Ex.kwB (by kernel_rfl) (by kernel_rfl) Tryz.underlying103 rfl r5
  · exact tabIs_of_reads (g := 3) (by kernel_rfl) (by kernel_rfl) Tryz.underlying168 Tryz.underlying86 (by kernel_rfl) (by kernel_rfl) r3
theorem glo_of_laid {W : World} (h : laidMetH Tryz.prog laid5 W) : GlP W := glo_of_met (l := laid5) h (fun _ hx => hx)
/-- the tables laid into a world's first blocks -/
def layGlo (w : World) : World :=
  let lay (k : Nat) (t : List Value) (w : World) : World := { w with heap := w.heap.modify k fun
      | .cells _ ty frozen => .cells t.toArray ty frozen
      | o => o }
  lay 0 Ex.kwTab (lay 1 (spanL.map fun z => .int .i64 z) (lay 3 (Lib.pow10Tab.map fun z => .int .u64 z) (lay 4 ([0, 1, 28, 2, 29, 14, 24, 3, 30, 22, 20, 15, 25, 17, 4, 8, 31, 27, 13, 23, 21, 19, 16, 7, 26, 12, 18, 6, 11, 5, 10, 9].map fun z => .int .u8 z) (lay 5 (bruijn.map fun z => .int .u8 z) w))))
set_option maxRecDepth 100000 in
theorem cellsI : Tryz.prog.cellsOf 41 = 4 := by kernel_rfl
set_option maxRecDepth 100000 in
theorem open_ins {H : Type} {enc : TypeId × Value → H} {W : World} {base : Nat} {spare : Nat → Bool} {held : Bool} {r : Reach} {b0 : Nat} {v : Value} {d : DataW H} {ps : List MemPlace} (hv : Value.okWide Tryz.prog W r b0 41 v) (h : DataW.Trod enc Tryz.prog W base spare held 41 v d ps) :
    ∃ o a b n, v = .agg #[.int .i64 o, .int .i64 a, .int .i64 b, .int .i64 n] ∧ d = .agg [.lit (.int .i64 o), .lit (.int .i64 a), .lit (.int .i64 b), .lit (.int .i64 n)] ∧ ps = [] ∧ (Lit.int .i64 o).wf = true ∧ (Lit.int .i64 a).wf = true ∧ (Lit.int .i64 b).wf = true ∧ (Lit.int .i64 n).wf = true := by
  obtain ⟨c0, c1, c2, c3, y0, y1, y2, y3, m, rfl, rfl, rfl, hy0, hy1, hy2, hy3⟩ := Joins.open_agg4 Tryz.underlying41 (by kernel_rfl) cellsI hv h
  obtain ⟨o, e0, rfl, wo⟩ := DataW.trod_int Tryz.underlying3 hy0
  obtain ⟨a, e1, rfl, wa⟩ := DataW.trod_int Tryz.underlying3 hy1
  obtain ⟨b, e2, rfl, wb⟩ := DataW.trod_int Tryz.underlying3 hy2
  obtain ⟨n, e3, rfl, wn⟩ := DataW.trod_int Tryz.underlying2 hy3
  simp at e0 e1 e2 e3
  subst e0 e1 e2 e3
  exact ⟨o, a, b, n, rfl, rfl, rfl, wo, wa, wb, wn⟩
set_option maxRecDepth 100000 in
theorem shut_ins {H : Type} {enc : TypeId × Value → H} {W : World} {base : Nat} {spare : Nat → Bool} {held : Bool} {o a b n : Int} (wo : (Lit.int .i64 o).wf = true) (wa : (Lit.int .i64 a).wf = true) (wb : (Lit.int .i64 b).wf = true) (wn : (Lit.int .i64 n).wf = true) :
    DataW.Trod enc Tryz.prog W base spare held 41 (.agg #[.int .i64 o, .int .i64 a, .int .i64 b, .int .i64 n]) (.agg [.lit (.int .i64 o), .lit (.int .i64 a), .lit (.int .i64 b), .lit (.int .i64 n)]) [] :=
  Joins.shut_agg4 (y0 := (.lit (.int .i64 o), [])) (y1 := (.lit (.int .i64 a), [])) (y2 := (.lit (.int .i64 b), [])) (y3 := (.lit (.int .i64 n), [])) Tryz.underlying41 (by kernel_rfl) cellsI ⟨1, by simp [DataW.trod, Tryz.underlying3, wo]⟩ ⟨1, by simp [DataW.trod, Tryz.underlying3, wa]⟩ ⟨1, by simp [DataW.trod, Tryz.underlying3, wb]⟩ ⟨1, by simp [DataW.trod, Tryz.underlying2, wn]⟩
end Go.Proofs.YtmbgcpmapaedcaaGreatDoor
