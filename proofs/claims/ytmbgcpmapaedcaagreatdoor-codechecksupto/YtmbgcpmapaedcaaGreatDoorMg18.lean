/- errors.As at the program's two error types: the assertions and the store of a whole placed error. | errors.as by its contracts, at the program's two error types. | errors.As by its contracts, at the program's two error types. -/
import Derived.Test.YtmbgcpmapaedcaaGreatDoorMg17
namespace Go.Proofs.YtmbgcpmapaedcaaGreatDoor.Wi
open Go.RowKit Go.Extern.Stop Go.Stop Go.Extern
theorem set60 (t g : Nat) (p : Int) (x o1 o2 : Value) (W : World) (hx : x.oneCell' = true) (hb0 : W.cell? ⟨g, 0, none⟩ = some (.int .i64 p)) (hb1 : W.cell? ⟨g, 1, none⟩ = some x)
    (ht0 : W.cell? ⟨t, 0, none⟩ = some o1) (ht1 : W.cell? ⟨t, 1, none⟩ = some o2) (hf0 : W.frozen? ⟨t, 0, none⟩ = false) (hf1 : W.frozen? ⟨t, 1, none⟩ = false) :
    (ReflectliteValue.set #[.agg #[.pointer (some ⟨6, 121, none⟩), .pointer (some ⟨t, 0, none⟩), .int .u64 409], .agg #[.pointer (some ⟨6, 121, none⟩), .pointer (some ⟨g, 0, none⟩), .int .u64 153]]).run Tryz.prog W
      = .ok (.tuple #[]) ((W.setCell ⟨t, 0, none⟩ (.int .i64 p)).setCell ⟨t, 1, none⟩ x) := by
  show (ReflectliteValue.parts (.agg #[.pointer (some ⟨6, 121, none⟩), .pointer (some ⟨t, 0, none⟩), .int .u64 409]) >>= fun p => ReflectliteValue.parts (.agg #[.pointer (some ⟨6, 121, none⟩), .pointer (some ⟨g, 0, none⟩), .int .u64 153]) >>= fun q => _).run Tryz.prog W = _
  simp only [Sem.run_bind, parts60a, parts60, Result.andThen]
  have e1 : (loadVar 121 ⟨g, 0, none⟩).run Tryz.prog W = .ok (.agg #[.int .i64 p, x]) W := by
    unfold loadVar
    simp [isAgg, underlying, Tryz.underlying121, Result.andThen, loadCells, loadCellsFrom, Addr.add, hb0, hb1]
  have e2 : (storeVar 121 ⟨t, 0, none⟩ (.agg #[.int .i64 p, x])).run Tryz.prog W = .ok () ((W.setCell ⟨t, 0, none⟩ (.int .i64 p)).setCell ⟨t, 1, none⟩ x) := by
    unfold storeVar
    simp [Value.cells, storeCells, Addr.add]
    rw [run_store Tryz.prog W ⟨t, 0, none⟩ _ _ (by rfl)]
    simp only [ht0, hf0]
    simp
    rw [run_store Tryz.prog _ ⟨t, 1, none⟩ _ _ hx]
    have h1 : (W.setCell ⟨t, 0, none⟩ (.int .i64 p)).cell? ⟨t, 1, none⟩ = some o2 := by rw [World.cell?_setCell_other _ _ _ _ (by simp)]; exact ht1
    have h2 : (W.setCell ⟨t, 0, none⟩ (.int .i64 p)).frozen? ⟨t, 1, none⟩ = false := by simpa using hf1
    simp [h1, h2]
  simp [ReflectliteValue.flagAddr, e1, e2, direct60, Result.andThen]
theorem noAs61 (v : Value) (xT : TypeId) (w : World) : (Instr.typeAssert (.iface 122 v) xT 179 true).run Tryz.prog w = .ok (.tuple #[.nilIface, .bool false]) w := run_typeAssert_lacksB Tryz.underlying179 (by kernel_rfl) (by kernel_rfl) v xT w
theorem noAs60 (v : Value) (xT : TypeId) (w : World) : (Instr.typeAssert (.iface 121 v) xT 179 true).run Tryz.prog w = .ok (.tuple #[.nilIface, .bool false]) w := run_typeAssert_lacksB Tryz.underlying179 (by kernel_rfl) (by kernel_rfl) v xT w
theorem noUn61 (v : Value) (xT : TypeId) (w : World) : (Instr.typeAssert (.iface 122 v) xT 182 true).run Tryz.prog w = .ok (.tuple #[.nilIface, .bool false]) w := run_typeAssert_lacksB Tryz.underlying182 (by kernel_rfl) (by kernel_rfl) v xT w
theorem noUns61 (v : Value) (xT : TypeId) (w : World) : (Instr.typeAssert (.iface 122 v) xT 184 true).run Tryz.prog w = .ok (.tuple #[.nilIface, .bool false]) w := run_typeAssert_lacksB Tryz.underlying184 (by kernel_rfl) (by kernel_rfl) v xT w
theorem hasUn60 (v : Value) (xT : TypeId) (w : World) : (Instr.typeAssert (.iface 121 v) xT 182 true).run Tryz.prog w = .ok (.tuple #[.iface 121 v, .bool true]) w := run_typeAssert_hasB Tryz.underlying182 (by kernel_rfl) v xT w
end Go.Proofs.YtmbgcpmapaedcaaGreatDoor.Wi
namespace Go.Proofs.YtmbgcpmapaedcaaGreatDoor.Wi
open Go.RowKit Go.Extern.Stop Go.Stop Go.Extern
/-- all blocks but one are as they were -/
structure Upd (g : Nat) (w w' : World) : Prop where
  os : w'.os = w.os
  tape : w'.tape = w.tape
  output : w'.output = w.output
  size : w.heap.size ≤ w'.heap.size
  block : ∀ k, k < w.heap.size → k ≠ g → w'.heap[k]? = w.heap[k]?
theorem Upd.trans {g : Nat} {a b c : World} (h : Upd g a b) (k : Upd g b c) : Upd g a c :=
  ⟨k.os.trans h.os, k.tape.trans h.tape, k.output.trans h.output, Nat.le_trans h.size k.size, fun i hi hg => (k.block i (Nat.lt_of_lt_of_le hi h.size) hg).trans (h.block i hi hg)⟩
theorem Upd.of_below {g : Nat} {a b : World} (h : Below a.heap.size a b) : Upd g a b := ⟨h.os, h.tape, h.output, h.size, fun k hk _ => h.block k hk⟩
theorem Upd.setCell {g : Nat} {a b : World} (h : Upd g a b) (o : Nat) (v : Value) : Upd g a (b.setCell ⟨g, o, none⟩ v) :=
  h.trans ⟨rfl, rfl, rfl, by simp [World.setCell], fun k _ hg => Below.heap_setCell _ _ _ _ hg⟩
theorem Upd.below {g B : Nat} {a b c : World} (h : Upd g b c) (hb : Below B a b) (hB : B ≤ g) (hs : B ≤ b.heap.size) : Below B a c :=
  hb.trans ⟨h.os, h.tape, h.output, h.size, fun k hk => h.block k (by omega) (by omega)⟩
theorem Upd.cell {g : Nat} {w w' : World} (h : Upd g w w') {b o : Nat} (hb : b < w.heap.size) (hg : b ≠ g) : w'.cell? ⟨b, o, none⟩ = w.cell? ⟨b, o, none⟩ := World.cell?_of_block (w := w) (a := ⟨b, o, none⟩) (h.block b hb hg)
theorem Upd.frozen {g : Nat} {w w' : World} (h : Upd g w w') {b o : Nat} (hb : b < w.heap.size) (hg : b ≠ g) : w'.frozen? ⟨b, o, none⟩ = w.frozen? ⟨b, o, none⟩ := World.frozen?_of_block (w := w) (a := ⟨b, o, none⟩) (h.block b hb hg)
theorem unwrap_any (p c : Int) (w : World) : Calls Tryz.prog 164 #[.agg #[.int .i64 p, .iface 122 (.int .i64 c)]] w fun e w' => e = .returned (.iface 122 (.int .i64 c)) ∧ Below w.heap.size w w' := by
  go_enter Tryz.func164, Tryz.ntmps164
  go_wp2
  go_ret
  exact ⟨rfl, (Below.refl _ _).alloc (Nat.le_refl _) _⟩
set_option maxRecDepth 100000 in
set_option maxHeartbeats 4000000 in
theorem as_ref (t a : Nat) (c : Int) (old : Value) (w : World) (ha : w.cell? ⟨a, 0, none⟩ = some (.pointer (some ⟨t, 0, none⟩))) (ht0 : w.cell? ⟨t, 0, none⟩ = some old) (hf0 : w.frozen? ⟨t, 0, none⟩ = false) :
    Calls Tryz.prog 110 #[.iface 122 (.int .i64 c), .iface 124 (.pointer (some ⟨t, 0, none⟩)), .agg #[.pointer (some ⟨6, 124, none⟩), .pointer (some ⟨a, 0, none⟩), .int .u64 150], .iface 174 (.agg #[.pointer (some ⟨6, 122, none⟩)])] w
      fun ev w' => ev = .returned (.bool true) ∧ w'.cell? ⟨t, 0, none⟩ = some (.int .i64 c) ∧ Upd t w w' := by
  have h33 := @run_callFunc_extern Tryz.prog 107 _ (fun args => ReflectliteValue.unpack (args.getD 0 (.tuple #[]))) Tryz.func107 (by kernel_rfl) (by kernel_rfl) (by kernel_rfl) (by kernel_rfl)
  have h38 := @run_callFunc_extern Tryz.prog 122 _ ReflectliteType.typeOf Tryz.func122 (by kernel_rfl) (by kernel_rfl) (by kernel_rfl) (by kernel_rfl)
  have h66 := @run_callFunc_extern Tryz.prog 170 _ (ReflectliteType.relation "AssignableTo" ReflectliteType.assignableTo) Tryz.func170 (by kernel_rfl) (by kernel_rfl) (by kernel_rfl) (by kernel_rfl)
  have h39 := @run_callFunc_extern Tryz.prog 123 _ (ReflectliteValue.method (ReflectliteValue.valueError "reflectlite.Value.Elem" 0) ReflectliteValue.elem) Tryz.func123 (by kernel_rfl) (by kernel_rfl) (by kernel_rfl) (by kernel_rfl)
  have h40 := @run_callFunc_extern Tryz.prog 124 _ ReflectliteValue.set Tryz.func124 (by kernel_rfl) (by kernel_rfl) (by kernel_rfl) (by kernel_rfl)
  have tO := typeOf61
  have mA := methodAssignableTo
  have a61 := assignable6161
  have v61 := valueOf61
  have hal : a < w.heap.size := World.block_lt_of_cell? w _ ha
  have htl : t < w.heap.size := World.block_lt_of_cell? w _ ht0
  have el := elemV63 ⟨a, 0, none⟩ ⟨t, 0, none⟩ (w.alloc (.cells #[.pointer (some ⟨6, 124, none⟩), .pointer (some ⟨a, 0, none⟩), .int .u64 150] 148)) (by rw [World.cell?_alloc_lt _ _ ⟨a, 0, none⟩ hal]; exact ha)
  have st := set61 ⟨t, 0, none⟩ ⟨w.heap.size + 1, 0, none⟩ c old ((w.alloc (.cells #[.pointer (some ⟨6, 124, none⟩), .pointer (some ⟨a, 0, none⟩), .int .u64 150] 148)).alloc (.cells #[.int .i64 c] 122))
    (by rw [World.cell?_alloc_at _ _ _ _ (by simp)]; rfl)
    (by rw [World.cell?_alloc_lt _ _ ⟨t, 0, none⟩ (by simp; omega), World.cell?_alloc_lt _ _ ⟨t, 0, none⟩ htl]; exact ht0)
    (by rw [World.frozen?_alloc_old _ _ ⟨t, 0, none⟩ (by simp; omega), World.frozen?_alloc_old _ _ ⟨t, 0, none⟩ (Nat.ne_of_lt htl)]; exact hf0)
  have hU : Hid (∀ A B, Upd t w (((w.setCell ⟨t, 0, none⟩ (.int .i64 c)).alloc A).alloc B)) := fun A B =>
    (Upd.setCell (Upd.of_below (Below.refl _ _)) 0 _).trans (Upd.of_below (((Below.refl _ _).alloc (Nat.le_refl _) _).alloc (by simp) _))
  have hC : Hid (∀ A B, (((w.setCell ⟨t, 0, none⟩ (.int .i64 c)).alloc A).alloc B).cell? ⟨t, 0, none⟩ = some (.int .i64 c)) := fun A B => by
    rw [World.cell?_alloc_lt _ _ ⟨t, 0, none⟩ (by simp; omega), World.cell?_alloc_lt _ _ ⟨t, 0, none⟩ (by simpa using htl)]
    exact World.cell?_setCell_same _ _ _ ht0
  go_enter Tryz.func110, Tryz.ntmps110
  go_wp2
  refine wp_loop_rounds 1 ?_
  rw [rounds_succ]
  go_wp2
  go_ret
  exact ⟨rfl, hC.out _ _, hU.out _ _⟩
set_option maxRecDepth 100000 in
set_option maxHeartbeats 4000000 in
theorem as_ref_w (t a : Nat) (p c : Int) (old : Value) (w : World) (ha : w.cell? ⟨a, 0, none⟩ = some (.pointer (some ⟨t, 0, none⟩))) (ht0 : w.cell? ⟨t, 0, none⟩ = some old) (hf0 : w.frozen? ⟨t, 0, none⟩ = false) :
    Calls Tryz.prog 110 #[.iface 121 (.agg #[.int .i64 p, .iface 122 (.int .i64 c)]), .iface 124 (.pointer (some ⟨t, 0, none⟩)), .agg #[.pointer (some ⟨6, 124, none⟩), .pointer (some ⟨a, 0, none⟩), .int .u64 150], .iface 174 (.agg #[.pointer (some ⟨6, 122, none⟩)])] w
      fun ev w' => ev = .returned (.bool true) ∧ w'.cell? ⟨t, 0, none⟩ = some (.int .i64 c) ∧ Upd t w w' := by
  have h33 := @run_callFunc_extern Tryz.prog 107 _ (fun args => ReflectliteValue.unpack (args.getD 0 (.tuple #[]))) Tryz.func107 (by kernel_rfl) (by kernel_rfl) (by kernel_rfl) (by kernel_rfl)
  have h38 := @run_callFunc_extern Tryz.prog 122 _ ReflectliteType.typeOf Tryz.func122 (by kernel_rfl) (by kernel_rfl) (by kernel_rfl) (by kernel_rfl)
  have h66 := @run_callFunc_extern Tryz.prog 170 _ (ReflectliteType.relation "AssignableTo" ReflectliteType.assignableTo) Tryz.func170 (by kernel_rfl) (by kernel_rfl) (by kernel_rfl) (by kernel_rfl)
  have h39 := @run_callFunc_extern Tryz.prog 123 _ (ReflectliteValue.method (ReflectliteValue.valueError "reflectlite.Value.Elem" 0) ReflectliteValue.elem) Tryz.func123 (by kernel_rfl) (by kernel_rfl) (by kernel_rfl) (by kernel_rfl)
  have h40 := @run_callFunc_extern Tryz.prog 124 _ ReflectliteValue.set Tryz.func124 (by kernel_rfl) (by kernel_rfl) (by kernel_rfl) (by kernel_rfl)
  have tO := typeOf61
  have tO0 := typeOf60
  have mA := methodAssignableTo
  have mU := methodUnwrap
  have a61 := assignable6161
  have a60 := assignable6061
  have v61 := valueOf61
  have q1 := noAs60
  have q2 := hasUn60
  have hal : a < w.heap.size := World.block_lt_of_cell? w _ ha
  have htl : t < w.heap.size := World.block_lt_of_cell? w _ ht0
  have HA : Hid (∀ W, Below w.heap.size w W → W.cell? ⟨a, 0, none⟩ = some (.pointer (some ⟨t, 0, none⟩))) := fun W h => (h.cell (p := ⟨a, 0, none⟩) hal).trans ha
  have HT : Hid (∀ W, Below w.heap.size w W → W.cell? ⟨t, 0, none⟩ = some old) := fun W h => (h.cell (p := ⟨t, 0, none⟩) htl).trans ht0
  have HF : Hid (∀ W, Below w.heap.size w W → W.frozen? ⟨t, 0, none⟩ = false) := fun W h => (h.frozen (p := ⟨t, 0, none⟩) htl).trans hf0
  clear ha ht0 hf0
  go_enter Tryz.func110, Tryz.ntmps110
  go_wp2
  refine wp_loop_rounds 2 ?_
  rw [rounds_succ]
  go_wp2_with fail
  refine (unwrap_any p c _).mono ?_
  rintro e w1 ⟨rfl, hb1⟩
  have b1 : Below w.heap.size w w1 := ((Below.refl _ _).alloc (Nat.le_refl _) _).trans (hb1.mono (by simp))
  have c0 : w1.cell? ⟨w.heap.size, 0, none⟩ = some (.pointer (some ⟨6, 124, none⟩)) := (hb1.cell (p := ⟨w.heap.size, 0, none⟩) (by simp)).trans (by simp)
  have c1 : w1.cell? ⟨w.heap.size, 1, none⟩ = some (.pointer (some ⟨a, 0, none⟩)) := (hb1.cell (p := ⟨w.heap.size, 1, none⟩) (by simp)).trans (by simp)
  have c2 : w1.cell? ⟨w.heap.size, 2, none⟩ = some (.int .u64 150) := (hb1.cell (p := ⟨w.heap.size, 2, none⟩) (by simp)).trans (by simp)
  have z1 : w.heap.size + 1 ≤ w1.heap.size := by have := hb1.size; simpa using this
  have el := elemV63 ⟨a, 0, none⟩ ⟨t, 0, none⟩ w1 (HA.out _ b1)
  have ht1 : w1.cell? ⟨t, 0, none⟩ = some old := HT.out _ b1
  have st := set61 ⟨t, 0, none⟩ ⟨w1.heap.size, 0, none⟩ c old (w1.alloc (.cells #[.int .i64 c] 122))
    (by simp)
    (by rw [World.cell?_alloc_lt _ _ ⟨t, 0, none⟩ (by simp; omega)]; exact ht1)
    (by rw [World.frozen?_alloc_old _ _ ⟨t, 0, none⟩ (by simp; omega)]; exact HF.out _ b1)
  have hU : Hid (∀ A, Upd t w ((w1.alloc A).setCell ⟨t, 0, none⟩ (.int .i64 c))) := fun A =>
    (Upd.of_below b1).trans (Upd.setCell (Upd.of_below ((Below.refl _ _).alloc (Nat.le_refl _) _)) 0 _)
  have hC : Hid (∀ A, ((w1.alloc A).setCell ⟨t, 0, none⟩ (.int .i64 c)).cell? ⟨t, 0, none⟩ = some (.int .i64 c)) := fun A =>
    World.cell?_setCell_same _ _ _ ((World.cell?_alloc_lt _ _ ⟨t, 0, none⟩ (by simp; omega)).trans ht1)
  clear hb1 b1 ht1 tO0 a60 q1 q2 mU
  go_wp2
  rw [rounds_succ]
  go_wp2
  go_ret
  exact ⟨rfl, hC.out _, hU.out _⟩
end Go.Proofs.YtmbgcpmapaedcaaGreatDoor.Wi
namespace Go.Proofs.YtmbgcpmapaedcaaGreatDoor.Wi
open Go.RowKit Go.Extern.Stop Go.Stop Go.Extern
/-- the variable errors.errorType holds the handle of the type error -/
def Glo (w : World) : Prop := w.cell? ⟨2, 0, none⟩ = some (.iface 174 (.agg #[.pointer (some ⟨6, 90, none⟩)]))
theorem Glo.lt {w : World} (h : Glo w) : 2 < w.heap.size := World.block_lt_of_cell? w _ h
theorem Glo.below {w w' : World} {B : Nat} (h : Glo w) (hb : Below B w w') (h0 : 2 < B) : Glo w' := (hb.cell (p := ⟨2, 0, none⟩) h0).trans h
set_option maxRecDepth 100000 in
set_option maxHeartbeats 4000000 in
theorem as_pl (t a : Nat) (p c : Int) (o1 o2 : Value) (w : World) (ha : w.cell? ⟨a, 0, none⟩ = some (.pointer (some ⟨t, 0, none⟩))) (ht0 : w.cell? ⟨t, 0, none⟩ = some o1) (ht1 : w.cell? ⟨t, 1, none⟩ = some o2) (hf0 : w.frozen? ⟨t, 0, none⟩ = false) (hf1 : w.frozen? ⟨t, 1, none⟩ = false) :
    Calls Tryz.prog 110 #[.iface 121 (.agg #[.int .i64 p, .iface 122 (.int .i64 c)]), .iface 125 (.pointer (some ⟨t, 0, none⟩)), .agg #[.pointer (some ⟨6, 125, none⟩), .pointer (some ⟨a, 0, none⟩), .int .u64 150], .iface 174 (.agg #[.pointer (some ⟨6, 121, none⟩)])] w
      fun ev w' => ev = .returned (.bool true) ∧ w'.cell? ⟨t, 0, none⟩ = some (.int .i64 p) ∧ Upd t w w' := by
  have h33 := @run_callFunc_extern Tryz.prog 107 _ (fun args => ReflectliteValue.unpack (args.getD 0 (.tuple #[]))) Tryz.func107 (by kernel_rfl) (by kernel_rfl) (by kernel_rfl) (by kernel_rfl)
  have h38 := @run_callFunc_extern Tryz.prog 122 _ ReflectliteType.typeOf Tryz.func122 (by kernel_rfl) (by kernel_rfl) (by kernel_rfl) (by kernel_rfl)
  have h66 := @run_callFunc_extern Tryz.prog 170 _ (ReflectliteType.relation "AssignableTo" ReflectliteType.assignableTo) Tryz.func170 (by kernel_rfl) (by kernel_rfl) (by kernel_rfl) (by kernel_rfl)
  have h39 := @run_callFunc_extern Tryz.prog 123 _ (ReflectliteValue.method (ReflectliteValue.valueError "reflectlite.Value.Elem" 0) ReflectliteValue.elem) Tryz.func123 (by kernel_rfl) (by kernel_rfl) (by kernel_rfl) (by kernel_rfl)
  have h40 := @run_callFunc_extern Tryz.prog 124 _ ReflectliteValue.set Tryz.func124 (by kernel_rfl) (by kernel_rfl) (by kernel_rfl) (by kernel_rfl)
  have tO := typeOf60
  have mA := methodAssignableTo
  have a60 := assignable6060
  have v60 := valueOf60
  have hal : a < w.heap.size := World.block_lt_of_cell? w _ ha
  have htl : t < w.heap.size := World.block_lt_of_cell? w _ ht0
  have el := elemV64 ⟨a, 0, none⟩ ⟨t, 0, none⟩ (w.alloc (.cells #[.pointer (some ⟨6, 125, none⟩), .pointer (some ⟨a, 0, none⟩), .int .u64 150] 148)) (by rw [World.cell?_alloc_lt _ _ ⟨a, 0, none⟩ hal]; exact ha)
  obtain ⟨W2, hW2⟩ : ∃ W2, W2 = (w.alloc (.cells #[.pointer (some ⟨6, 125, none⟩), .pointer (some ⟨a, 0, none⟩), .int .u64 150] 148)).alloc (.cells #[.int .i64 p, .iface 122 (.int .i64 c)] 121) := ⟨_, rfl⟩
  have hb2 : Below w.heap.size w W2 := by rw [hW2]; exact ((Below.refl _ _).alloc (Nat.le_refl _) _).alloc (by simp) _
  have st := set60 t (w.heap.size + 1) p (.iface 122 (.int .i64 c)) o1 o2 W2 rfl
    (by rw [hW2, World.cell?_alloc_at _ _ _ _ (by simp)]; rfl) (by rw [hW2, World.cell?_alloc_at _ _ _ _ (by simp)]; rfl)
    ((hb2.cell (p := ⟨t, 0, none⟩) htl).trans ht0) ((hb2.cell (p := ⟨t, 1, none⟩) htl).trans ht1) ((hb2.frozen (p := ⟨t, 0, none⟩) htl).trans hf0) ((hb2.frozen (p := ⟨t, 1, none⟩) htl).trans hf1)
  have hE : Hid (((W2.setCell ⟨t, 0, none⟩ (.int .i64 p)).setCell ⟨t, 1, none⟩ (.iface 122 (.int .i64 c))).cell? ⟨t, 0, none⟩ = some (.int .i64 p) ∧ Upd t w ((W2.setCell ⟨t, 0, none⟩ (.int .i64 p)).setCell ⟨t, 1, none⟩ (.iface 122 (.int .i64 c)))) := by
    refine ⟨?_, Upd.setCell (Upd.setCell (Upd.of_below hb2) 0 _) 1 _⟩
    rw [World.cell?_setCell_other _ _ _ _ (by simp)]
    exact World.cell?_setCell_same _ _ _ ((hb2.cell (p := ⟨t, 0, none⟩) htl).trans ht0)
  generalize (W2.setCell ⟨t, 0, none⟩ (.int .i64 p)).setCell ⟨t, 1, none⟩ (.iface 122 (.int .i64 c)) = W3 at *
  rw [hW2] at st
  clear hb2 hW2 ha ht0 ht1 hf0 hf1
  go_enter Tryz.func110, Tryz.ntmps110
  go_wp2
  refine wp_loop_rounds 1 ?_
  rw [rounds_succ]
  go_wp2
  go_ret
  exact ⟨rfl, hE.out.1, hE.out.2⟩
set_option maxRecDepth 100000 in
set_option maxHeartbeats 4000000 in
theorem as_miss (tv : Value) (a : Nat) (c : Int) (w : World) :
    Calls Tryz.prog 110 #[.iface 122 (.int .i64 c), tv, .agg #[.pointer (some ⟨6, 125, none⟩), .pointer (some ⟨a, 0, none⟩), .int .u64 150], .iface 174 (.agg #[.pointer (some ⟨6, 121, none⟩)])] w
      fun ev w' => ev = .returned (.bool false) ∧ Below w.heap.size w w' := by
  have h38 := @run_callFunc_extern Tryz.prog 122 _ ReflectliteType.typeOf Tryz.func122 (by kernel_rfl) (by kernel_rfl) (by kernel_rfl) (by kernel_rfl)
  have h66 := @run_callFunc_extern Tryz.prog 170 _ (ReflectliteType.relation "AssignableTo" ReflectliteType.assignableTo) Tryz.func170 (by kernel_rfl) (by kernel_rfl) (by kernel_rfl) (by kernel_rfl)
  have tO := typeOf61
  have mA := methodAssignableTo
  have a60 := assignable6160
  have q1 := noAs61
  have q2 := noUn61
  have q3 := noUns61
  go_enter Tryz.func110, Tryz.ntmps110
  go_wp2
  refine wp_loop_rounds 1 ?_
  rw [rounds_succ]
  go_wp2
  go_ret
  exact ⟨rfl, (Below.refl _ _).alloc (Nat.le_refl _) _⟩
set_option maxRecDepth 100000 in
set_option maxHeartbeats 4000000 in
theorem As63 (ty : Nat) (v : Value) (t : Addr) (b : Bool) (R : World → Prop) (w : World) (hg : Glo w)
    (h36 : ∀ W a, Below w.heap.size w W → W.cell? ⟨a, 0, none⟩ = some (.pointer (some t)) → Calls Tryz.prog 110 #[.iface ty v, .iface 124 (.pointer (some t)), .agg #[.pointer (some ⟨6, 124, none⟩), .pointer (some ⟨a, 0, none⟩), .int .u64 150], .iface 174 (.agg #[.pointer (some ⟨6, 122, none⟩)])] W fun e w' => e = .returned (.bool b) ∧ R w') :
    Calls Tryz.prog 88 #[.iface ty v, .iface 124 (.pointer (some t))] w fun e w' => e = .returned (.bool b) ∧ R w' := by
  have h33 := @run_callFunc_extern Tryz.prog 107 _ (fun args => ReflectliteValue.unpack (args.getD 0 (.tuple #[]))) Tryz.func107 (by kernel_rfl) (by kernel_rfl) (by kernel_rfl) (by kernel_rfl)
  have h34 := @run_callFunc_extern Tryz.prog 108 _ (ReflectliteValue.methodAny (ReflectliteValue.valueError "reflectlite.Value.Type" 0) (fun t _ _ _ => ReflectliteType.toType t)) Tryz.func108 (by kernel_rfl) (by kernel_rfl) (by kernel_rfl) (by kernel_rfl)
  have h35 := @run_callFunc_extern Tryz.prog 109 _ (ReflectliteValue.method (ReflectliteValue.valueError "reflectlite.Value.IsNil" 0) ReflectliteValue.isNil) Tryz.func109 (by kernel_rfl) (by kernel_rfl) (by kernel_rfl) (by kernel_rfl)
  have h56 := @run_callFunc_extern Tryz.prog 160 _ (ReflectliteType.abiMethod fun t => do pure (.int .u8 (← Rtype.kind t))) Tryz.func160 (by kernel_rfl) (by kernel_rfl) (by kernel_rfl) (by kernel_rfl)
  have h68 := @run_callFunc_extern Tryz.prog 172 _ (ReflectliteType.method ReflectliteType.elem) Tryz.func172 (by kernel_rfl) (by kernel_rfl) (by kernel_rfl) (by kernel_rfl)
  have h69 := @run_callFunc_extern Tryz.prog 173 _ (ReflectliteType.relation "Implements" ReflectliteType.implements_) Tryz.func173 (by kernel_rfl) (by kernel_rfl) (by kernel_rfl) (by kernel_rfl)
  have f33 := valueOf63
  have f34 := type63
  have mK := methodKind
  have mE := methodElem
  have mI := methodImplements
  have k63 := kind63
  have k61 := kind61
  have e63 := elem63
  have i61 := implements61
  have hlt := hg.lt
  have n8 := isNil63 ⟨w.heap.size, 0, none⟩ t ((w.alloc (.cells #[.pointer (some t)] 124)).alloc (.cells #[.pointer (some ⟨6, 124, none⟩), .pointer (some ⟨w.heap.size, 0, none⟩), .int .u64 150] 148)) (by simp)
  have hg2 : ((w.alloc (.cells #[.pointer (some t)] 124)).alloc (.cells #[.pointer (some ⟨6, 124, none⟩), .pointer (some ⟨w.heap.size, 0, none⟩), .int .u64 150] 148)).cell? ⟨2, 0, none⟩ = some (.iface 174 (.agg #[.pointer (some ⟨6, 90, none⟩)])) := by
    rw [World.cell?_alloc_lt _ _ ⟨2, 0, none⟩ (by simp; omega), World.cell?_alloc_lt _ _ ⟨2, 0, none⟩ hlt]; exact hg
  have h36' := h36 ((w.alloc (.cells #[.pointer (some t)] 124)).alloc (.cells #[.pointer (some ⟨6, 124, none⟩), .pointer (some ⟨w.heap.size, 0, none⟩), .int .u64 150] 148)) w.heap.size (((Below.refl _ _).alloc (Nat.le_refl _) _).alloc (by simp) _) (by simp)
  clear h36 hg
  go_enter Tryz.func88, Tryz.ntmps88
  go_wp2_with fail
  refine h36'.mono ?_
  rintro e w1 ⟨rfl, hR⟩
  have HR : Hid (R w1) := hR
  clear hR
  go_wp2
  go_ret
  exact ⟨rfl, HR.out⟩
set_option maxRecDepth 100000 in
set_option maxHeartbeats 4000000 in
theorem As64 (ty : Nat) (v : Value) (t : Addr) (b : Bool) (R : World → Prop) (w : World) (hg : Glo w)
    (h36 : ∀ W a, Below w.heap.size w W → W.cell? ⟨a, 0, none⟩ = some (.pointer (some t)) → Calls Tryz.prog 110 #[.iface ty v, .iface 125 (.pointer (some t)), .agg #[.pointer (some ⟨6, 125, none⟩), .pointer (some ⟨a, 0, none⟩), .int .u64 150], .iface 174 (.agg #[.pointer (some ⟨6, 121, none⟩)])] W fun e w' => e = .returned (.bool b) ∧ R w') :
    Calls Tryz.prog 88 #[.iface ty v, .iface 125 (.pointer (some t))] w fun e w' => e = .returned (.bool b) ∧ R w' := by
  have h33 := @run_callFunc_extern Tryz.prog 107 _ (fun args => ReflectliteValue.unpack (args.getD 0 (.tuple #[]))) Tryz.func107 (by kernel_rfl) (by kernel_rfl) (by kernel_rfl) (by kernel_rfl)
  have h34 := @run_callFunc_extern Tryz.prog 108 _ (ReflectliteValue.methodAny (ReflectliteValue.valueError "reflectlite.Value.Type" 0) (fun t _ _ _ => ReflectliteType.toType t)) Tryz.func108 (by kernel_rfl) (by kernel_rfl) (by kernel_rfl) (by kernel_rfl)
  have h35 := @run_callFunc_extern Tryz.prog 109 _ (ReflectliteValue.method (ReflectliteValue.valueError "reflectlite.Value.IsNil" 0) ReflectliteValue.isNil) Tryz.func109 (by kernel_rfl) (by kernel_rfl) (by kernel_rfl) (by kernel_rfl)
  have h56 := @run_callFunc_extern Tryz.prog 160 _ (ReflectliteType.abiMethod fun t => do pure (.int .u8 (← Rtype.kind t))) Tryz.func160 (by kernel_rfl) (by kernel_rfl) (by kernel_rfl) (by kernel_rfl)
  have h68 := @run_callFunc_extern Tryz.prog 172 _ (ReflectliteType.method ReflectliteType.elem) Tryz.func172 (by kernel_rfl) (by kernel_rfl) (by kernel_rfl) (by kernel_rfl)
  have h69 := @run_callFunc_extern Tryz.prog 173 _ (ReflectliteType.relation "Implements" ReflectliteType.implements_) Tryz.func173 (by kernel_rfl) (by kernel_rfl) (by kernel_rfl) (by kernel_rfl)
  have f33 := valueOf64
  have f34 := type64
  have mK := methodKind
  have mE := methodElem
  have mI := methodImplements
  have k63 := kind64
  have k61 := kind60
  have e63 := elem64
  have i61 := implements60
  have hlt := hg.lt
  have n8 := isNil64 ⟨w.heap.size, 0, none⟩ t ((w.alloc (.cells #[.pointer (some t)] 125)).alloc (.cells #[.pointer (some ⟨6, 125, none⟩), .pointer (some ⟨w.heap.size, 0, none⟩), .int .u64 150] 148)) (by simp)
  have hg2 : ((w.alloc (.cells #[.pointer (some t)] 125)).alloc (.cells #[.pointer (some ⟨6, 125, none⟩), .pointer (some ⟨w.heap.size, 0, none⟩), .int .u64 150] 148)).cell? ⟨2, 0, none⟩ = some (.iface 174 (.agg #[.pointer (some ⟨6, 90, none⟩)])) := by
    rw [World.cell?_alloc_lt _ _ ⟨2, 0, none⟩ (by simp; omega), World.cell?_alloc_lt _ _ ⟨2, 0, none⟩ hlt]; exact hg
  have h36' := h36 ((w.alloc (.cells #[.pointer (some t)] 125)).alloc (.cells #[.pointer (some ⟨6, 125, none⟩), .pointer (some ⟨w.heap.size, 0, none⟩), .int .u64 150] 148)) w.heap.size (((Below.refl _ _).alloc (Nat.le_refl _) _).alloc (by simp) _) (by simp)
  clear h36 hg
  go_enter Tryz.func88, Tryz.ntmps88
  go_wp2_with fail
  refine h36'.mono ?_
  rintro e w1 ⟨rfl, hR⟩
  have HR : Hid (R w1) := hR
  clear hR
  go_wp2
  go_ret
  exact ⟨rfl, HR.out⟩
end Go.Proofs.YtmbgcpmapaedcaaGreatDoor.Wi
