/- errors.As at the program's two error types: the assertions and the store of a whole placed error. -/
import Derived.Test.YtelhfdhgcojmlaaDoorAsF
namespace Go.Proofs.YtelhfdhgcojmlaaDoor
open Go.RowKit Go.Extern.Stop Go.Stop Go.Extern
theorem set60 (t g : Nat) (p : Int) (x o1 o2 : Value) (W : World) (hx : x.oneCell' = true) (hb0 : W.cell? ⟨g, 0, none⟩ = some (.int .i64 p)) (hb1 : W.cell? ⟨g, 1, none⟩ = some x)
    (ht0 : W.cell? ⟨t, 0, none⟩ = some o1) (ht1 : W.cell? ⟨t, 1, none⟩ = some o2) (hf0 : W.frozen? ⟨t, 0, none⟩ = false) (hf1 : W.frozen? ⟨t, 1, none⟩ = false) :
    (ReflectliteValue.set #[.agg #[.pointer (some ⟨1, 60, none⟩), .pointer (some ⟨t, 0, none⟩), .int .u64 409], .agg #[.pointer (some ⟨1, 60, none⟩), .pointer (some ⟨g, 0, none⟩), .int .u64 153]]).run Tryd.prog W
      = .ok (.tuple #[]) ((W.setCell ⟨t, 0, none⟩ (.int .i64 p)).setCell ⟨t, 1, none⟩ x) := by
  show (ReflectliteValue.parts (.agg #[.pointer (some ⟨1, 60, none⟩), .pointer (some ⟨t, 0, none⟩), .int .u64 409]) >>= fun p => ReflectliteValue.parts (.agg #[.pointer (some ⟨1, 60, none⟩), .pointer (some ⟨g, 0, none⟩), .int .u64 153]) >>= fun q => _).run Tryd.prog W = _
  simp only [Sem.run_bind, parts60a, parts60, Result.andThen]
  have e1 : (loadVar 60 ⟨g, 0, none⟩).run Tryd.prog W = .ok (.agg #[.int .i64 p, x]) W := by
    unfold loadVar
    simp [isAgg, underlying, Tryd.underlying60, Result.andThen, loadCells, loadCellsFrom, Addr.add, hb0, hb1]
  have e2 : (storeVar 60 ⟨t, 0, none⟩ (.agg #[.int .i64 p, x])).run Tryd.prog W = .ok () ((W.setCell ⟨t, 0, none⟩ (.int .i64 p)).setCell ⟨t, 1, none⟩ x) := by
    unfold storeVar
    simp [Value.cells, storeCells, Addr.add]
    rw [run_store Tryd.prog W ⟨t, 0, none⟩ _ _ (by rfl)]
    simp only [ht0, hf0]
    simp
    rw [run_store Tryd.prog _ ⟨t, 1, none⟩ _ _ hx]
    have h1 : (W.setCell ⟨t, 0, none⟩ (.int .i64 p)).cell? ⟨t, 1, none⟩ = some o2 := by rw [World.cell?_setCell_other _ _ _ _ (by simp)]; exact ht1
    have h2 : (W.setCell ⟨t, 0, none⟩ (.int .i64 p)).frozen? ⟨t, 1, none⟩ = false := by simpa using hf1
    simp [h1, h2]
  simp [ReflectliteValue.flagAddr, e1, e2, direct60, Result.andThen]
theorem noAs61 (v : Value) (xT : TypeId) (w : World) : (Instr.typeAssert (.iface 61 v) xT 85 true).run Tryd.prog w = .ok (.tuple #[.nilIface, .bool false]) w := run_typeAssert_lacksB Tryd.underlying85 (by kernel_rfl) (by kernel_rfl) v xT w
theorem noAs60 (v : Value) (xT : TypeId) (w : World) : (Instr.typeAssert (.iface 60 v) xT 85 true).run Tryd.prog w = .ok (.tuple #[.nilIface, .bool false]) w := run_typeAssert_lacksB Tryd.underlying85 (by kernel_rfl) (by kernel_rfl) v xT w
theorem noUn61 (v : Value) (xT : TypeId) (w : World) : (Instr.typeAssert (.iface 61 v) xT 88 true).run Tryd.prog w = .ok (.tuple #[.nilIface, .bool false]) w := run_typeAssert_lacksB Tryd.underlying88 (by kernel_rfl) (by kernel_rfl) v xT w
theorem noUns61 (v : Value) (xT : TypeId) (w : World) : (Instr.typeAssert (.iface 61 v) xT 90 true).run Tryd.prog w = .ok (.tuple #[.nilIface, .bool false]) w := run_typeAssert_lacksB Tryd.underlying90 (by kernel_rfl) (by kernel_rfl) v xT w
theorem hasUn60 (v : Value) (xT : TypeId) (w : World) : (Instr.typeAssert (.iface 60 v) xT 88 true).run Tryd.prog w = .ok (.tuple #[.iface 60 v, .bool true]) w := run_typeAssert_hasB Tryd.underlying88 (by kernel_rfl) v xT w
end Go.Proofs.YtelhfdhgcojmlaaDoor
