/- errors.as by its contracts, at the program's two error types. -/
import Derived.Test.YtelhfdhgcojmlaaDoorAsG
namespace Go.Proofs.YtelhfdhgcojmlaaDoor
open Go.RowKit Go.Extern.Stop Go.Stop Go.Extern
/-- all blocks but one are as they were -/
structure Upd (g : Nat) (w w' : World) : Prop where
  os : w'.os = w.os
  tape : w'.tape = w.tape
  output : w'.output = w.output
  size : w.heap.size ≤ w'.heap.size
  block : ∀ k, k < w.heap.size → k ≠ g → w'.heap[k]? = w.heap[k]?
theorem Upd.trans {g : Nat} {a b c : World} (h : Upd g a b) (k : Upd g b c) : Upd g a c :=
  ⟨k.os.trans h.os, k.tape.trans h.tape, k.output.trans h.output, Nat.le_trans h.size k.size, fun i hi hg => (k.block i (Nat.lt_of_lt_of_le hi h.size) hg).trans (h.block i hi hg)⟩
theorem Upd.of_below {g : Nat} {a b : World} (h : Below a.heap.size a b) : Upd g a b := ⟨h.os, h.tape, h.output, h.size, fun k hk _ => h.block k hk⟩
theorem Upd.setCell {g : Nat} {a b : World} (h : Upd g a b) (o : Nat) (v : Value) : Upd g a (b.setCell ⟨g, o, none⟩ v) :=
  h.trans ⟨rfl, rfl, rfl, by simp [World.setCell], fun k _ hg => Below.heap_setCell _ _ _ _ hg⟩
theorem Upd.below {g B : Nat} {a b c : World} (h : Upd g b c) (hb : Below B a b) (hB : B ≤ g) (hs : B ≤ b.heap.size) : Below B a c :=
  hb.trans ⟨h.os, h.tape, h.output, h.size, fun k hk => h.block k (by omega) (by omega)⟩
theorem Upd.cell {g : Nat} {w w' : World} (h : Upd g w w') {b o : Nat} (hb : b < w.heap.size) (hg : b ≠ g) : w'.cell? ⟨b, o, none⟩ = w.cell? ⟨b, o, none⟩ := World.cell?_of_block (w := w) (a := ⟨b, o, none⟩) (h.block b hb hg)
theorem Upd.frozen {g : Nat} {w w' : World} (h : Upd g w w') {b o : Nat} (hb : b < w.heap.size) (hg : b ≠ g) : w'.frozen? ⟨b, o, none⟩ = w.frozen? ⟨b, o, none⟩ := World.frozen?_of_block (w := w) (a := ⟨b, o, none⟩) (h.block b hb hg)
theorem unwrap_any (p c : Int) (w : World) : Calls Tryd.prog 60 #[.agg #[.int .i64 p, .iface 61 (.int .i64 c)]] w fun e w' => e = .returned (.iface 61 (.int .i64 c)) ∧ Below w.heap.size w w' := by
  go_enter Tryd.func60, Tryd.ntmps60
  go_wp2
  go_ret
  exact ⟨rfl, (Below.refl _ _).alloc (Nat.le_refl _) _⟩
set_option maxRecDepth 100000 in
set_option maxHeartbeats 4000000 in
theorem as_ref (t a : Nat) (c : Int) (old : Value) (w : World) (ha : w.cell? ⟨a, 0, none⟩ = some (.pointer (some ⟨t, 0, none⟩))) (ht0 : w.cell? ⟨t, 0, none⟩ = some old) (hf0 : w.frozen? ⟨t, 0, none⟩ = false) :
    Calls Tryd.prog 36 #[.iface 61 (.int .i64 c), .iface 63 (.pointer (some ⟨t, 0, none⟩)), .agg #[.pointer (some ⟨1, 63, none⟩), .pointer (some ⟨a, 0, none⟩), .int .u64 150], .iface 80 (.agg #[.pointer (some ⟨1, 61, none⟩)])] w
      fun ev w' => ev = .returned (.bool true) ∧ w'.cell? ⟨t, 0, none⟩ = some (.int .i64 c) ∧ Upd t w w' := by
  have h33 := @run_callFunc_extern Tryd.prog 33 _ (fun args => ReflectliteValue.unpack (args.getD 0 (.tuple #[]))) Tryd.func33 (by kernel_rfl) (by kernel_rfl) (by kernel_rfl) (by kernel_rfl)
  have h38 := @run_callFunc_extern Tryd.prog 38 _ ReflectliteType.typeOf Tryd.func38 (by kernel_rfl) (by kernel_rfl) (by kernel_rfl) (by kernel_rfl)
  have h66 := @run_callFunc_extern Tryd.prog 66 _ (ReflectliteType.relation "AssignableTo" ReflectliteType.assignableTo) Tryd.func66 (by kernel_rfl) (by kernel_rfl) (by kernel_rfl) (by kernel_rfl)
  have h39 := @run_callFunc_extern Tryd.prog 39 _ (ReflectliteValue.method (ReflectliteValue.valueError "reflectlite.Value.Elem" 0) ReflectliteValue.elem) Tryd.func39 (by kernel_rfl) (by kernel_rfl) (by kernel_rfl) (by kernel_rfl)
  have h40 := @run_callFunc_extern Tryd.prog 40 _ ReflectliteValue.set Tryd.func40 (by kernel_rfl) (by kernel_rfl) (by kernel_rfl) (by kernel_rfl)
  have tO := typeOf61
  have mA := methodAssignableTo
  have a61 := assignable6161
  have v61 := valueOf61
  have hal : a < w.heap.size := World.block_lt_of_cell? w _ ha
  have htl : t < w.heap.size := World.block_lt_of_cell? w _ ht0
  have el := elemV63 ⟨a, 0, none⟩ ⟨t, 0, none⟩ (w.alloc (.cells #[.pointer (some ⟨1, 63, none⟩), .pointer (some ⟨a, 0, none⟩), .int .u64 150] 69)) (by rw [World.cell?_alloc_lt _ _ ⟨a, 0, none⟩ hal]; exact ha)
  have st := set61 ⟨t, 0, none⟩ ⟨w.heap.size + 1, 0, none⟩ c old ((w.alloc (.cells #[.pointer (some ⟨1, 63, none⟩), .pointer (some ⟨a, 0, none⟩), .int .u64 150] 69)).alloc (.cells #[.int .i64 c] 61))
    (by rw [World.cell?_alloc_at _ _ _ _ (by simp)]; rfl)
    (by rw [World.cell?_alloc_lt _ _ ⟨t, 0, none⟩ (by simp; omega), World.cell?_alloc_lt _ _ ⟨t, 0, none⟩ htl]; exact ht0)
    (by rw [World.frozen?_alloc_old _ _ ⟨t, 0, none⟩ (by simp; omega), World.frozen?_alloc_old _ _ ⟨t, 0, none⟩ (Nat.ne_of_lt htl)]; exact hf0)
  have hU : Hid (∀ A B, Upd t w (((w.setCell ⟨t, 0, none⟩ (.int .i64 c)).alloc A).alloc B)) := fun A B =>
    (Upd.setCell (Upd.of_below (Below.refl _ _)) 0 _).trans (Upd.of_below (((Below.refl _ _).alloc (Nat.le_refl _) _).alloc (by simp) _))
  have hC : Hid (∀ A B, (((w.setCell ⟨t, 0, none⟩ (.int .i64 c)).alloc A).alloc B).cell? ⟨t, 0, none⟩ = some (.int .i64 c)) := fun A B => by
    rw [World.cell?_alloc_lt _ _ ⟨t, 0, none⟩ (by simp; omega), World.cell?_alloc_lt _ _ ⟨t, 0, none⟩ (by simpa using htl)]
    exact World.cell?_setCell_same _ _ _ ht0
  go_enter Tryd.func36, Tryd.ntmps36
  go_wp2
  refine wp_loop_rounds 1 ?_
  rw [rounds_succ]
  go_wp2
  go_ret
  exact ⟨rfl, hC.out _ _, hU.out _ _⟩
set_option maxRecDepth 100000 in
set_option maxHeartbeats 4000000 in
theorem as_ref_w (t a : Nat) (p c : Int) (old : Value) (w : World) (ha : w.cell? ⟨a, 0, none⟩ = some (.pointer (some ⟨t, 0, none⟩))) (ht0 : w.cell? ⟨t, 0, none⟩ = some old) (hf0 : w.frozen? ⟨t, 0, none⟩ = false) :
    Calls Tryd.prog 36 #[.iface 60 (.agg #[.int .i64 p, .iface 61 (.int .i64 c)]), .iface 63 (.pointer (some ⟨t, 0, none⟩)), .agg #[.pointer (some ⟨1, 63, none⟩), .pointer (some ⟨a, 0, none⟩), .int .u64 150], .iface 80 (.agg #[.pointer (some ⟨1, 61, none⟩)])] w
      fun ev w' => ev = .returned (.bool true) ∧ w'.cell? ⟨t, 0, none⟩ = some (.int .i64 c) ∧ Upd t w w' := by
  have h33 := @run_callFunc_extern Tryd.prog 33 _ (fun args => ReflectliteValue.unpack (args.getD 0 (.tuple #[]))) Tryd.func33 (by kernel_rfl) (by kernel_rfl) (by kernel_rfl) (by kernel_rfl)
  have h38 := @run_callFunc_extern Tryd.prog 38 _ ReflectliteType.typeOf Tryd.func38 (by kernel_rfl) (by kernel_rfl) (by kernel_rfl) (by kernel_rfl)
  have h66 := @run_callFunc_extern Tryd.prog 66 _ (ReflectliteType.relation "AssignableTo" ReflectliteType.assignableTo) Tryd.func66 (by kernel_rfl) (by kernel_rfl) (by kernel_rfl) (by kernel_rfl)
  have h39 := @run_callFunc_extern Tryd.prog 39 _ (ReflectliteValue.method (ReflectliteValue.valueError "reflectlite.Value.Elem" 0) ReflectliteValue.elem) Tryd.func39 (by kernel_rfl) (by kernel_rfl) (by kernel_rfl) (by kernel_rfl)
  have h40 := @run_callFunc_extern Tryd.prog 40 _ ReflectliteValue.set Tryd.func40 (by kernel_rfl) (by kernel_rfl) (by kernel_rfl) (by kernel_rfl)
  have tO := typeOf61
  have tO0 := typeOf60
  have mA := methodAssignableTo
  have mU := methodUnwrap
  have a61 := assignable6161
  have a60 := assignable6061
  have v61 := valueOf61
  have q1 := noAs60
  have q2 := hasUn60
  have hal : a < w.heap.size := World.block_lt_of_cell? w _ ha
  have htl : t < w.heap.size := World.block_lt_of_cell? w _ ht0
  have HA : Hid (∀ W, Below w.heap.size w W → W.cell? ⟨a, 0, none⟩ = some (.pointer (some ⟨t, 0, none⟩))) := fun W h => (h.cell (p := ⟨a, 0, none⟩) hal).trans ha
  have HT : Hid (∀ W, Below w.heap.size w W → W.cell? ⟨t, 0, none⟩ = some old) := fun W h => (h.cell (p := ⟨t, 0, none⟩) htl).trans ht0
  have HF : Hid (∀ W, Below w.heap.size w W → W.frozen? ⟨t, 0, none⟩ = false) := fun W h => (h.frozen (p := ⟨t, 0, none⟩) htl).trans hf0
  clear ha ht0 hf0
  go_enter Tryd.func36, Tryd.ntmps36
  go_wp2
  refine wp_loop_rounds 2 ?_
  rw [rounds_succ]
  go_wp2_with fail
  refine (unwrap_any p c _).mono ?_
  rintro e w1 ⟨rfl, hb1⟩
  have b1 : Below w.heap.size w w1 := ((Below.refl _ _).alloc (Nat.le_refl _) _).trans (hb1.mono (by simp))
  have c0 : w1.cell? ⟨w.heap.size, 0, none⟩ = some (.pointer (some ⟨1, 63, none⟩)) := (hb1.cell (p := ⟨w.heap.size, 0, none⟩) (by simp)).trans (by simp)
  have c1 : w1.cell? ⟨w.heap.size, 1, none⟩ = some (.pointer (some ⟨a, 0, none⟩)) := (hb1.cell (p := ⟨w.heap.size, 1, none⟩) (by simp)).trans (by simp)
  have c2 : w1.cell? ⟨w.heap.size, 2, none⟩ = some (.int .u64 150) := (hb1.cell (p := ⟨w.heap.size, 2, none⟩) (by simp)).trans (by simp)
  have z1 : w.heap.size + 1 ≤ w1.heap.size := by have := hb1.size; simpa using this
  have el := elemV63 ⟨a, 0, none⟩ ⟨t, 0, none⟩ w1 (HA.out _ b1)
  have ht1 : w1.cell? ⟨t, 0, none⟩ = some old := HT.out _ b1
  have st := set61 ⟨t, 0, none⟩ ⟨w1.heap.size, 0, none⟩ c old (w1.alloc (.cells #[.int .i64 c] 61))
    (by simp)
    (by rw [World.cell?_alloc_lt _ _ ⟨t, 0, none⟩ (by simp; omega)]; exact ht1)
    (by rw [World.frozen?_alloc_old _ _ ⟨t, 0, none⟩ (by simp; omega)]; exact HF.out _ b1)
  have hU : Hid (∀ A, Upd t w ((w1.alloc A).setCell ⟨t, 0, none⟩ (.int .i64 c))) := fun A =>
    (Upd.of_below b1).trans (Upd.setCell (Upd.of_below ((Below.refl _ _).alloc (Nat.le_refl _) _)) 0 _)
  have hC : Hid (∀ A, ((w1.alloc A).setCell ⟨t, 0, none⟩ (.int .i64 c)).cell? ⟨t, 0, none⟩ = some (.int .i64 c)) := fun A =>
    World.cell?_setCell_same _ _ _ ((World.cell?_alloc_lt _ _ ⟨t, 0, none⟩ (by simp; omega)).trans ht1)
  clear hb1 b1 ht1 tO0 a60 q1 q2 mU
  go_wp2
  rw [rounds_succ]
  go_wp2
  go_ret
  exact ⟨rfl, hC.out _, hU.out _⟩
end Go.Proofs.YtelhfdhgcojmlaaDoor
