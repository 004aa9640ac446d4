/- errors.As by its contracts, at the program's two error types. -/
import Derived.Test.YtelhfdhgcojmlaaDoorAsW
namespace Go.Proofs.YtelhfdhgcojmlaaDoor
open Go.RowKit Go.Extern.Stop Go.Stop Go.Extern
/-- the variable errors.errorType holds the handle of the type error -/
def Glo (w : World) : Prop := w.cell? ⟨0, 0, none⟩ = some (.iface 80 (.agg #[.pointer (some ⟨1, 45, none⟩)]))
theorem Glo.lt {w : World} (h : Glo w) : 0 < w.heap.size := World.block_lt_of_cell? w _ h
theorem Glo.below {w w' : World} {B : Nat} (h : Glo w) (hb : Below B w w') (h0 : 0 < B) : Glo w' := (hb.cell (p := ⟨0, 0, none⟩) h0).trans h
set_option maxRecDepth 100000 in
set_option maxHeartbeats 4000000 in
theorem as_pl (t a : Nat) (p c : Int) (o1 o2 : Value) (w : World) (ha : w.cell? ⟨a, 0, none⟩ = some (.pointer (some ⟨t, 0, none⟩))) (ht0 : w.cell? ⟨t, 0, none⟩ = some o1) (ht1 : w.cell? ⟨t, 1, none⟩ = some o2) (hf0 : w.frozen? ⟨t, 0, none⟩ = false) (hf1 : w.frozen? ⟨t, 1, none⟩ = false) :
    Calls Tryd.prog 36 #[.iface 60 (.agg #[.int .i64 p, .iface 61 (.int .i64 c)]), .iface 64 (.pointer (some ⟨t, 0, none⟩)), .agg #[.pointer (some ⟨1, 64, none⟩), .pointer (some ⟨a, 0, none⟩), .int .u64 150], .iface 80 (.agg #[.pointer (some ⟨1, 60, none⟩)])] w
      fun ev w' => ev = .returned (.bool true) ∧ w'.cell? ⟨t, 0, none⟩ = some (.int .i64 p) ∧ Upd t w w' := by
  have h33 := @run_callFunc_extern Tryd.prog 33 _ (fun args => ReflectliteValue.unpack (args.getD 0 (.tuple #[]))) Tryd.func33 (by kernel_rfl) (by kernel_rfl) (by kernel_rfl) (by kernel_rfl)
  have h38 := @run_callFunc_extern Tryd.prog 38 _ ReflectliteType.typeOf Tryd.func38 (by kernel_rfl) (by kernel_rfl) (by kernel_rfl) (by kernel_rfl)
  have h66 := @run_callFunc_extern Tryd.prog 66 _ (ReflectliteType.relation "AssignableTo" ReflectliteType.assignableTo) Tryd.func66 (by kernel_rfl) (by kernel_rfl) (by kernel_rfl) (by kernel_rfl)
  have h39 := @run_callFunc_extern Tryd.prog 39 _ (ReflectliteValue.method (ReflectliteValue.valueError "reflectlite.Value.Elem" 0) ReflectliteValue.elem) Tryd.func39 (by kernel_rfl) (by kernel_rfl) (by kernel_rfl) (by kernel_rfl)
  have h40 := @run_callFunc_extern Tryd.prog 40 _ ReflectliteValue.set Tryd.func40 (by kernel_rfl) (by kernel_rfl) (by kernel_rfl) (by kernel_rfl)
  have tO := typeOf60
  have mA := methodAssignableTo
  have a60 := assignable6060
  have v60 := valueOf60
  have hal : a < w.heap.size := World.block_lt_of_cell? w _ ha
  have htl : t < w.heap.size := World.block_lt_of_cell? w _ ht0
  have el := elemV64 ⟨a, 0, none⟩ ⟨t, 0, none⟩ (w.alloc (.cells #[.pointer (some ⟨1, 64, none⟩), .pointer (some ⟨a, 0, none⟩), .int .u64 150] 69)) (by rw [World.cell?_alloc_lt _ _ ⟨a, 0, none⟩ hal]; exact ha)
  obtain ⟨W2, hW2⟩ : ∃ W2, W2 = (w.alloc (.cells #[.pointer (some ⟨1, 64, none⟩), .pointer (some ⟨a, 0, none⟩), .int .u64 150] 69)).alloc (.cells #[.int .i64 p, .iface 61 (.int .i64 c)] 60) := ⟨_, rfl⟩
  have hb2 : Below w.heap.size w W2 := by rw [hW2]; exact ((Below.refl _ _).alloc (Nat.le_refl _) _).alloc (by simp) _
  have st := set60 t (w.heap.size + 1) p (.iface 61 (.int .i64 c)) o1 o2 W2 rfl
    (by rw [hW2, World.cell?_alloc_at _ _ _ _ (by simp)]; rfl) (by rw [hW2, World.cell?_alloc_at _ _ _ _ (by simp)]; rfl)
    ((hb2.cell (p := ⟨t, 0, none⟩) htl).trans ht0) ((hb2.cell (p := ⟨t, 1, none⟩) htl).trans ht1) ((hb2.frozen (p := ⟨t, 0, none⟩) htl).trans hf0) ((hb2.frozen (p := ⟨t, 1, none⟩) htl).trans hf1)
  have hE : Hid (((W2.setCell ⟨t, 0, none⟩ (.int .i64 p)).setCell ⟨t, 1, none⟩ (.iface 61 (.int .i64 c))).cell? ⟨t, 0, none⟩ = some (.int .i64 p) ∧ Upd t w ((W2.setCell ⟨t, 0, none⟩ (.int .i64 p)).setCell ⟨t, 1, none⟩ (.iface 61 (.int .i64 c)))) := by
    refine ⟨?_, Upd.setCell (Upd.setCell (Upd.of_below hb2) 0 _) 1 _⟩
    rw [World.cell?_setCell_other _ _ _ _ (by simp)]
    exact World.cell?_setCell_same _ _ _ ((hb2.cell (p := ⟨t, 0, none⟩) htl).trans ht0)
  generalize (W2.setCell ⟨t, 0, none⟩ (.int .i64 p)).setCell ⟨t, 1, none⟩ (.iface 61 (.int .i64 c)) = W3 at *
  rw [hW2] at st
  clear hb2 hW2 ha ht0 ht1 hf0 hf1
  go_enter Tryd.func36, Tryd.ntmps36
  go_wp2
  refine wp_loop_rounds 1 ?_
  rw [rounds_succ]
  go_wp2
  go_ret
  exact ⟨rfl, hE.out.1, hE.out.2⟩
set_option maxRecDepth 100000 in
set_option maxHeartbeats 4000000 in
theorem as_miss (tv : Value) (a : Nat) (c : Int) (w : World) :
    Calls Tryd.prog 36 #[.iface 61 (.int .i64 c), tv, .agg #[.pointer (some ⟨1, 64, none⟩), .pointer (some ⟨a, 0, none⟩), .int .u64 150], .iface 80 (.agg #[.pointer (some ⟨1, 60, none⟩)])] w
      fun ev w' => ev = .returned (.bool false) ∧ Below w.heap.size w w' := by
  have h38 := @run_callFunc_extern Tryd.prog 38 _ ReflectliteType.typeOf Tryd.func38 (by kernel_rfl) (by kernel_rfl) (by kernel_rfl) (by kernel_rfl)
  have h66 := @run_callFunc_extern Tryd.prog 66 _ (ReflectliteType.relation "AssignableTo" ReflectliteType.assignableTo) Tryd.func66 (by kernel_rfl) (by kernel_rfl) (by kernel_rfl) (by kernel_rfl)
  have tO := typeOf61
  have mA := methodAssignableTo
  have a60 := assignable6160
  have q1 := noAs61
  have q2 := noUn61
  have q3 := noUns61
  go_enter Tryd.func36, Tryd.ntmps36
  go_wp2
  refine wp_loop_rounds 1 ?_
  rw [rounds_succ]
  go_wp2
  go_ret
  exact ⟨rfl, (Below.refl _ _).alloc (Nat.le_refl _) _⟩
set_option maxRecDepth 100000 in
set_option maxHeartbeats 4000000 in
theorem As63 (ty : Nat) (v : Value) (t : Addr) (b : Bool) (R : World → Prop) (w : World) (hg : Glo w)
    (h36 : ∀ W a, Below w.heap.size w W → W.cell? ⟨a, 0, none⟩ = some (.pointer (some t)) → Calls Tryd.prog 36 #[.iface ty v, .iface 63 (.pointer (some t)), .agg #[.pointer (some ⟨1, 63, none⟩), .pointer (some ⟨a, 0, none⟩), .int .u64 150], .iface 80 (.agg #[.pointer (some ⟨1, 61, none⟩)])] W fun e w' => e = .returned (.bool b) ∧ R w') :
    Calls Tryd.prog 29 #[.iface ty v, .iface 63 (.pointer (some t))] w fun e w' => e = .returned (.bool b) ∧ R w' := by
  have h33 := @run_callFunc_extern Tryd.prog 33 _ (fun args => ReflectliteValue.unpack (args.getD 0 (.tuple #[]))) Tryd.func33 (by kernel_rfl) (by kernel_rfl) (by kernel_rfl) (by kernel_rfl)
  have h34 := @run_callFunc_extern Tryd.prog 34 _ (ReflectliteValue.methodAny (ReflectliteValue.valueError "reflectlite.Value.Type" 0) (fun t _ _ _ => ReflectliteType.toType t)) Tryd.func34 (by kernel_rfl) (by kernel_rfl) (by kernel_rfl) (by kernel_rfl)
  have h35 := @run_callFunc_extern Tryd.prog 35 _ (ReflectliteValue.method (ReflectliteValue.valueError "reflectlite.Value.IsNil" 0) ReflectliteValue.isNil) Tryd.func35 (by kernel_rfl) (by kernel_rfl) (by kernel_rfl) (by kernel_rfl)
  have h56 := @run_callFunc_extern Tryd.prog 56 _ (ReflectliteType.abiMethod fun t => do pure (.int .u8 (← Rtype.kind t))) Tryd.func56 (by kernel_rfl) (by kernel_rfl) (by kernel_rfl) (by kernel_rfl)
  have h68 := @run_callFunc_extern Tryd.prog 68 _ (ReflectliteType.method ReflectliteType.elem) Tryd.func68 (by kernel_rfl) (by kernel_rfl) (by kernel_rfl) (by kernel_rfl)
  have h69 := @run_callFunc_extern Tryd.prog 69 _ (ReflectliteType.relation "Implements" ReflectliteType.implements_) Tryd.func69 (by kernel_rfl) (by kernel_rfl) (by kernel_rfl) (by kernel_rfl)
  have f33 := valueOf63
  have f34 := type63
  have mK := methodKind
  have mE := methodElem
  have mI := methodImplements
  have k63 := kind63
  have k61 := kind61
  have e63 := elem63
  have i61 := implements61
  have hlt := hg.lt
  have n8 := isNil63 ⟨w.heap.size, 0, none⟩ t ((w.alloc (.cells #[.pointer (some t)] 63)).alloc (.cells #[.pointer (some ⟨1, 63, none⟩), .pointer (some ⟨w.heap.size, 0, none⟩), .int .u64 150] 69)) (by simp)
  have hg2 : ((w.alloc (.cells #[.pointer (some t)] 63)).alloc (.cells #[.pointer (some ⟨1, 63, none⟩), .pointer (some ⟨w.heap.size, 0, none⟩), .int .u64 150] 69)).cell? ⟨0, 0, none⟩ = some (.iface 80 (.agg #[.pointer (some ⟨1, 45, none⟩)])) := by
    rw [World.cell?_alloc_lt _ _ ⟨0, 0, none⟩ (by simp), World.cell?_alloc_lt _ _ ⟨0, 0, none⟩ hlt]; exact hg
  have h36' := h36 ((w.alloc (.cells #[.pointer (some t)] 63)).alloc (.cells #[.pointer (some ⟨1, 63, none⟩), .pointer (some ⟨w.heap.size, 0, none⟩), .int .u64 150] 69)) w.heap.size (((Below.refl _ _).alloc (Nat.le_refl _) _).alloc (by simp) _) (by simp)
  clear h36 hg
  go_enter Tryd.func29, Tryd.ntmps29
  go_wp2_with fail
  refine h36'.mono ?_
  rintro e w1 ⟨rfl, hR⟩
  have HR : Hid (R w1) := hR
  clear hR
  go_wp2
  go_ret
  exact ⟨rfl, HR.out⟩
set_option maxRecDepth 100000 in
set_option maxHeartbeats 4000000 in
theorem As64 (ty : Nat) (v : Value) (t : Addr) (b : Bool) (R : World → Prop) (w : World) (hg : Glo w)
    (h36 : ∀ W a, Below w.heap.size w W → W.cell? ⟨a, 0, none⟩ = some (.pointer (some t)) → Calls Tryd.prog 36 #[.iface ty v, .iface 64 (.pointer (some t)), .agg #[.pointer (some ⟨1, 64, none⟩), .pointer (some ⟨a, 0, none⟩), .int .u64 150], .iface 80 (.agg #[.pointer (some ⟨1, 60, none⟩)])] W fun e w' => e = .returned (.bool b) ∧ R w') :
    Calls Tryd.prog 29 #[.iface ty v, .iface 64 (.pointer (some t))] w fun e w' => e = .returned (.bool b) ∧ R w' := by
  have h33 := @run_callFunc_extern Tryd.prog 33 _ (fun args => ReflectliteValue.unpack (args.getD 0 (.tuple #[]))) Tryd.func33 (by kernel_rfl) (by kernel_rfl) (by kernel_rfl) (by kernel_rfl)
  have h34 := @run_callFunc_extern Tryd.prog 34 _ (ReflectliteValue.methodAny (ReflectliteValue.valueError "reflectlite.Value.Type" 0) (fun t _ _ _ => ReflectliteType.toType t)) Tryd.func34 (by kernel_rfl) (by kernel_rfl) (by kernel_rfl) (by kernel_rfl)
  have h35 := @run_callFunc_extern Tryd.prog 35 _ (ReflectliteValue.method (ReflectliteValue.valueError "reflectlite.Value.IsNil" 0) ReflectliteValue.isNil) Tryd.func35 (by kernel_rfl) (by kernel_rfl) (by kernel_rfl) (by kernel_rfl)
  have h56 := @run_callFunc_extern Tryd.prog 56 _ (ReflectliteType.abiMethod fun t => do pure (.int .u8 (← Rtype.kind t))) Tryd.func56 (by kernel_rfl) (by kernel_rfl) (by kernel_rfl) (by kernel_rfl)
  have h68 := @run_callFunc_extern Tryd.prog 68 _ (ReflectliteType.method ReflectliteType.elem) Tryd.func68 (by kernel_rfl) (by kernel_rfl) (by kernel_rfl) (by kernel_rfl)
  have h69 := @run_callFunc_extern Tryd.prog 69 _ (ReflectliteType.relation "Implements" ReflectliteType.implements_) Tryd.func69 (by kernel_rfl) (by kernel_rfl) (by kernel_rfl) (by kernel_rfl)
  have f33 := valueOf64
  have f34 := type64
  have mK := methodKind
  have mE := methodElem
  have mI := methodImplements
  have k63 := kind64
  have k61 := kind60
  have e63 := elem64
  have i61 := implements60
  have hlt := hg.lt
  have n8 := isNil64 ⟨w.heap.size, 0, none⟩ t ((w.alloc (.cells #[.pointer (some t)] 64)).alloc (.cells #[.pointer (some ⟨1, 64, none⟩), .pointer (some ⟨w.heap.size, 0, none⟩), .int .u64 150] 69)) (by simp)
  have hg2 : ((w.alloc (.cells #[.pointer (some t)] 64)).alloc (.cells #[.pointer (some ⟨1, 64, none⟩), .pointer (some ⟨w.heap.size, 0, none⟩), .int .u64 150] 69)).cell? ⟨0, 0, none⟩ = some (.iface 80 (.agg #[.pointer (some ⟨1, 45, none⟩)])) := by
    rw [World.cell?_alloc_lt _ _ ⟨0, 0, none⟩ (by simp), World.cell?_alloc_lt _ _ ⟨0, 0, none⟩ hlt]; exact hg
  have h36' := h36 ((w.alloc (.cells #[.pointer (some t)] 64)).alloc (.cells #[.pointer (some ⟨1, 64, none⟩), .pointer (some ⟨w.heap.size, 0, none⟩), .int .u64 150] 69)) w.heap.size (((Below.refl _ _).alloc (Nat.le_refl _) _).alloc (by simp) _) (by simp)
  clear h36 hg
  go_enter Tryd.func29, Tryd.ntmps29
  go_wp2_with fail
  refine h36'.mono ?_
  rintro e w1 ⟨rfl, hR⟩
  have HR : Hid (R w1) := hR
  clear hR
  go_wp2
  go_ret
  exact ⟨rfl, HR.out⟩
end Go.Proofs.YtelhfdhgcojmlaaDoor
