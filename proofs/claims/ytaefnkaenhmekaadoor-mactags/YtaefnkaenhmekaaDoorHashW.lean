/- The contracts of New, Sum, Write, Len, Fork and the package's Sum. -/
import Derived.Test.YtaefnkaenhmekaaDoorAddW
import Derived.Test.YtaefnkaenhmekaaDoorTakeW
import Derived.Test.YtaefnkaenhmekaaDoorSchedW
import Derived.Test.YtaefnkaenhmekaaDoorDigW
import Derived.Deep.WholeRow
namespace Go.Proofs.YtaefnkaenhmekaaDoor
open Go.RowKit
theorem takeSaid : TakeSaid := fun s bl hl w hT h0 => take_any sched_any s bl hl w hT h0
theorem z46 : (Tryd.prog.info? 50).map (·.size) = some 73 := by kernel_rfl
theorem hash_new (w : World) (c : Array Value) (h : c = encH iv z64 0) : HashIs (w.alloc (.cells c 50)) w.heap.size [] := by
  subst h
  exact ⟨z64, ⟨heap_alloc_new _ _, rfl⟩, rfl⟩
def zSt : St := { a := 0#32, b := 0#32, c := 0#32, d := 0#32, e := 0#32, f := 0#32, g := 0#32, h := 0#32 }
def zH : Array Value := encH zSt z64 0
theorem info46 : (Tryd.prog.info? 50).map (fun i => (i.zero, i.size)) = some (some (.agg zH), 73) := by kernel_rfl
theorem zH_size : zH.size = 73 := encH_size _ _ _ rfl
set_option maxRecDepth 100000 in
theorem zH_iv : (((((((zH.setIfInBounds 0 (.int .u32 1779033703)).setIfInBounds 1 (.int .u32 3144134277)).setIfInBounds 2 (.int .u32 1013904242)).setIfInBounds 3 (.int .u32 2773480762)).setIfInBounds 4 (.int .u32 1359893119)).setIfInBounds 5 (.int .u32 2600822924)).setIfInBounds 6 (.int .u32 528734635)).setIfInBounds 7 (.int .u32 1541459225) = encH iv z64 0 :=
  putAt_state zSt iv z64 0
set_option maxRecDepth 100000 in
set_option maxHeartbeats 800000 in
theorem new_any (w : World) : Calls Tryd.prog 25 #[] w fun e w' => e = .returned (.pointer (some ⟨w.heap.size, 0, none⟩)) ∧ HashIs w' w.heap.size [] ∧ Below w.heap.size w w' := by
  have hz := (zero_of_info info46).1
  have hsz := zH_size
  go_enter Tryd.func25, Tryd.ntmps25
  go_wp2
  go_ret
  exact ⟨rfl, hash_new w _ zH_iv, (Below.refl _ _).alloc (Nat.le_refl _) _⟩
/-- a whole struct is loaded, as the walk meets it -/
theorem loads_arm {P : Program} {ops : Array Oper} {rest : List Oper} {a : Act} {w : World} {Q : Exit → Act → World → Prop} {pos : String} {after : Array Edge} (dst : Nat) (ty : TypeId) (x : Operand)
    (g : Nat) (t : TypeId) (cs : Array Value) (fr : Nat × Nat) (fs : Array Field) (hg : w.heap[g]? = some (.cells cs t fr))
    (hu : P.underlying ty = some (.struct fs)) (hi : (P.info? ty).map (·.size) = some cs.size) (hx : a.eval x = .pointer (some ⟨g, 0, none⟩))
    (h : wpList P ops Q rest (a.put (some dst) (.agg cs)) w) : wpList P ops Q ({ dst := some dst, op := .load ty x, type := ty, pos := pos, after := after, guard := none } :: rest) a w :=
  wpList_load_row rfl ty x rfl g hx t cs fr _ hg hu rfl hi h
set_option maxRecDepth 100000 in
set_option maxHeartbeats 800000 in
theorem hsum_any (g : Nat) (l : List UInt8) (hn : l.length < 1152921504606846976) (w : World) (hTab : Tab w) (h0 : 0 < w.heap.size) (hH : HashIs w g l) :
    Calls Tryd.prog 27 #[.pointer (some ⟨g, 0, none⟩)] w fun e w' => e = .returned (.string ⟨(shaB l).toArray⟩) ∧ Below w.heap.size w w' := by
  obtain ⟨tl, ⟨hb, htl⟩, hr⟩ := hH
  have hfin : Calls Tryd.prog 35 #[.agg (encH (stOf l) tl l.length)] w fun e w' => e = .returned (.agg (encS (finT (stOf l) (restOf l) l.length))) ∧ Below w.heap.size w w' := by
    have := finish_any takeSaid (stOf l) tl htl l.length hn w hTab h0
    rwa [hr] at this
  have hsz : (Tryd.prog.info? 50).map (·.size) = some (encH (stOf l) tl l.length).size := by rw [encH_size _ _ _ htl]; exact z46
  have hsh : Hid (shaB l = dig (finT (stOf l) (restOf l) l.length)) := rfl
  generalize finT (stOf l) (restOf l) l.length = F at *
  generalize encH (stOf l) tl l.length = A at *
  clear hTab hr
  go_enter Tryd.func27, Tryd.ntmps27
  go_wp2_with (first | ((with_reducible refine at_load ?_); go_must (refine loads_arm 5 50 (.tmp 4) _ _ A _ _ hb Tryd.underlying50 hsz rfl ?_)))
  refine hfin.mono ?_
  rintro e w1 ⟨rfl, hb1⟩
  go_wp2_with fail
  refine (digest_any F w1).mono ?_
  rintro e w2 ⟨rfl, hb2⟩
  go_wp2
  go_ret
  rw [hsh.out]
  exact ⟨rfl, hb1.trans (hb2.mono hb1.size)⟩
set_option maxHeartbeats 800000 in
theorem sum_any (s : ByteArray) (hn : s.size < 1152921504606846976) (w : World) (hTab : Tab w) (h0 : 0 < w.heap.size) :
    Calls Tryd.prog 18 #[.string s] w fun e w' => e = .returned (.string ⟨(shaB s.data.toList).toArray⟩) ∧ Below w.heap.size w w' := by
  have HTab : Hid (Tab w) := hTab
  clear hTab
  go_enter Tryd.func18, Tryd.ntmps18
  go_wp2_with fail
  refine (new_any _).mono ?_
  rintro e w1 ⟨rfl, hH1, hb1⟩
  have hT1 := HTab.out.below hb1 h0
  have hg1 := hH1.lt
  go_wp2_with fail
  refine (add_any takeSaid w.heap.size h0 [] s (by simpa using hn) w1 hT1 hH1).mono ?_
  rintro e w2 ⟨rfl, hH2, hU2⟩
  have hT2 := hU2.tab hT1 h0 (by omega)
  have hb2 : Below w.heap.size w w2 := hU2.below hb1 (Nat.le_refl _) (by omega)
  clear hH1 hT1 hU2 hb1
  go_wp2_with fail
  refine (hsum_any w.heap.size _ (by simpa using hn) w2 hT2 (by have := hb2.size; omega) hH2).mono ?_
  rintro e w3 ⟨rfl, hb3⟩
  go_wp2
  go_ret
  exact ⟨rfl, hb2.trans (hb3.mono hb2.size)⟩
end Go.Proofs.YtaefnkaenhmekaaDoor
