/- The contracts of wire.appendPair and wire.appendNumber. -/
import Derived.Test.YtmbgcpmapaedcaaDoorWiListP
import Derived.Deep.AppendLies
import Derived.OwnWalk
import Derived.Deep.DeepMust
namespace Go.Proofs.YtmbgcpmapaedcaaDoor.Wi
open Go.RowKit
theorem hide {p : Prop} (h : p) : Hid p := h
/-- a byte slice of the call's own has grown -/
structure App (base : Nat) (w : World) (v : Value) (w' : World) (v' : Value) (n : Nat) (xs : List Value) : Prop where
  own : w'.ownsRow base 5 1 v' n xs
  grow : w.grownBy w' v.ownBlock
  lies : v'.ownBlock = v.ownBlock ∨ ∃ g, v'.ownBlock = some g ∧ w.heap.size ≤ g
theorem App.trans {base : Nat} {w w1 w2 : World} {v v1 v2 : Value} {n1 n2 : Nat} {x1 x2 : List Value} (h : App base w v w1 v1 n1 x1) (k : App base w1 v1 w2 v2 n2 x2) : App base w v w2 v2 n2 x2 where
  own := k.own
  grow := ⟨k.grow.os.trans h.grow.os, k.grow.tape.trans h.grow.tape, k.grow.output.trans h.grow.output, Nat.le_trans h.grow.size k.grow.size, fun i hi hne => by
    have hs := h.grow.size
    refine (k.grow.block i (Nat.lt_of_lt_of_le hi hs) ?_).trans (h.grow.block i hi hne)
    rcases h.lies with e | ⟨g, e, hg⟩
    · rw [e]; exact hne
    · rw [e]; intro he; injection he with he; omega⟩
  lies := by
    have hs := h.grow.size
    rcases k.lies with e | ⟨g, e, hg⟩
    · rcases h.lies with e1 | ⟨g1, e1, hg1⟩
      · exact .inl (e.trans e1)
      · exact .inr ⟨g1, e.trans e1, hg1⟩
    · exact .inr ⟨g, e, by omega⟩
theorem App.pre {base : Nat} {w w1 w2 : World} {v v2 : Value} {n2 : Nat} {x2 : List Value} (hb : Below w.heap.size w w1) (k : App base w1 v w2 v2 n2 x2) : App base w v w2 v2 n2 x2 where
  own := k.own
  grow := ⟨k.grow.os.trans hb.os, k.grow.tape.trans hb.tape, k.grow.output.trans hb.output, Nat.le_trans hb.size k.grow.size, fun i hi hne =>
    (k.grow.block i (Nat.lt_of_lt_of_le hi hb.size) hne).trans (hb.block i hi)⟩
  lies := by
    have hs := hb.size
    rcases k.lies with e | ⟨g, e, hg⟩
    · exact .inl e
    · exact .inr ⟨g, e, by omega⟩
theorem App.of_lies {base : Nat} {w w1 w' : World} {v : Value} {g cap n : Nat} {xs : List Value} (hb : Below w.heap.size w w1) (hown : w'.ownsRow base 5 1 (.slice (some ⟨g, 0, none⟩) n cap) n xs) (hgr : w1.grownBy w' v.ownBlock) (hat : v.ownBlock = some g ∨ g = w1.heap.size) : App base w v w' (.slice (some ⟨g, 0, none⟩) n cap) n xs :=
  App.pre hb ⟨hown, hgr, by
    rcases hat with e | e
    · exact .inl e.symm
    · exact .inr ⟨g, rfl, by omega⟩⟩
theorem App.below {base : Nat} {w0 w w' : World} {v v' : Value} {n : Nat} {xs : List Value} (h : App base w v w' v' n xs) (hb : Below base w0 w) (hB : base ≤ w.heap.size) (hv : ∀ k, v.ownBlock = some k → base ≤ k) : Below base w0 w' := hb.grown h.grow hB hv
theorem App.cell {base : Nat} {w w' : World} {v v' : Value} {n : Nat} {xs : List Value} (h : App base w v w' v' n xs) {a : Addr} (hl : a.block < w.heap.size) (hne : some a.block ≠ v.ownBlock) : w'.cell? a = w.cell? a := h.grow.cell_far a hl hne
set_option maxRecDepth 100000 in
set_option maxHeartbeats 1600000 in
theorem appendPair_any (base : Nat) (v : Value) (k n : Nat) (xs : List Value) (w : World) (hown : w.ownsRow base 5 1 v k xs) (hbase : base ≤ w.heap.size) (hk : k ≤ 1000000000) (hn : n ≤ 65535) :
    Calls Tryd.prog 38 #[v, .int .i64 (n : Int)] w fun e w' => ∃ v', e = .returned v' ∧ App base w v w' v' (k + 2) (xs ++ (two n).map encB) := by
  obtain ⟨i0, hi, hz0, hz1, hz2⟩ := info_parts in5
  have HO := hide hown
  have n1 : (n : Int) ≤ 65535 := by omega
  have n0 : (0 : Int) ≤ (n : Int) := by omega
  have HT : Hid ((two n).map encB = [.int .u8 ((n : Int) / 256), .int .u8 ((n : Int) % 256)]) := by
    show [encB (UInt8.ofNat (n / 256)), encB (UInt8.ofNat (n % 256))] = _
    unfold encB
    rw [byte_of, byte_of, show n / 256 % 256 = n / 256 from by omega, show n % 256 % 256 = n % 256 from by omega]
    simp
  clear hown
  go_enter Tryd.func38, Tryd.ntmps38
  go_wp2_with (at_builtin; go_must (refine wpList_append_lies _ (by rfl) _ _ _ (by rfl) base 5 i0 _ 1 1 Tryd.underlying61 hi hz0 hz1 hz2 rfl (by omega) v k xs (by rfl) (HO.out.alloc _) ⟨w.heap.size, 0, none⟩ 2 2 [.int .u8 ((n : Int) / 256), .int .u8 ((n : Int) % 256)] (by rfl) (by rfl) (World.news_of_block (cs := #[.int .u8 ((n : Int) / 256), .int .u8 ((n : Int) % 256)]) (t := 5) (fr := (0, 0)) (heap_alloc_new w _)) (by simp [Value.oneCell']) (by omega) (by unfold maxLen; omega) (by omega) (by simp; omega) (w.heap.size + 1) (by simp) ?_; intro gg cap' w3 hown3 hgrow hat3 hlt3))
  go_ret
  refine ⟨_, rfl, App.of_lies ((Below.refl _ _).alloc (Nat.le_refl _) _) ?_ hgrow (by simpa using hat3)⟩
  rw [HT.out]; exact hown3
end Go.Proofs.YtmbgcpmapaedcaaDoor.Wi
