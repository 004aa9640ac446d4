/- What a hash holds of the bytes written into it: plain lists, and what a piece does to it. -/
import Derived.Test.YtaefnkaenhmekaaDoorHash
import Derived.Laws.IdiomCopy
namespace Go.Proofs.YtaefnkaenhmekaaDoor
open Go.RowKit
def iv : St := { a := 1779033703#32, b := 3144134277#32, c := 1013904242#32, d := 2773480762#32, e := 1359893119#32, f := 2600822924#32, g := 528734635#32, h := 1541459225#32 }
def absN (l : List UInt8) : Nat → St
  | 0 => iv
  | k + 1 => takeB (absN l k) ((l.drop (64 * k)).take 64)
def stOf (l : List UInt8) : St := absN l (l.length / 64)
def restOf (l : List UInt8) : List UInt8 := l.drop (64 * (l.length / 64))
theorem restOf_length (l : List UInt8) : (restOf l).length = l.length % 64 := by unfold restOf; rw [List.length_drop]; omega
/-- the digest of a message -/
def shaB (l : List UInt8) : List UInt8 := dig (finT (stOf l) (restOf l) l.length)
theorem shaB_length (l : List UInt8) : (shaB l).length = 32 := dig_length _
theorem absN_append (l r : List UInt8) : ∀ k, 64 * k ≤ l.length → absN (l ++ r) k = absN l k
  | 0, _ => rfl
  | k + 1, h => by
    rw [absN, absN, absN_append l r k (by omega)]
    rw [List.drop_append_of_le_length (by omega), List.take_append_of_le_length (by rw [List.length_drop]; omega)]
def HashIs (w : World) (g : Nat) (l : List UInt8) : Prop := ∃ tl, HB w g (stOf l) tl l.length ∧ tl.take (l.length % 64) = restOf l
/-- bytes r are laid into the tail behind u bytes -/
def layT (tl : List UInt8) (u : Nat) (r : List UInt8) : List UInt8 := tl.take u ++ (r ++ tl.drop (u + r.length))
theorem layT_length (tl : List UInt8) (u : Nat) (r : List UInt8) (ht : tl.length = 64) (h : u + r.length ≤ 64) : (layT tl u r).length = 64 := by unfold layT; simp [ht]; omega
theorem hash_more {w : World} {g : Nat} {l r tl : List UInt8} (ht : tl.take (l.length % 64) = restOf l) (h : l.length % 64 + r.length < 64)
    (hb : HB w g (stOf l) (layT tl (l.length % 64) r) (l.length + r.length)) : HashIs w g (l ++ r) := by
  have hd : (l ++ r).length / 64 = l.length / 64 := by rw [List.length_append]; omega
  have hm : (l ++ r).length % 64 = l.length % 64 + r.length := by rw [List.length_append]; omega
  refine ⟨layT tl (l.length % 64) r, ?_, ?_⟩
  · have e : stOf (l ++ r) = stOf l := by unfold stOf; rw [hd, absN_append _ _ _ (by omega)]
    rw [e, List.length_append]; exact hb
  · rw [hm]
    unfold layT restOf
    rw [hd, ht, restOf, List.drop_append_of_le_length (by omega), ← List.append_assoc, List.take_left' (by rw [List.length_append, List.length_drop]; omega)]
theorem hash_full {w : World} {g : Nat} {l r tl : List UInt8} (ht : tl.take (l.length % 64) = restOf l) (htl : tl.length = 64) (h : l.length % 64 + r.length = 64)
    (hb : HB w g (takeB (stOf l) (layT tl (l.length % 64) r)) (layT tl (l.length % 64) r) (l.length + r.length)) : HashIs w g (l ++ r) := by
  have hd : (l ++ r).length / 64 = l.length / 64 + 1 := by rw [List.length_append]; omega
  have hm : (l ++ r).length % 64 = 0 := by rw [List.length_append]; omega
  refine ⟨layT tl (l.length % 64) r, ?_, ?_⟩
  · have e : stOf (l ++ r) = takeB (stOf l) (layT tl (l.length % 64) r) := by
      unfold stOf
      rw [hd, absN, absN_append _ _ _ (by omega)]
      congr 1
      unfold layT
      rw [ht, restOf, List.drop_append_of_le_length (by omega), List.drop_of_length_le (by omega : tl.length ≤ l.length % 64 + r.length), List.append_nil]
      exact List.take_of_length_le (by rw [List.length_append, List.length_drop]; omega)
    rw [e, List.length_append]; exact hb
  · rw [hm]
    unfold restOf
    rw [hd, List.drop_of_length_le (by rw [List.length_append]; omega)]
    simp
theorem putAt_lay (s : St) (tl r : List UInt8) (u n : Nat) (ht : tl.length = 64) (h : u + r.length ≤ 64) : putAt (encH s tl n) (8 + u) (r.map encB) = encH s (layT tl u r) n := by
  have e : encH s tl n = (((encS s).toList ++ (tl.take u).map encB) ++ (((tl.drop u).take r.length).map encB ++ ((tl.drop (u + r.length)).map encB ++ [Value.int .i64 (n : Int)]))).toArray := by
    unfold encH
    have : tl.map encB = (tl.take u).map encB ++ (((tl.drop u).take r.length).map encB ++ (tl.drop (u + r.length)).map encB) := by
      rw [← List.map_append, ← List.map_append, ← List.drop_drop, List.take_append_drop, List.take_append_drop]
    rw [this]; simp only [List.append_assoc]
  rw [e]
  have := putAt_mid (r.map encB) ((encS s).toList ++ (tl.take u).map encB) (((tl.drop u).take r.length).map encB) ((tl.drop (u + r.length)).map encB ++ [Value.int .i64 (n : Int)]) (by simp [ht]; omega)
  rw [show ((encS s).toList ++ (tl.take u).map encB).length = 8 + u from by rw [List.length_append, List.length_map, List.length_take]; show 8 + _ = _; omega] at this
  rw [this]
  unfold encH layT
  simp only [List.map_append, List.append_assoc]
theorem HB.lay {w : World} {g : Nat} {s : St} {tl : List UInt8} {n : Nat} (h : HB w g s tl n) (u : Nat) (r : List UInt8) (hu : u + r.length ≤ 64) : HB (w.setCells g (8 + u) (r.map encB)) g s (layT tl u r) n :=
  ⟨by rw [heap_setCells_same g 50 _ (8 + u) w _ h.1, putAt_lay _ _ _ _ _ h.2 hu], layT_length _ _ _ h.2 hu⟩
/-- block g may have turned, what else was there has not -/
structure Upd (g : Nat) (w w' : World) : Prop where
  os : w'.os = w.os
  tape : w'.tape = w.tape
  output : w'.output = w.output
  size : w.heap.size ≤ w'.heap.size
  block : ∀ k, k < w.heap.size → k ≠ g → w'.heap[k]? = w.heap[k]?
theorem Upd.refl (g : Nat) (w : World) : Upd g w w := ⟨rfl, rfl, rfl, Nat.le_refl _, fun _ _ _ => rfl⟩
theorem Upd.trans {g : Nat} {a b c : World} (h : Upd g a b) (k : Upd g b c) : Upd g a c :=
  ⟨k.os.trans h.os, k.tape.trans h.tape, k.output.trans h.output, Nat.le_trans h.size k.size, fun i hi hg => (k.block i (Nat.lt_of_lt_of_le hi h.size) hg).trans (h.block i hi hg)⟩
theorem Upd.of_below {g : Nat} {a b : World} (h : Below a.heap.size a b) : Upd g a b := ⟨h.os, h.tape, h.output, h.size, fun k hk _ => h.block k hk⟩
theorem Upd.drew {g : Nat} {a b : World} (h : Upd g a b) : Upd g a b.drew := ⟨h.os, h.tape, h.output, h.size, h.block⟩
theorem Upd.drewN {g : Nat} {a b : World} (h : Upd g a b) (n : Nat) : Upd g a (b.drewN n) := ⟨h.os, h.tape, h.output, h.size, h.block⟩
theorem Upd.setCell {g : Nat} {a b : World} (h : Upd g a b) (o : Nat) (v : Value) : Upd g a (b.setCell ⟨g, o, none⟩ v) :=
  h.trans ⟨rfl, rfl, rfl, by simp [World.setCell], fun k _ hg => heap_setCell_other _ _ _ _ hg⟩
theorem Upd.setCells {g : Nat} {a : World} : ∀ (vs : List Value) (o : Nat) (b : World), Upd g a b → Upd g a (b.setCells g o vs)
  | [], _, _, h => h
  | v :: r, o, b, h => by rw [World.setCells]; exact Upd.setCells r (o + 1) _ (h.setCell o v)
theorem Upd.below {g B : Nat} {a b c : World} (h : Upd g b c) (hb : Below B a b) (hB : B ≤ g) (hs : B ≤ b.heap.size) : Below B a c :=
  hb.trans ⟨h.os, h.tape, h.output, h.size, fun k hk => h.block k (by omega) (by omega)⟩
theorem Upd.tab {g : Nat} {w w' : World} (h : Upd g w w') (hT : Tab w) (hg : 0 < g) (h0 : 0 < w.heap.size) : Tab w' := fun t ht =>
  (World.cell?_of_block (w := w) (a := ⟨0, t, none⟩) (h.block 0 h0 (by omega))).trans (hT t ht)
theorem HashIs.of_below {w w' : World} {g : Nat} {l : List UInt8} (h : HashIs w g l) (hb : Below w.heap.size w w') : HashIs w' g l := by
  obtain ⟨tl, h1, h2⟩ := h
  exact ⟨tl, h1.other (hb.block _ (lt_of_block h1.1)), h2⟩
theorem HashIs.lt {w : World} {g : Nat} {l : List UInt8} (h : HashIs w g l) : g < w.heap.size := by obtain ⟨tl, h1, _⟩ := h; exact lt_of_block h1.1
theorem drop_text (t : ByteArray) (n : Nat) : (t.extract n t.size).data.toList = t.data.toList.drop n := by
  rw [ByteArray.data_extract, Array.toList_extract, List.extract_eq_take_drop]
  exact List.take_of_length_le (by rw [List.length_drop, Array.length_toList]; exact Nat.le_refl _)
theorem range_below {W w : World} {g o : Nat} {cs : List Value} (hb : Below W.heap.size W w) (hg : g < W.heap.size) (h : W.rangeAt g o cs) : w.rangeAt g o cs := fun j v hv =>
  (hb.cell (p := ⟨g, o + j, none⟩) hg).trans (h j v hv)
theorem there_below {W w : World} {g o n : Nat} (hb : Below W.heap.size W w) (hg : g < W.heap.size) (h : W.there g o n) : w.there g o n := fun j hj => by
  rw [hb.cell (p := ⟨g, o + j, none⟩) hg, hb.frozen (p := ⟨g, o + j, none⟩) hg]; exact h j hj
/-- copy from a text into the midst of a block -/
theorem run_copy_text {P : Program} (w : World) (dT sT ty elem : TypeId) (b o dLen dCap n : Nat) (s : ByteArray) (hn : n = Nat.min s.size dLen)
    (hu : P.underlying dT = some (.slice elem)) (hs : (P.info? elem).map (·.size) = some 1) (hth : w.there b o n) :
    (Builtin.copy_ #[dT, sT] ty #[.slice (some ⟨b, o, none⟩) dLen dCap, .string s]).run P w = .ok (goInt n) (w.setCells b o ((s.data.toList.take n).map encB)) := by
  have hle : n ≤ s.size := by rw [hn]; exact Nat.min_le_left _ _
  have hlen : ((s.data.toList.take n).map encB).length = n := by
    rw [List.length_map, List.length_take, Array.length_toList]
    show min n s.size = n
    omega
  have hst := run_storeCells_cells (P := P) b o ((s.data.toList.take n).map encB) 0 w (by rw [hlen]; intro j hj; exact (hth j hj).1) (by rw [hlen]; intro j hj; exact (hth j hj).2) (by
    intro v hv
    obtain ⟨x, _, rfl⟩ := List.mem_map.1 hv
    rfl)
  have hst2 : (storeCells ⟨b, o, none⟩ (List.take n (List.map (fun b => Value.int .u8 (b.toNat : Int)) s.data.toList))).run P w = .ok () (w.setCells b o (List.take n (List.map encB s.data.toList))) := by
    rw [← List.map_take, ← List.map_take]; exact hst
  cases hq : P.info? elem with
  | none => simp [hq] at hs
  | some i =>
    simp [Builtin.copy_, run_underlying hu, Builtin.lenOf, Builtin.firstCells, sizeOf, typeInfo, hq, ← hn, hst2]
end Go.Proofs.YtaefnkaenhmekaaDoor
