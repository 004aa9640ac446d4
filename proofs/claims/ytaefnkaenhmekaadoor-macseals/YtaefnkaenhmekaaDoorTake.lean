/- A block taken in: plain lists. -/
import Derived.Test.YtaefnkaenhmekaaDoorSched
namespace Go.Proofs.YtaefnkaenhmekaaDoor
open Go.RowKit
def kTab : List Nat := [1116352408, 1899447441, 3049323471, 3921009573, 961987163, 1508970993, 2453635748, 2870763221, 3624381080, 310598401, 607225278, 1426881987, 1925078388, 2162078206, 2614888103, 3248222580, 3835390401, 4022224774, 264347078, 604807628, 770255983, 1249150122, 1555081692, 1996064986, 2554220882, 2821834349, 2952996808, 3210313671, 3336571891, 3584528711, 113926993, 338241895, 666307205, 773529912, 1294757372, 1396182291, 1695183700, 1986661051, 2177026350, 2456956037, 2730485921, 2820302411, 3259730800, 3345764771, 3516065817, 3600352804, 4094571909, 275423344, 430227734, 506948616, 659060556, 883997877, 958139571, 1322822218, 1537002063, 1747873779, 1955562222, 2024104815, 2227730452, 2361852424, 2428436474, 2756734187, 3204031479, 3329325298]
def kAt (t : Nat) : BitVec 32 := BitVec.ofNat 32 (kTab.getD t 0)
/-- the eight working words -/
structure St where
  a : BitVec 32
  b : BitVec 32
  c : BitVec 32
  d : BitVec 32
  e : BitVec 32
  f : BitVec 32
  g : BitVec 32
  h : BitVec 32
def St.list (s : St) : List (BitVec 32) := [s.a, s.b, s.c, s.d, s.e, s.f, s.g, s.h]
def t1 (s : St) (k w : BitVec 32) : BitVec 32 := s.h + bigS1 s.e + ((s.e &&& s.f) ^^^ (~~~ s.e &&& s.g)) + k + w
def t2 (s : St) : BitVec 32 := bigS0 s.a + ((s.a &&& s.b) ^^^ (s.a &&& s.c) ^^^ (s.b &&& s.c))
def round (s : St) (k w : BitVec 32) : St := { a := t1 s k w + t2 s, b := s.a, c := s.b, d := s.c, e := s.d + t1 s k w, f := s.e, g := s.f, h := s.g }
def rounds (ws : List (BitVec 32)) (s : St) : Nat → St
  | 0 => s
  | n + 1 => round (rounds ws s n) (kAt n) (at32 ws n)
def addSt (s r : St) : St := { a := s.a + r.a, b := s.b + r.b, c := s.c + r.c, d := s.d + r.d, e := s.e + r.e, f := s.f + r.f, g := s.g + r.g, h := s.h + r.h }
/-- the state behind a block -/
def takeB (s : St) (bl : List UInt8) : St := addSt s (rounds (wk bl 64) s 64)
def encS (s : St) : Array Value := #[.int .u32 (V s.a), .int .u32 (V s.b), .int .u32 (V s.c), .int .u32 (V s.d), .int .u32 (V s.e), .int .u32 (V s.f), .int .u32 (V s.g), .int .u32 (V s.h)]
/-- the same memory -/
def Same (W w : World) : Prop := w.heap = W.heap ∧ w.os = W.os ∧ w.tape = W.tape ∧ w.output = W.output
theorem Same.cell {W w : World} (h : Same W w) (p : Addr) : w.cell? p = W.cell? p := World.cell?_of_block (w := W) (a := p) (by rw [h.1])
theorem Same.frozen {W w : World} (h : Same W w) (p : Addr) : w.frozen? p = W.frozen? p := World.frozen?_of_block (w := W) (a := p) (by rw [h.1])
theorem Same.drewN {W w : World} (h : Same W w) (n : Nat) : Same W (w.drewN n) := h
theorem Same.drew {W w : World} (h : Same W w) : Same W w.drew := h
theorem Same.below {W w a : World} {B : Nat} (h : Same W w) (hb : Below B a W) : Below B a w :=
  hb.trans ⟨h.2.1, h.2.2.1, h.2.2.2, by rw [h.1]; exact Nat.le_refl _, fun _ _ => by rw [h.1]⟩
/-- the table of constants lies in memory, in the program's first variable -/
def Tab (w : World) : Prop := ∀ t, t < 64 → w.cell? ⟨0, t, none⟩ = some (.int .u32 (V (kAt t)))
theorem Tab.below {B : Nat} {w w' : World} (h : Tab w) (hb : Below B w w') (hB : 0 < B) : Tab w' := fun t ht => (hb.cell (p := ⟨0, t, none⟩) hB).trans (h t ht)
theorem heap3_0 (w : World) (o1 o2 o3 : Obj) : (((w.alloc o1).alloc o2).alloc o3).heap[w.heap.size]? = some o1 := by
  rw [heap_alloc_old _ _ (by simp; omega), heap_alloc_old _ _ (by simp), heap_alloc_new]
theorem heap3_1 (w : World) (o1 o2 o3 : Obj) : (((w.alloc o1).alloc o2).alloc o3).heap[w.heap.size + 1]? = some o2 := by
  rw [heap_alloc_old _ _ (by simp), show w.heap.size + 1 = (w.alloc o1).heap.size from by simp, heap_alloc_new]
theorem heap3_2 (w : World) (o1 o2 o3 : Obj) : (((w.alloc o1).alloc o2).alloc o3).heap[w.heap.size + 1 + 1]? = some o3 := by
  rw [show w.heap.size + 1 + 1 = ((w.alloc o1).alloc o2).heap.size from by simp, heap_alloc_new]
theorem below3 (w : World) (o1 o2 o3 : Obj) : Below w.heap.size w (((w.alloc o1).alloc o2).alloc o3) :=
  (((Below.refl _ _).alloc (Nat.le_refl _) _).alloc (by simp) _).alloc (by simp; omega) _
theorem words_get (ws : List (BitVec 32)) (t : Nat) (h : t < ws.length) : (ws.map encW).toArray[t]? = some (.int .u32 (V (at32 ws t))) := by
  unfold at32
  rw [List.getElem?_toArray, List.getElem?_map, List.getElem?_eq_getElem h, List.getD_eq_getElem?_getD, List.getElem?_eq_getElem h]
  rfl
theorem cell_alloc_old (w : World) (o : Obj) (g i : Nat) (h : g < w.heap.size) : (w.alloc o).cell? ⟨g, i, none⟩ = w.cell? ⟨g, i, none⟩ :=
  World.cell?_of_block (w := w) (a := ⟨g, i, none⟩) (heap_alloc_old _ _ h)
end Go.Proofs.YtaefnkaenhmekaaDoor
