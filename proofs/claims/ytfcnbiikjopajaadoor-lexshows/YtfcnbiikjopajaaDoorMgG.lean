/- Slices of tokens that read as a list. | The Builder's writers at this program: the kit's contracts of Go's library, laid by hand (its own tool leaves these two out). | Plain facts on lex.Show: what the program shows a list of tokens as, against the document's showing. | A slice of tokens among the arguments, opened; what the longer list of tables gives; a world that shows that it can be met. | The Builder's writers, with what they leave alone. -/
import Derived.Test.YtfcnbiikjopajaaDoorMgF
import Derived.Test.YtfcnbiikjopajaaDoorShelfB
import Derived.Test.YtfcnbiikjopajaaDoorComW
import Derived.Test.YtfcnbiikjopajaaDoorFrame
import Derived.Deep.Slices
import Derived.LaidLaws
import Derived.SizedLaws
import Derived.Shelf.Strings.BuilderK
namespace Go.Proofs.YtfcnbiikjopajaaDoor
open Go.RowKit
/-- a token as its five cells have it -/
structure Tv where
  k : Int
  s : ByteArray
  n : Int
  t : Int
  at_ : Int
def tvC (x : Tv) : List Value := [.int .i64 x.k, .string x.s, .int .i64 x.n, .int .i64 x.t, .int .i64 x.at_]
def tvsC : List Tv → List Value
  | [] => []
  | x :: l => tvC x ++ tvsC l
theorem tvsC_append (a b : List Tv) : tvsC (a ++ b) = tvsC a ++ tvsC b := by
  induction a with
  | nil => rfl
  | cons x a ih => rw [List.cons_append, tvsC, tvsC, ih, List.append_assoc]
theorem tvsC_length (l : List Tv) : (tvsC l).length = l.length * 5 := by
  induction l with
  | nil => rfl
  | cons x l ih => rw [tvsC, List.length_append, ih, List.length_cons]; show 5 + _ = _; omega
theorem tvsC_get (l : List Tv) : ∀ (i j : Nat) (h : i < l.length), j < 5 → (tvsC l)[i * 5 + j]? = (tvC l[i])[j]? := by
  induction l with
  | nil => intro i j h; exact absurd h (Nat.not_lt_zero _)
  | cons x l ih =>
    intro i j h hj
    match i with
    | 0 => rw [tvsC, List.getElem?_append_left (by show 0 * 5 + j < 5; omega), Nat.zero_mul, Nat.zero_add]; rfl
    | i + 1 =>
      rw [tvsC, List.getElem?_append_right (by show 5 ≤ _; omega)]
      show (tvsC l)[(i + 1) * 5 + j - 5]? = (tvC (l[i]'(by simpa using h)))[j]?
      rw [show (i + 1) * 5 + j - 5 = i * 5 + j from by omega]
      exact ih i j (by simpa using h) hj
theorem tvsC_one (l : List Tv) : ∀ u ∈ tvsC l, u.oneCell' = true := by
  induction l with
  | nil => intro u hu; cases hu
  | cons x l ih =>
    intro u hu
    rcases List.mem_append.1 hu with h | h
    · simp only [tvC, List.mem_cons, List.not_mem_nil, or_false] at h
      rcases h with rfl | rfl | rfl | rfl | rfl <;> rfl
    · exact ih u h
/-- the tokens of a text of L bytes -/
def tvOf (L : Nat) (x : Tk × Nat) : Tv := ⟨x.1.kind, ⟨x.1.s.toArray⟩, x.1.n, x.1.ty, ((L - x.2 : Nat) : Int)⟩
theorem tksC_tv (L : Nat) : ∀ ts : List (Tk × Nat), tksC L ts = tvsC (ts.map (tvOf L))
  | [] => rfl
  | x :: ts => by
    show tkC L x ++ tksC L ts = tvC (tvOf L x) ++ tvsC (ts.map (tvOf L))
    rw [tksC_tv L ts]; rfl
/-- the tokens l lie at a place -/
def TvAt (w : World) (b off : Nat) (l : List Tv) : Prop :=
  ∀ i x, l[i]? = some x → w.cell? ⟨b, off + i * 5, none⟩ = some (.int .i64 x.k) ∧ w.cell? ⟨b, off + i * 5 + 1, none⟩ = some (.string x.s) ∧ w.cell? ⟨b, off + i * 5 + 2, none⟩ = some (.int .i64 x.n) ∧ w.cell? ⟨b, off + i * 5 + 3, none⟩ = some (.int .i64 x.t) ∧ w.cell? ⟨b, off + i * 5 + 4, none⟩ = some (.int .i64 x.at_)
/-- a slice that reads as l -/
def Lst (w : World) (v : Value) (l : List Tv) : Prop :=
  ∃ (a : Option Addr) (b off cap : Nat), v = .slice a l.length cap ∧ (0 < l.length → b < w.heap.size ∧ a = some ⟨b, off, none⟩) ∧ TvAt w b off l
theorem Lst.below {w w' : World} {v : Value} {l : List Tv} {B : Nat} (h : Lst w v l) (hb : Below B w w') (hB : w.heap.size ≤ B) : Lst w' v l := by
  obtain ⟨a, b, off, cap, rfl, hb0, hI⟩ := h
  refine ⟨a, b, off, cap, rfl, fun h => ⟨by have := hb.size; have := (hb0 h).1; omega, (hb0 h).2⟩, fun i x hx => ?_⟩
  have hlt : b < B := by have := (hb0 (by have := (List.getElem?_eq_some_iff.1 hx).1; omega)).1; omega
  obtain ⟨h1, h2, h3, h4, h5⟩ := hI i x hx
  exact ⟨(hb.cell (p := ⟨b, _, none⟩) hlt).trans h1, (hb.cell (p := ⟨b, _, none⟩) hlt).trans h2, (hb.cell (p := ⟨b, _, none⟩) hlt).trans h3, (hb.cell (p := ⟨b, _, none⟩) hlt).trans h4, (hb.cell (p := ⟨b, _, none⟩) hlt).trans h5⟩
theorem Lst.of_owns {w : World} {base : Nat} {v : Value} {l : List Tv} (h : w.ownsRow base 41 5 v l.length (tvsC l)) : Lst w v l := by
  rcases h.2 with ⟨rfl, h0⟩ | ⟨g, cap, cur, rfl, hb, hg, hn, hm, hc, ht⟩
  · have hl : l = [] := List.eq_nil_of_length_eq_zero h0
    subst hl
    exact ⟨none, 0, 0, 0, rfl, fun h => absurd h (Nat.lt_irrefl 0), fun i x hx => by cases hx⟩
  · refine ⟨some ⟨g, 0, none⟩, g, 0, cap, rfl, fun _ => ⟨(Array.getElem?_eq_some_iff.1 hg).1, rfl⟩, fun i x hx => ?_⟩
    obtain ⟨hi, he⟩ := List.getElem?_eq_some_iff.1 hx
    have key : ∀ j, j < 5 → w.cell? ⟨g, i * 5 + j, none⟩ = (tvC x)[j]? := fun j hj => by
      rw [h.cellAt (i * 5 + j) (by omega), tvsC_get l i j hi hj, he]
    rw [Nat.zero_add]
    exact ⟨key 0 (by omega), key 1 (by omega), key 2 (by omega), key 3 (by omega), key 4 (by omega)⟩
theorem Lst.of_tks {w : World} {base L : Nat} {v : Value} {ts : List (Tk × Nat)} (h : w.ownsRow base 41 5 v ts.length (tksC L ts)) : Lst w v (ts.map (tvOf L)) := by
  apply Lst.of_owns (base := base)
  rw [← tksC_tv, List.length_map]
  exact h
theorem tv_cells {w : World} {b off : Nat} {l : List Tv} (h : TvAt w b off l) : ∀ j u, (tvsC l)[j]? = some u → w.cell? ((⟨b, off, none⟩ : Addr).add j) = some u := fun j u hu => by
  have hj : j < l.length * 5 := by rw [← tvsC_length]; exact (List.getElem?_eq_some_iff.1 hu).1
  have hi : j / 5 < l.length := by omega
  have e : (tvsC l)[j / 5 * 5 + j % 5]? = (tvC l[j / 5])[j % 5]? := tvsC_get l (j / 5) (j % 5) hi (by omega)
  rw [show j / 5 * 5 + j % 5 = j from by omega, hu] at e
  obtain ⟨h0, h1, h2, h3, h4⟩ := h (j / 5) _ (List.getElem?_eq_getElem hi)
  rw [Addr.add_mid]
  have hr : j % 5 = 0 ∨ j % 5 = 1 ∨ j % 5 = 2 ∨ j % 5 = 3 ∨ j % 5 = 4 := by omega
  rcases hr with r | r | r | r | r
  · rw [r] at e; rw [show off + j = off + j / 5 * 5 from by omega, h0]; exact e.symm
  · rw [r] at e; rw [show off + j = off + j / 5 * 5 + 1 from by omega, h1]; exact e.symm
  · rw [r] at e; rw [show off + j = off + j / 5 * 5 + 2 from by omega, h2]; exact e.symm
  · rw [r] at e; rw [show off + j = off + j / 5 * 5 + 3 from by omega, h3]; exact e.symm
  · rw [r] at e; rw [show off + j = off + j / 5 * 5 + 4 from by omega, h4]; exact e.symm
/-- the same but for their places -/
def core (x : Tv) : Int × ByteArray × Int × Int := (x.k, x.s, x.n, x.t)
end Go.Proofs.YtfcnbiikjopajaaDoor
namespace Go.Proofs
open Go.Shelf Go.RowKit
def Tryd.bld_ren : Go.Shelf.Ren := ⟨fun | 166 => 29 | 167 => 28 | 240 => 50 | 276 => 66 | n => n, fun | 0 => 0 | 3 => 3 | 4 => 4 | 5 => 5 | 9 => 9 | 20 => 20 | 37 => 53 | 70 => 55 | 72 => 57 | 75 => 59 | 80 => 65 | 164 => 97 | 127 => 83 | n => n, fun | n => n⟩
theorem Tryd.bld_lays167 : Go.Proofs.Lays.n167 Tryd.prog Tryd.bld_ren := {
  mixed := by kernel_rfl
  f167 := Tryd.func28.trans (congrArg some (by kernel_rfl))
  f240 := Tryd.func50.trans (congrArg some (by kernel_rfl))
  f276 := Tryd.func66.trans (congrArg some (by kernel_rfl))
  t0 := Tryd.underlying0
  a0 := Tryd.isAgg0
  z0 := Tryd.sizeOf0
  v0 := Tryd.zeroValue0
  t4 := Tryd.underlying4
  a4 := Tryd.isAgg4
  z4 := Tryd.sizeOf4
  v4 := Tryd.zeroValue4
  t5 := Tryd.underlying5
  a5 := Tryd.isAgg5
  z5 := Tryd.sizeOf5
  v5 := Tryd.zeroValue5
  t9 := Tryd.underlying9
  a9 := Tryd.isAgg9
  z9 := Tryd.sizeOf9
  v9 := Tryd.zeroValue9
  t20 := Tryd.underlying20
  a20 := Tryd.isAgg20
  z20 := Tryd.sizeOf20
  v20 := Tryd.zeroValue20
  t37 := Tryd.underlying53
  a37 := Tryd.isAgg53
  z37 := Tryd.sizeOf53
  v37 := Tryd.zeroValue53
  t70 := Tryd.underlying55
  a70 := Tryd.isAgg55
  z70 := Tryd.sizeOf55
  v70 := Tryd.zeroValue55
  t72 := Tryd.underlying57
  a72 := Tryd.isAgg57
  z72 := Tryd.sizeOf57
  v72 := Tryd.zeroValue57
  t75 := Tryd.underlying59
  a75 := Tryd.isAgg59
  z75 := Tryd.sizeOf59
  v75 := Tryd.zeroValue59
  t164 := Tryd.underlying97
  a164 := Tryd.isAgg97
  z164 := Tryd.sizeOf97
  v164 := Tryd.zeroValue97 }
theorem Tryd.bld_lays166 : Go.Proofs.Lays.n166 Tryd.prog Tryd.bld_ren := {
  mixed := by kernel_rfl
  f166 := Tryd.func29.trans (congrArg some (by kernel_rfl))
  f240 := Tryd.func50.trans (congrArg some (by kernel_rfl))
  f276 := Tryd.func66.trans (congrArg some (by kernel_rfl))
  t0 := Tryd.underlying0
  a0 := Tryd.isAgg0
  z0 := Tryd.sizeOf0
  v0 := Tryd.zeroValue0
  t3 := Tryd.underlying3
  a3 := Tryd.isAgg3
  z3 := Tryd.sizeOf3
  v3 := Tryd.zeroValue3
  t4 := Tryd.underlying4
  a4 := Tryd.isAgg4
  z4 := Tryd.sizeOf4
  v4 := Tryd.zeroValue4
  t9 := Tryd.underlying9
  a9 := Tryd.isAgg9
  z9 := Tryd.sizeOf9
  v9 := Tryd.zeroValue9
  t20 := Tryd.underlying20
  a20 := Tryd.isAgg20
  z20 := Tryd.sizeOf20
  v20 := Tryd.zeroValue20
  t37 := Tryd.underlying53
  a37 := Tryd.isAgg53
  z37 := Tryd.sizeOf53
  v37 := Tryd.zeroValue53
  t70 := Tryd.underlying55
  a70 := Tryd.isAgg55
  z70 := Tryd.sizeOf55
  v70 := Tryd.zeroValue55
  t72 := Tryd.underlying57
  a72 := Tryd.isAgg57
  z72 := Tryd.sizeOf57
  v72 := Tryd.zeroValue57
  t75 := Tryd.underlying59
  a75 := Tryd.isAgg59
  z75 := Tryd.sizeOf59
  v75 := Tryd.zeroValue59
  t164 := Tryd.underlying97
  a164 := Tryd.isAgg97
  z164 := Tryd.sizeOf97
  v164 := Tryd.zeroValue97 }
theorem Tryd.bld_extra : Builder.Extra Tryd.prog Tryd.bld_ren := {
  sizeBuilder := by kernel_rfl
  liesBuilder := by kernel_rfl
  t5 := Tryd.underlying5
  a5 := Tryd.isAgg5
  z5 := Tryd.sizeOf5
  v5 := Tryd.zeroValue5
  infoByte := by kernel_rfl
  cellsByte := by kernel_rfl
  sizeByte := by kernel_rfl
  neB5 := by decide }
theorem Tryd.writeByte_any (B b : Nat) (bs : List Value) (c : Int) (w : World) (h : Lib.IsBuilder 57 5 B b bs w) (hlen : bs.length + 1 ≤ 140737488355328) (hBw : B ≤ w.heap.size) :
    Calls Tryd.prog 28 #[.pointer (some ⟨b, 0, none⟩), .int .u8 c] w fun e w' => e = .returned .nilIface ∧ (Lib.BuilderAt 57 5 B b (.pointer (some ⟨b, 0, none⟩)) (bs ++ [.int .u8 c]) w' ∧ Below B w w') := Any.Builder_WriteByte Tryd.bld_lays167 Tryd.bld_extra B b bs c w h hlen hBw
theorem Tryd.writeString_any (B b : Nat) (bs : List Value) (s : ByteArray) (w : World) (h : Lib.IsBuilder 57 5 B b bs w) (hlen : bs.length + s.size ≤ 140737488355328) (hBw : B ≤ w.heap.size) :
    Calls Tryd.prog 29 #[.pointer (some ⟨b, 0, none⟩), .string s] w fun e w' => e = .returned (.tuple #[.int .i64 s.size, .nilIface]) ∧ (Lib.BuilderAt 57 5 B b (.pointer (some ⟨b, 0, none⟩)) (bs ++ Lib.strCells s) w' ∧ Below B w w') := Any.Builder_WriteString Tryd.bld_lays166 Tryd.bld_extra B b bs s w h hlen hBw
end Go.Proofs
namespace Go.Proofs.YtfcnbiikjopajaaDoor
open Go.RowKit
theorem up_chL (k : Nat) (h : k < 16) : upC (chL k) = chU k := by
  have : ∀ k : Fin 16, upC (chL k) = chU k := by decide +kernel
  exact this ⟨k, h⟩
theorem hex_same {m : Nat} (h1 : 2147483648 ≤ m) (h2 : m < 4294967296) : upL (repF chL 16 17 m) = hex8 m := by
  have e : repF chL 16 17 m = [chL (m / 268435456 % 16), chL (m / 16777216 % 16), chL (m / 1048576 % 16), chL (m / 65536 % 16), chL (m / 4096 % 16), chL (m / 256 % 16), chL (m / 16 % 16), chL (m % 16)] := by
    rw [repF, if_neg (by omega), repF, if_neg (by omega), repF, if_neg (by omega), repF, if_neg (by omega), repF, if_neg (by omega), repF, if_neg (by omega), repF, if_neg (by omega), repF, if_pos (by omega)]
    rw [show m / 16 / 16 = m / 256 from by omega, show m / 256 / 16 = m / 4096 from by omega, show m / 4096 / 16 = m / 65536 from by omega, show m / 65536 / 16 = m / 1048576 from by omega, show m / 1048576 / 16 = m / 16777216 from by omega, show m / 16777216 / 16 = m / 268435456 from by omega]
    rfl
  rw [e]
  have w := fun (k : Nat) => up_chL (k % 16) (Nat.mod_lt _ (by decide))
  show [upC _, upC _, upC _, upC _, upC _, upC _, upC _, upC _] = _
  rw [w, w, w, w, w, w, w, w]
  rfl
def shownK (t : Tk) : Bs := shownP t.kind t.s t.n t.ty
theorem showT_eq {t : Tk} {u : Bs} (h : showT t = some u) : u = shownK t := by
  obtain ⟨k, s, n, ty⟩ := t
  unfold showT at h
  simp only [] at h
  unfold shownK shownP
  simp only []
  split at h
  · next hk =>
    obtain ⟨rfl, rfl⟩ := hk
    rw [if_neg (by decide)]
    split at h
    · next h0 =>
      subst h0
      rw [if_pos rfl]
      split at h
      · next hn =>
        rw [if_pos hn]
        split at h
        · next hl =>
          injection h with h
          rw [← h, hexI, if_neg (by simp; omega)]
          have e : (n + 4294967296).natAbs = (n + 4294967296).toNat := by omega
          rw [e, hex_same (by omega) (by omega)]
        · cases h
      · next hn =>
        rw [if_neg hn]
        split at h
        · injection h with h
          rw [← h, signedL, if_neg hn]
        · cases h
    · next h0 =>
      rw [if_neg h0]
      split at h
      · next h4 =>
        subst h4
        rw [if_pos rfl]
        split at h
        · next hn =>
          injection h with h
          rw [← h, signedL, if_neg (by omega)]
          simp
        · cases h
      · next h4 =>
        rw [if_neg h4]
        split at h
        · next h1 =>
          rw [if_pos h1]
          split at h
          · injection h with h
            rw [← h]; simp
          · cases h
        · cases h
  · split at h
    · next hk =>
      have : k ≠ 2 := by omega
      rw [if_pos this]
      split at h
      · split at h
        · injection h with h
          exact h.symm
        · cases h
      · cases h
    · cases h
def comeP (t : Tk) : Prop := tokO (shownK t) = some (t, [])
theorem show_kind {t : Tk} {u : Bs} (h : showT t = some u) : t.kind ≠ 4 := by
  intro h4
  unfold showT at h
  rw [if_neg (by rintro ⟨h2, _⟩; rw [h4] at h2; exact absurd h2 (by decide)), if_neg (by rintro ⟨h2, _⟩; rw [h4] at h2; rcases h2 with h2 | h2 <;> exact absurd h2 (by decide))] at h
  cases h
theorem come_show {t : Tk} (h : comeP t) (h4 : t.kind ≠ 4) : showT t = some (shownK t) := by
  unfold comeP tokO at h
  split at h
  · injection h with h
    injection h with h _
    rw [← h] at h4
    exact absurd rfl h4
  · obtain ⟨u, hu⟩ := one_show h
    rw [hu, showT_eq hu]
theorem come_end {t : Tk} (h : comeP t) (h4 : t.kind = 4) : t = endT := by
  unfold comeP tokO at h
  split at h
  · injection h with h
    injection h with h _
    exact h.symm
  · obtain ⟨u, hu⟩ := one_show h
    exact absurd h4 (show_kind hu)
theorem show_come {t : Tk} {u : Bs} (h : showT t = some u) : comeP t := by
  have h1 := show_one h
  have h2 := showT_eq h
  subst h2
  unfold comeP tokO
  split
  · next he => rw [he] at h1; cases h1
  · exact h1
theorem end_come : comeP endT := by unfold comeP; rfl
theorem show_len {t : Tk} {u : Bs} (h : showT t = some u) : u.length ≤ 30 := by
  by_cases hk : t.kind = 2
  · rw [showT_eq h]
    obtain ⟨k, s, n, ty⟩ := t
    simp only [] at hk
    subst hk
    have h1 := hexI_len (decide (n + 4294967296 < 0)) (n + 4294967296).natAbs
    have h2 := signedL_len n
    unfold shownK shownP
    simp only []
    rw [if_neg (by decide)]
    split
    · split
      · rw [List.length_append, up_length]; simp; omega
      · omega
    · split
      · simp; omega
      · split
        · have : (tyName ty).length ≤ 4 := by unfold tyName; split <;> (try split) <;> simp
          simp; omega
        · simp
  · unfold showT at h
    rw [if_neg (fun x => hk x.1)] at h
    split at h
    · next hh =>
      split at h
      · split at h
        · injection h with h
          rw [← h]; omega
        · cases h
      · cases h
    · cases h
theorem showAll_eq : ∀ {ts : List Tk} {ss : List Bs}, showAll ts = some ss → ss = ts.map shownK ∧ ∀ t ∈ ts, showT t = some (shownK t)
  | [], ss, h => by
    have h' : some [] = some ss := h
    injection h' with h
    exact ⟨h.symm, fun t ht => by cases ht⟩
  | t :: r, ss, h => by
    unfold showAll at h
    split at h
    · cases h
    · next s hs =>
      split at h
      · cases h
      · next x hx =>
        injection h with h
        obtain ⟨h1, h2⟩ := showAll_eq hx
        refine ⟨by rw [← h, h1, showT_eq hs]; rfl, fun q hq => ?_⟩
        rcases List.mem_cons.1 hq with rfl | hq
        · rw [hs, showT_eq hs]
        · exact h2 q hq
theorem showAll_of : ∀ {ts : List Tk}, (∀ t ∈ ts, showT t = some (shownK t)) → showAll ts = some (ts.map shownK)
  | [], _ => rfl
  | t :: r, h => by
    unfold showAll
    rw [h t (List.mem_cons_self), showAll_of (ts := r) (fun q hq => h q (List.mem_cons_of_mem _ hq))]
    rfl
/-- a list that Show takes: tokens that come from a text, and the end behind them alone -/
def OkAt (ts : List Tk) (j : Nat) : Prop := ∀ h : j < ts.length, ((ts[j]'h).kind = 4 ↔ j + 1 = ts.length) ∧ comeP (ts[j]'h)
def Shows (ts : List Tk) : Prop := ts ≠ [] ∧ ∀ j, OkAt ts j
theorem shows_split {ts : List Tk} (h : Shows ts) : ts = ts.dropLast ++ [endT] ∧ showAll ts.dropLast = some (ts.dropLast.map shownK) := by
  obtain ⟨h0, h1⟩ := h
  have hl : 0 < ts.length := List.length_pos_iff.2 h0
  have e := List.dropLast_concat_getLast h0
  have he : ts.getLast h0 = endT := by
    rw [List.getLast_eq_getElem]
    have := h1 (ts.length - 1) (by omega)
    exact come_end this.2 (this.1.2 (by omega))
  refine ⟨by rw [he] at e; exact e.symm, showAll_of fun t ht => ?_⟩
  obtain ⟨j, hj, rfl⟩ := List.mem_iff_getElem.1 ht
  rw [List.length_dropLast] at hj
  have := h1 j (by omega)
  rw [List.getElem_dropLast]
  exact come_show this.2 (fun h4 => by have := this.1.1 h4; omega)
theorem shows_of {r : List Tk} {ss : List Bs} (h : showAll r = some ss) : Shows (r ++ [endT]) := by
  obtain ⟨_, h2⟩ := showAll_eq h
  refine ⟨by simp, fun j hj => ?_⟩
  rw [List.length_append] at hj
  simp only [List.length_cons, List.length_nil] at hj
  rcases Nat.lt_or_ge j r.length with h' | h'
  · rw [List.getElem_append_left h']
    have := h2 _ (List.getElem_mem h')
    refine ⟨⟨fun h4 => absurd h4 (show_kind this), fun e => ?_⟩, show_come this⟩
    simp at e; omega
  · have : j = r.length := by omega
    subst this
    rw [List.getElem_append_right (Nat.le_refl _)]
    simp only [Nat.sub_self, List.getElem_cons_zero]
    exact ⟨⟨fun _ => by simp, fun _ => rfl⟩, end_come⟩
theorem joinB_add : ∀ (a : List Bs) (s : Bs), joinB (a ++ [s]) = if a = [] then s else joinB a ++ 32 :: s
  | [], s => rfl
  | [x], s => by
    rw [if_neg (by simp)]
    rfl
  | x :: y :: a, s => by
    rw [if_neg (by simp)]
    show x ++ 32 :: joinB ((y :: a) ++ [s]) = (x ++ 32 :: joinB (y :: a)) ++ 32 :: s
    rw [joinB_add (y :: a) s, if_neg (by simp)]
    simp
theorem joinB_len : ∀ (b a : List Bs), (joinB a).length ≤ (joinB (a ++ b)).length
  | [], a => by simp
  | s :: b, a => by
    have h := joinB_len b (a ++ [s])
    rw [List.append_assoc] at h
    refine Nat.le_trans ?_ h
    rw [joinB_add]
    split
    · next h => rw [h]; exact Nat.zero_le _
    · simp
/-- a list as its tokens -/
def tkV (x : Tv) : Tk := ⟨x.k, x.s.data.toList, x.n, x.t⟩
/-- a list of tokens that a row lets in -/
def OkV (l : List Tv) : Prop := l.length * 48 ≤ 140737488351232 ∧ ∀ x ∈ l, x.s.size ≤ 140737488351232 ∧ -9223372036854775808 ≤ x.n ∧ x.n ≤ 9223372036854775807
theorem text_back (s : ByteArray) : (⟨s.data.toList.toArray⟩ : ByteArray) = s := by cases s; simp
theorem come_v (x : Tv) (hs : x.s.size ≤ 140737488351232) (h0 : -9223372036854775808 ≤ x.n) (h1 : x.n ≤ 9223372036854775807) (w : World) (hg : Glo w) (h3 : Lay3 w) : Calls Tryd.prog 27 #[.agg #[.int .i64 x.k, .string x.s, .int .i64 x.n, .int .i64 x.t, .int .i64 x.at_]] w fun e w' => (∃ b, e = .returned (.bool b) ∧ (b = true ↔ comeP (tkV x))) ∧ Below w.heap.size w w' := by
  have h := come_any x.k x.s.data.toList x.n x.t x.at_ (by rw [text_len]; exact hs) h0 h1 w hg h3
  rw [text_back] at h
  exact h
theorem shown_v (x : Tv) (h0 : -9223372036854775808 ≤ x.n) (h1 : x.n ≤ 9223372036854775807) (w : World) (hg : Glo w) (h3 : Lay3 w) : Calls Tryd.prog 30 #[.agg #[.int .i64 x.k, .string x.s, .int .i64 x.n, .int .i64 x.t, .int .i64 x.at_]] w fun e w' => e = .returned (.string ⟨(shownK (tkV x)).toArray⟩) ∧ Below w.heap.size w w' := by
  have h := shown_any x.k x.s.data.toList x.n x.t x.at_ h0 h1 w hg h3
  rw [text_back] at h
  exact h
/-- what Show answers -/
def ShowOut (ts : List Tk) (v : Value) : Prop :=
  (¬ Shows ts ∧ v = .tuple #[.string ⟨#[]⟩, .int .i64 50]) ∨
  (Shows ts ∧ 65536 < (joinB (ts.dropLast.map shownK)).length ∧ v = .tuple #[.string ⟨#[]⟩, .int .i64 2]) ∨
  (Shows ts ∧ (joinB (ts.dropLast.map shownK)).length ≤ 65536 ∧ v = .tuple #[.string ⟨(joinB (ts.dropLast.map shownK)).toArray⟩, .int .i64 0])
theorem bld_below {T e : TypeId} {B b : Nat} {p : Value} {bs : List Value} {w w' : World} (h : Lib.BuilderAt T e B b p bs w) (hb : Below w.heap.size w w') : Lib.BuilderAt T e B b p bs w' := by
  obtain ⟨h1, v, h2, h3, h4⟩ := h
  refine ⟨h1, v, ?_, ⟨h3.1, ?_⟩, h4⟩
  · rw [hb.block b (Array.getElem?_eq_some_iff.1 h2).1]; exact h2
  · rcases h3.2 with h | ⟨g, cap, cur, r1, r2, r3, r4⟩
    · exact .inl h
    · exact .inr ⟨g, cap, cur, r1, r2, by rw [hb.block g (Array.getElem?_eq_some_iff.1 r3).1]; exact r3, r4⟩
theorem isBld_below {T e : TypeId} {B b : Nat} {bs : List Value} {w w' : World} (h : Lib.IsBuilder T e B b bs w) (hb : Below w.heap.size w w') : Lib.IsBuilder T e B b bs w' :=
  h.elim (fun x => .inl (bld_below x hb)) (fun x => .inr (bld_below x hb))
theorem byteCells_app (a b : Bs) : Lib.byteCells (a ++ b) = Lib.byteCells a ++ Lib.byteCells b := List.map_append
theorem strCells_text (l : Bs) : Lib.strCells ⟨l.toArray⟩ = Lib.byteCells l := by simp [Lib.strCells, Lib.byteCells]
end Go.Proofs.YtfcnbiikjopajaaDoor
namespace Go.Proofs.YtfcnbiikjopajaaDoor
open Go.ChangeShapes Go.WideShapes Go.ChangeAt Go.RowKit
theorem laidOut : laidOutB Tryd.prog = true := by kernel_rfl
theorem cells41 : Tryd.prog.cellsOf 41 = 5 := by kernel_rfl
theorem bytes41 : Tryd.prog.bytesOf 41 = 48 := by kernel_rfl
theorem five {α : Type} {l : List α} (h : l.length = 5) : ∃ a b c d e, l = [a, b, c, d, e] := by
  match l, h with
  | [a, b, c, d, e], _ => exact ⟨a, b, c, d, e, rfl⟩
theorem wf_int {n : Int} (hw : (Lit.int .i64 n).wf = true) : -9223372036854775808 ≤ n ∧ n ≤ 9223372036854775807 := by
  have h : (decide (IntKind.i64.min ≤ n) && decide (n ≤ IntKind.i64.max)) = true := hw
  rw [Bool.and_eq_true] at h
  exact ⟨of_decide_eq_true h.1, of_decide_eq_true h.2⟩
/-- a token's data -/
def tvD {H : Type} (y : Tv) : DataW H := .agg [.lit (.int .i64 y.k), .lit (.string y.s.data.toList), .lit (.int .i64 y.n), .lit (.int .i64 y.t), .lit (.int .i64 y.at_)]
theorem open_tokens {H : Type} {enc : TypeId × Value → H} {W : World} {fuel len cap : Nat} {a : Option Addr} {x : DataW H × List MemPlace} {cs : List Value} (h : DataW.trod enc Tryd.prog W 0 (fun _ => true) true fuel 22 cs = some x) (hcs0 : cs = [.slice a len cap]) :
    ∃ l : List Tv, l.length = len ∧ len ≤ cap ∧ Lst W (.slice a len cap) l ∧ (∀ y ∈ l, -9223372036854775808 ≤ y.n ∧ y.n ≤ 9223372036854775807) ∧ ((x.1 = .nil ∧ len = 0) ∨ ∃ el sp, x.1 = .slice el sp ∧ el = l.map tvD) := by
  subst hcs0
  rcases Deep.open_slice Tryd.underlying22 h with ⟨hcs, rfl⟩ | ⟨a', len', cap', m, n, D, Pl, hcs, hb, hl, hm, hmm, rfl, hx⟩
  · simp at hcs
    obtain ⟨rfl, rfl, rfl⟩ := hcs
    exact ⟨[], rfl, Nat.le_refl _, ⟨none, 0, 0, 0, rfl, fun h => absurd h (Nat.lt_irrefl 0), fun i x hx => (by cases hx)⟩, fun y hy => (by cases hy), .inl ⟨rfl, rfl⟩⟩
  · simp at hcs
    obtain ⟨rfl, rfl, rfl⟩ := hcs
    simp only [if_true] at hmm
    subst hmm
    rw [cells41] at hx
    have each : ∀ i, i < len → ∃ y : Tv, W.cell? (a'.add (i * 5)) = some (.int .i64 y.k) ∧ W.cell? (a'.add (i * 5 + 1)) = some (.string y.s) ∧ W.cell? (a'.add (i * 5 + 2)) = some (.int .i64 y.n) ∧ W.cell? (a'.add (i * 5 + 3)) = some (.int .i64 y.t) ∧ W.cell? (a'.add (i * 5 + 4)) = some (.int .i64 y.at_) ∧ (-9223372036854775808 ≤ y.n ∧ y.n ≤ 9223372036854775807) ∧ D i = tvD y := fun i hi => by
      obtain ⟨cs', h1, h2⟩ := hx i (by omega)
      obtain ⟨_, hlen, hcell⟩ := World.cells?_some h1
      obtain ⟨xs, k, hk, hxy, _, hxl, hf⟩ := DataW.trod_struct Tryd.underlying41 h2
      obtain ⟨v0, v1, v2, v3, v4, rfl⟩ := five hlen
      obtain ⟨y0, y1, y2, y3, y4, rfl⟩ := five hxl
      have g0 := hf 0 _ rfl
      have g1 := hf 1 _ rfl
      have g2 := hf 2 _ rfl
      have g3 := hf 3 _ rfl
      have g4 := hf 4 _ rfl
      have g0' : DataW.trod enc Tryd.prog W 0 (fun _ => true) true k 3 [v0] = some y0 := by simpa [cells3] using g0
      have g1' : DataW.trod enc Tryd.prog W 0 (fun _ => true) true k 9 [v1] = some y1 := by simpa [cells9] using g1
      have g2' : DataW.trod enc Tryd.prog W 0 (fun _ => true) true k 2 [v2] = some y2 := by simpa [cells2] using g2
      have g3' : DataW.trod enc Tryd.prog W 0 (fun _ => true) true k 3 [v3] = some y3 := by simpa [cells3] using g3
      have g4' : DataW.trod enc Tryd.prog W 0 (fun _ => true) true k 3 [v4] = some y4 := by simpa [cells3] using g4
      obtain ⟨z0, e0, E0, _⟩ := DataW.trod_int Tryd.underlying3 g0'
      obtain ⟨s, e1, E1, _⟩ := DataW.trod_string Tryd.underlying9 g1'
      obtain ⟨z2, e2, E2, hw⟩ := DataW.trod_int Tryd.underlying2 g2'
      obtain ⟨z3, e3, E3, _⟩ := DataW.trod_int Tryd.underlying3 g3'
      obtain ⟨z4, e4, E4, _⟩ := DataW.trod_int Tryd.underlying3 g4'
      have d0 := hcell 0 (by omega)
      have d1 := hcell 1 (by omega)
      have d2 := hcell 2 (by omega)
      have d3 := hcell 3 (by omega)
      have d4 := hcell 4 (by omega)
      rw [Deep.add_add] at d0 d1 d2 d3 d4
      injection e0 with e0
      injection e1 with e1
      injection e2 with e2
      injection e3 with e3
      injection e4 with e4
      subst e0 e1 e2 e3 e4
      refine ⟨⟨z0, s, z2, z3, z4⟩, d0, d1, d2, d3, d4, wf_int hw, ?_⟩
      have hd := congrArg Prod.fst hxy
      simp only [List.map_cons, List.map_nil] at hd
      rw [hd, E0, E1, E2, E3, E4]
      rfl
    obtain ⟨f, hf⟩ := @Deep.choose_lt Tv ⟨⟨0, ⟨#[]⟩, 0, 0, 0⟩⟩ _ _ each
    refine ⟨(List.range len).map f, by simp, hl, ?_, ?_, .inr ⟨_, _, rfl, ?_⟩⟩
    · by_cases hl0 : len = 0
      · subst hl0
        exact ⟨some a', 0, 0, m, rfl, fun h => absurd h (Nat.lt_irrefl 0), fun i x hx => by cases hx⟩
      · obtain ⟨b, off, spot⟩ := a'
        have hspot : spot = none := by simpa [Addr.add] using World.cell?_spot (hf 0 (by omega)).1
        subst hspot
        have hbW : b < W.heap.size := World.block_lt_of_cell? W _ (by have := (hf 0 (by omega)).1; rwa [Addr.add_mid] at this)
        refine ⟨some ⟨b, off, none⟩, b, off, m, by simp, fun _ => ⟨hbW, rfl⟩, fun i y hy => ?_⟩
        have hi : i < len := by have := (List.getElem?_eq_some_iff.1 hy).1; simpa using this
        have hfy : f i = y := by simpa [hi] using hy
        obtain ⟨q0, q1, q2, q3, q4, _⟩ := hf i hi
        rw [Addr.add_mid] at q0 q1 q2 q3 q4
        rw [hfy] at q0 q1 q2 q3 q4
        exact ⟨q0, by rw [Nat.add_assoc]; exact q1, by rw [Nat.add_assoc]; exact q2, by rw [Nat.add_assoc]; exact q3, by rw [Nat.add_assoc]; exact q4⟩
    · intro y hy
      obtain ⟨i, hi, rfl⟩ := List.mem_map.1 hy
      exact (hf i (List.mem_range.1 hi)).2.2.2.2.2.1
    · rw [List.map_map]
      exact List.map_congr_left fun i hi => (hf i (List.mem_range.1 hi)).2.2.2.2.2.2
theorem weights_all {H : Type} {P : Program} {e : TypeId} : ∀ {ds : List (DataW H)} {d : DataW H}, d ∈ ds → ∀ n ∈ d.weights P e, n ∈ DataW.weightsAll P e ds
  | c :: ds, d, hd, n, hn => by
    simp only [DataW.weightsAll, List.mem_append]
    rcases List.mem_cons.1 hd with rfl | hd
    · exact .inl hn
    · exact .inr (weights_all hd n hn)
theorem okV_of {H : Type} {ts : List TypeId} {ds : List (DataW H)} {j : Nat} {l : List Tv} {el sp : List (DataW H)} (hsz : (DataW.weightsEach Tryd.prog ts ds).all (· ≤ reachBytes) = true) (ht : ts[j]? = some 22) (hd : ds[j]? = some (.slice el sp)) (he : el = l.map tvD)
    (hn : ∀ y ∈ l, -9223372036854775808 ≤ y.n ∧ y.n ≤ 9223372036854775807) : OkV l := by
  have hr : reachBytes = 140737488351232 := by decide
  refine ⟨?_, fun x hx => ⟨?_, hn x hx⟩⟩
  · have h := sized_slice hsz ht hd Tryd.underlying22
    rw [bytes41, he, List.length_map, hr] at h
    omega
  · have hm : x.s.data.toList.length ∈ (tvD (H := H) x).weights Tryd.prog 41 := by
      simp only [tvD, DataW.weights, Tryd.underlying41]
      refine List.mem_append_right _ (List.mem_append_left _ ?_)
      simp only [DataW.weights]
      exact List.mem_singleton.2 rfl
    have h := List.all_eq_true.1 hsz _ (DataW.weights_mem_each ht hd x.s.data.toList.length (by
      simp only [DataW.weights, Tryd.underlying22, List.mem_cons, List.mem_append]
      exact .inr (.inl (weights_all (by rw [he]; exact List.mem_map_of_mem hx) _ hm))))
    rw [hr] at h
    have := of_decide_eq_true h
    rw [Array.length_toList] at this
    exact this
/-! the longer list of tables -/
abbrev laid8 : List (String × DataW Unit) := [("math/bits.deBruijn32tab", Rows.laid_math_bits_deBruijn32tab), ("math/bits.deBruijn64tab", Rows.laid_math_bits_deBruijn64tab), ("internal/strconv.uint64pow10", Rows.laid_internal_strconv_uint64pow10), ("capstan/num.spans", Rows.laid_capstan_num_spans), ("capstan/lex.signs", Rows.laid_capstan_lex_signs), ("capstan/lex.bases", Rows.laid_capstan_lex_bases), ("capstan/lex.typeNames", Rows.laid_capstan_lex_typeNames), ("capstan/lex.units", Rows.laid_capstan_lex_units)]
theorem tabIs_of_reads {P : Program} {W : World} {name : String} {k : IntKind} {zs : List Int} {g : Nat} {t e : TypeId} {n : Nat}
    (hg : P.globalNamed name = some g) (hty : (P.globals[g]?).map (·.type) = some t) (ht : P.underlying t = some (.array n e)) (he : P.underlying e = some (.int k)) (hce : P.cellsOf e = 1) (hct : P.cellsOf t = n)
    (h : Lib.VarReads P W name (Lib.tabData k zs)) : Lib.TabIs P W name k zs := by
  obtain ⟨g', t', cs, fuel, p, hg', ht', hvar, hd⟩ := h
  obtain rfl := Option.some.inj (hg.symm.trans hg')
  obtain rfl := Option.some.inj (hty.symm.trans ht')
  have := Lib.cells_of_tab ht he hce hct hd
  unfold Lib.TabIs
  rw [hvar, ← this]
theorem tabIs_below {P : Program} {w w' : World} {name : String} {k : IntKind} {zs : List Int} {g B : Nat} (hg : P.globalNamed name = some g) (hB : g < B) (h : Lib.TabIs P w name k zs) (hb : Below B w w') : Lib.TabIs P w' name k zs := by
  unfold Lib.TabIs World.var? at h ⊢
  rw [hg] at h ⊢
  simp only [Option.bind_some] at h ⊢
  rw [hb.block g hB]
  exact h
theorem cells38 : Tryd.prog.cellsOf 38 = 1 := by kernel_rfl
theorem cells5 : Tryd.prog.cellsOf 5 = 1 := by kernel_rfl
def bruijn : List Int := [0, 1, 56, 2, 57, 49, 28, 3, 61, 58, 42, 50, 38, 29, 17, 4, 62, 47, 59, 36, 45, 43, 51, 22, 53, 39, 33, 30, 24, 18, 12, 5, 63, 55, 48, 27, 60, 41, 37, 16, 46, 35, 44, 21, 52, 32, 23, 11, 54, 26, 40, 15, 34, 20, 31, 10, 25, 14, 19, 9, 13, 8, 7, 6]
theorem lay3_of {W : World} (h : laidMet Tryd.prog laid8 W) : Lay3 W := by
  have r1 := Lib.laidMet.reads h (n := "internal/strconv.uint64pow10") (d := Rows.laid_internal_strconv_uint64pow10) (List.mem_cons_of_mem _ (List.mem_cons_of_mem _ List.mem_cons_self))
  have r2 := Lib.laidMet.reads h (n := "math/bits.deBruijn64tab") (d := Rows.laid_math_bits_deBruijn64tab) (List.mem_cons_of_mem _ List.mem_cons_self)
  have g6 : Tryd.prog.globalNamed "internal/strconv.uint64pow10" = some 6 := by kernel_rfl
  have g8 : Tryd.prog.globalNamed "math/bits.deBruijn64tab" = some 8 := by kernel_rfl
  have t1 : Lib.TabIs Tryd.prog W "internal/strconv.uint64pow10" .u64 Lib.pow10Tab := tabIs_of_reads g6 (by kernel_rfl) Tryd.underlying123 Tryd.underlying38 cells38 (by kernel_rfl) r1
  have t2 : Lib.TabIs Tryd.prog W "math/bits.deBruijn64tab" .u8 bruijn := tabIs_of_reads g8 (by kernel_rfl) Tryd.underlying130 Tryd.underlying5 cells5 (by kernel_rfl) r2
  have c : W.cell? ⟨8, 15, none⟩ = some (.int .u8 4) := t2.cell g8 15 (by decide)
  have h8 : 8 < W.heap.size := World.block_lt_of_cell? W _ c
  exact ⟨fun W' hb => tabIs_below g6 (Nat.lt_trans (by decide) h8) t1 hb, c, h8⟩
theorem glo8_of_laid {W : World} (h : laidMetH Tryd.prog laid8 W) (hs : W.ShapedOpen Tryd.prog) : Glo W ∧ Lay3 W :=
  ⟨glo_of_met (l := laid8) h (fun _ hx => List.mem_cons_of_mem _ (List.mem_cons_of_mem _ (List.mem_cons_of_mem _ hx))) hs, lay3_of h⟩
/-- the tables laid into a world's first blocks -/
def layGlo8 (w : World) : World :=
  let lay (k : Nat) (t : List Value) (w : World) : World := { w with heap := w.heap.modify k fun
      | .cells _ ty frozen => .cells t.toArray ty frozen
      | o => o }
  lay 6 (Lib.pow10Tab.map fun z => .int .u64 z) (lay 7 ([0, 1, 28, 2, 29, 14, 24, 3, 30, 22, 20, 15, 25, 17, 4, 8, 31, 27, 13, 23, 21, 19, 16, 7, 26, 12, 18, 6, 11, 5, 10, 9].map fun z => .int .u8 z) (lay 8 (bruijn.map fun z => .int .u8 z) (layGlo w)))
end Go.Proofs.YtfcnbiikjopajaaDoor
namespace Go.Proofs
open Go.RowKit
theorem Tryd.writeByte_k (B b : Nat) (bs : List Value) (c : Int) (w : World) (h : Lib.IsBuilderF 57 5 B b bs w) (hlen : bs.length + 1 ≤ 140737488355328) (hBw : B ≤ w.heap.size) :
    Calls Tryd.prog 28 #[.pointer (some ⟨b, 0, none⟩), .int .u8 c] w fun e w' => e = .returned .nilIface ∧ (Lib.BuilderAtF 57 5 B b (.pointer (some ⟨b, 0, none⟩)) (bs ++ [.int .u8 c]) w' ∧ Below B w w' ∧ Lib.OthersKept 5 (some b) w w') := Any.Builder_WriteByte_k Tryd.bld_lays167 Tryd.bld_extra B b bs c w h hlen hBw
theorem Tryd.writeString_k (B b : Nat) (bs : List Value) (s : ByteArray) (w : World) (h : Lib.IsBuilderF 57 5 B b bs w) (hlen : bs.length + s.size ≤ 140737488355328) (hBw : B ≤ w.heap.size) :
    Calls Tryd.prog 29 #[.pointer (some ⟨b, 0, none⟩), .string s] w fun e w' => e = .returned (.tuple #[.int .i64 s.size, .nilIface]) ∧ (Lib.BuilderAtF 57 5 B b (.pointer (some ⟨b, 0, none⟩)) (bs ++ Lib.strCells s) w' ∧ Below B w w' ∧ Lib.OthersKept 5 (some b) w w') := Any.Builder_WriteString_k Tryd.bld_lays166 Tryd.bld_extra B b bs s w h hlen hBw
end Go.Proofs
namespace Go.Proofs.YtfcnbiikjopajaaDoor
open Go.RowKit
theorem bldF_below {T e : TypeId} {B b : Nat} {p : Value} {bs : List Value} {w w' : World} (h : Lib.BuilderAtF T e B b p bs w) (hb : Below w.heap.size w w') : Lib.BuilderAtF T e B b p bs w' := by
  obtain ⟨h1, v, h2, h3, h4⟩ := h
  refine ⟨h1, v, ?_, ⟨h3.1, ?_⟩, h4⟩
  · rw [hb.block b (Array.getElem?_eq_some_iff.1 h2).1]; exact h2
  · rcases h3.2 with h | ⟨g, cap, cur, fz, r1, r2, r3, r4⟩
    · exact .inl h
    · exact .inr ⟨g, cap, cur, fz, r1, r2, by rw [hb.block g (Array.getElem?_eq_some_iff.1 r3).1]; exact r3, r4⟩
theorem isBldF_below {T e : TypeId} {B b : Nat} {bs : List Value} {w w' : World} (h : Lib.IsBuilderF T e B b bs w) (hb : Below w.heap.size w w') : Lib.IsBuilderF T e B b bs w' :=
  h.elim (fun x => .inl (bldF_below x hb)) (fun x => .inr (bldF_below x hb))
end Go.Proofs.YtfcnbiikjopajaaDoor
