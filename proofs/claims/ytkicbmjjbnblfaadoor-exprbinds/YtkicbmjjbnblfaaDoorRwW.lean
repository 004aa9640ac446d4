/- What the reader's recursion leans on; the contract of within, over that of the rows' closure. -/
import Derived.Test.YtkicbmjjbnblfaaDoorRdA
import Derived.Test.YtkicbmjjbnblfaaDoorBckE
namespace Go.Proofs.YtkicbmjjbnblfaaDoor
open Go.RowKit
def fvOf (P1 P2 : Nat) : Value := .func (.func 32) #[] #[.pointer (some ⟨P1, 0, none⟩), .pointer (some ⟨P2, 0, none⟩)]
/-- the tables, and the closure's two variables -/
structure Env (B R P1 P2 : Nat) (w : World) : Prop where
  glo : Glo w
  c1 : w.cell? ⟨P1, 0, none⟩ = some (.pointer (some ⟨R, 0, none⟩))
  c2 : w.cell? ⟨P2, 0, none⟩ = some (fvOf P1 P2)
  l1 : P1 < B
  l2 : P2 < B
  n1 : P1 ≠ R
  n2 : P2 ≠ R
  r8 : 8 < R
  rB : R < B
theorem TabAt.keep {B R b : Nat} {w w' : World} {t : List Value} (h : TabAt w b t) (hk : Keep B R w w') (hb : b < B) (hr : b ≠ R) : TabAt w' b t := fun k v e => (World.cell?_of_block (w := w) (w' := w') (hk.block b hb hr)).trans (h k v e)
theorem Env.keep {B R P1 P2 : Nat} {w w' : World} (h : Env B R P1 P2 w) (hk : Keep B R w w') : Env B R P1 P2 w' := by
  have r8 := h.r8
  have rB := h.rB
  refine ⟨⟨h.glo.conv.keep hk (by omega) (by omega), h.glo.ops.keep hk (by omega) (by omega), h.glo.kw.keep hk (by omega) (by omega), h.glo.base.keep hk (by omega) (by omega), h.glo.sign.keep hk (by omega) (by omega), h.glo.span.keep hk (by omega) (by omega), h.glo.ty.keep hk (by omega) (by omega), h.glo.most.imp fun _ e => (World.cell?_of_block (w := w) (w' := w') (hk.block 7 (by omega) (by omega))).trans e, h.glo.unit.keep hk (by omega) (by omega)⟩, ?_, ?_, h.l1, h.l2, h.n1, h.n2, h.r8, h.rB⟩
  · exact (World.cell?_of_block (w := w) (w' := w') (hk.block P1 h.l1 h.n1)).trans h.c1
  · exact (World.cell?_of_block (w := w) (w' := w') (hk.block P2 h.l2 h.n2)).trans h.c2
theorem Env.below {B R P1 P2 : Nat} {w w' : World} (h : Env B R P1 P2 w) (hb : Below w.heap.size w w') (hB : B ≤ w.heap.size) : Env B R P1 P2 w' := h.keep (Keep.of_below hb hB)
/-- the tokens from a place on -/
def lst (toks : List Tv) (i : Nat) : List Tk := (toks.drop i).map tkV
theorem lst_len (toks : List Tv) (i : Nat) : (lst toks i).length = toks.length - i := by rw [lst, List.length_map, List.length_drop]
theorem lst_cons {toks : List Tv} {i : Nat} (h : i < toks.length) : lst toks i = tkV (tokAt toks i) :: lst toks (i + 1) := by
  unfold lst tokAt
  rw [List.drop_eq_getElem_cons h, List.map_cons, List.getD_eq_getElem?_getD, List.getElem?_eq_getElem h]; rfl
theorem lst_nil {toks : List Tv} {i : Nat} (h : toks.length ≤ i) : lst toks i = [] := by
  unfold lst
  rw [List.drop_of_length_le h]; rfl
theorem tok_none {toks : List Tv} {i : Nat} (h : toks.length ≤ i) : tokAt toks i = noTv := by
  unfold tokAt
  rw [List.getD_eq_getElem?_getD, List.getElem?_eq_none h]; rfl
theorem sign_is (s : Bs) (x : Tv) : isSign s (tkV x) = decide (x.k = 3 ∧ x.s = ⟨s.toArray⟩) := by
  show (decide (x.k = 3) && (x.s.data.toList == s)) = _
  rw [Bool.eq_iff_iff]
  simp only [Bool.and_eq_true, decide_eq_true_eq, beq_iff_eq]
  constructor
  · rintro ⟨a, b⟩; exact ⟨a, by rw [← b, text_back]⟩
  · rintro ⟨a, b⟩; exact ⟨a, by rw [b]⟩
theorem lst_drop (toks : List Tv) (i j : Nat) : (lst toks i).drop j = lst toks (i + j) := by
  unfold lst
  rw [← List.map_drop, List.drop_drop]
/-- what is left is what stands from its place on -/
theorem rest_lst {f : Nat} {m : Md} {d i : Nat} {toks : List Tv} {x : List Pt} {r : List Tk} (h : rd f m d (lst toks i) = some (.ok (x, r))) (hi : i ≤ toks.length) : r = lst toks (toks.length - r.length) ∧ r.length ≤ toks.length - i := by
  obtain ⟨p, hp, _⟩ := (rd_reads h).swap
  have hl := congrArg List.length hp
  rw [lst_len, List.length_append] at hl
  have e : r = (lst toks i).drop p.length := by rw [hp, List.drop_left]
  refine ⟨?_, by omega⟩
  have e2 : toks.length - r.length = i + p.length := by omega
  rw [e2, ← lst_drop]
  exact e
/-- what the reader has answered, and left -/
def PostR (B R : Nat) (tv : Value) (toks : List Tv) (op : Nat) (ps : List Pv) (fa fc : Int) (res : Res) (w : World) (e : Ending) (w' : World) : Prop :=
  Keep B R w w' ∧ match res with
  | .ok (x, r) => e = .returned (.bool true) ∧ ∃ xs : List Pv, xs.map ptV = x ∧ RS B R tv toks (toks.length - r.length) op (ps ++ xs) fa fc w'
  | .error (k, c) => e = .returned (.bool false) ∧ ∃ at2 op2 ps2, RS B R tv toks at2 op2 ps2 ((toks.length - k : Nat) : Int) c w'
/-- the closure does what the plain reader does, as long as that has turns -/
def RowOk (B R P1 P2 : Nat) (tv : Value) (toks : List Tv) (f : Nat) : Prop := ∀ (n at_ op : Nat) (ps : List Pv) (fa fc : Int) (w : World) (res : Res), n ≤ 7 → op ≤ 200 → ps.length ≤ at_ → RS B R tv toks at_ op ps fa fc w → Env B R P1 P2 w → rd f (.row n) op (lst toks at_) = some res →
  Calls Tryd.prog 32 #[.int .i64 (n : Int), .pointer (some ⟨P1, 0, none⟩), .pointer (some ⟨P2, 0, none⟩)] w (PostR B R tv toks op ps fa fc res w)
end Go.Proofs.YtkicbmjjbnblfaaDoor
