/- The contract of expr.show, whole. -/
import Derived.Test.YtkicbmjjbnblfaaDoorShB
import Derived.Test.YtkicbmjjbnblfaaDoorNmW
namespace Go.Proofs.YtkicbmjjbnblfaaDoor
open Go.RowKit Go.Lib
def opTv (n : Int) : Tv := ⟨(opTok n).kind, ⟨(opTok n).s.toArray⟩, 0, 0, 0⟩
/-- the tokens of a part that works on these values -/
def showL (x : Pv) (vs : List (List Tv × Bool)) : List Tv :=
  if x.k = 1 then [numTok x.n x.t] else if x.k = 2 then [wdT x.s] else if x.k = 4 then [wdT x.s, sgT ⟨#[46]⟩, wdT x.f]
  else match vs with
  | [v] => if x.k = 3 then [wdT x.s, sgT ⟨#[91]⟩] ++ (v.1 ++ [sgT ⟨#[93]⟩]) else if x.k = 6 then [wdT ⟨(toW x.t).toArray⟩, sgT ⟨#[40]⟩] ++ (v.1 ++ [sgT ⟨#[41]⟩]) else [opTv x.n] ++ innerL v.2 v.1
  | [v, v'] => innerL v.2 v.1 ++ ([opTv x.n] ++ innerL v'.2 v'.1)
  | _ => []
/-- a slice of pieces that reads as the values vs -/
def VsAt (w : World) (V : Value) (vs : List (List Tv × Bool)) : Prop :=
  ∃ vb vo vc, V = .slice (some ⟨vb, vo, none⟩) vs.length vc ∧ vs.length ≤ vc ∧ vb < w.heap.size ∧ ∀ i v, vs[i]? = some v → ∃ u, w.cell? ⟨vb, vo + i * 2, none⟩ = some u ∧ w.cell? ⟨vb, vo + i * 2 + 1, none⟩ = some (.bool v.2) ∧ Lst w u v.1
theorem may_f {p : Pt} (h : mayP p = true) : p.f.length ≤ 24 := by
  have key : p.f = [] ∨ wordB p.f = true := by
    unfold mayP at h
    split at h
    · simp at h; exact .inl h.2.1
    · split at h
      · simp at h; exact .inl h.1
      · split at h
        · simp at h; exact .inr h.2.2.2
        · split at h
          · simp at h; exact .inl h.2.1
          · split at h
            · simp at h; exact .inl h.2.1
            · cases h
  rcases key with h | h
  · rw [h]; decide
  · unfold wordB at h
    split at h
    · cases h
    · next e => simp at h; rw [e]; simp; omega
theorem op_res {n : Int} (h : 1 ≤ n ∧ n ≤ 16) : ∃ r0 r3, opRes n = .tuple #[.agg #[.int .i64 r0, .int .i64 (opTok n).kind, .string ⟨(opTok n).s.toArray⟩, .int .i64 r3], .bool true] := by
  have : n = 1 ∨ n = 2 ∨ n = 3 ∨ n = 4 ∨ n = 5 ∨ n = 6 ∨ n = 7 ∨ n = 8 ∨ n = 9 ∨ n = 10 ∨ n = 11 ∨ n = 12 ∨ n = 13 ∨ n = 14 ∨ n = 15 ∨ n = 16 := by omega
  rcases this with rfl | rfl | rfl | rfl | rfl | rfl | rfl | rfl | rfl | rfl | rfl | rfl | rfl | rfl | rfl | rfl <;> exact ⟨_, _, rfl⟩
theorem cv_res {t : Int} (h : t = 2 ∨ t = 3 ∨ t = 4) : ∃ r, cvRes t = .tuple #[.agg #[.string ⟨(toW t).toArray⟩, .int .i64 r], .bool true] := by
  rcases h with rfl | rfl | rfl <;> exact ⟨_, rfl⟩
theorem toW_len (t : Int) : (toW t).length ≤ 7 := by
  unfold toW
  split
  · decide
  · split <;> decide
theorem takes_012 (p : Pt) : takes p = 0 ∨ takes p = 1 ∨ takes p = 2 := by
  unfold takes
  by_cases h : p.kind = 3 ∨ p.kind = 6
  · rw [if_pos h]; exact .inr (.inl rfl)
  · rw [if_neg h]
    by_cases h' : p.kind = 5 ∧ (p.n = 15 ∨ p.n = 16)
    · rw [if_pos h']; exact .inr (.inl rfl)
    · rw [if_neg h']
      by_cases h5 : p.kind = 5
      · rw [if_pos h5]; exact .inr (.inr rfl)
      · rw [if_neg h5]; exact .inl rfl
theorem show_any (x : Pv) (hm : mayP (ptV x) = true) (vs : List (List Tv × Bool)) (hv : vs.length = takes (ptV x)) (V : Value) (w : World) (hV : 0 < vs.length → VsAt w V vs) (hl : ∀ v ∈ vs, v.1.length ≤ 10000000) (hg : Glo w) :
    Calls Tryd.prog 26 #[.agg #[.int .i64 x.k, .int .i64 x.n, .int .i64 x.t, .string x.s, .string x.f], V] w (RowPost w (showL x vs)) := by
  have hs : x.s.size ≤ 140737488355000 := by have h := may_s hm; rw [show (ptV x).s = x.s.data.toList from rfl, text_len] at h; omega
  have hf : x.f.size ≤ 140737488355000 := by have h := may_f hm; rw [show (ptV x).f = x.f.data.toList from rfl, text_len] at h; omega
  have h1 := hg.lt
  obtain ⟨k, n, t, s, f⟩ := x
  simp only [] at hs hf ⊢
  have ht := takes_012 (ptV ⟨k, n, t, s, f⟩)
  rcases ht with ht | ht | ht
  · have hk : k = 1 ∨ k = 2 ∨ k = 4 := by
      rcases may_leaf ht hm with ⟨a, b, e, _⟩ | ⟨a, e, _⟩ | ⟨a, b, e, _⟩
      · exact .inl (congrArg Pt.kind e)
      · exact .inr (.inl (congrArg Pt.kind e))
      · exact .inr (.inr (congrArg Pt.kind e))
    rcases hk with rfl | rfl | rfl
    · exact show_num n t s f V w
    · exact show_var n t s f hs V w
    · exact show_fld n t s f hs hf V w
  · obtain ⟨v, rfl⟩ : ∃ v, vs = [v] := by
      match vs, hv.trans ht with
      | [v], _ => exact ⟨v, rfl⟩
    obtain ⟨vb, vo, vc, hv1, hv2, hv3, hv4⟩ := hV (by simp)
    obtain ⟨u, q0, q1, q2⟩ := hv4 0 v rfl
    have hO : OneV w V u v.1 v.2 vb vo vc := ⟨hv1, by simpa using hv2, hv3, by simpa using q0, by simpa using q1, q2⟩
    have hl1 := hl v (by simp)
    rcases takes1 ht with h | h | ⟨h, h'⟩
    · obtain rfl : k = 3 := h
      exact show_idx n t s f hs V u v.1 v.2 vb vo vc w hO (by omega)
    · obtain rfl : k = 6 := h
      obtain ⟨r, hr⟩ := cv_res (may6 rfl hm).2
      exact show_to n t s f ⟨(toW t).toArray⟩ r hr (by have := toW_len t; show (toW t).toArray.size ≤ _; simp; omega) V u v.1 v.2 vb vo vc w hg.conv (by omega) hO (by omega)
    · obtain rfl : k = 5 := h
      obtain ⟨r0, r3, hr⟩ := op_res (may5 rfl hm).2
      exact show_op1 n t s f r0 _ r3 _ hr V u v.1 v.2 vb vo vc w hg.ops (by omega) hO hl1
  · obtain ⟨v, v', rfl⟩ : ∃ v v', vs = [v, v'] := by
      match vs, hv.trans ht with
      | [v, v'], _ => exact ⟨v, v', rfl⟩
    obtain ⟨vb, vo, vc, hv1, hv2, hv3, hv4⟩ := hV (by simp)
    obtain ⟨u, q0, q1, q2⟩ := hv4 0 v rfl
    obtain ⟨u', p0, p1, p2⟩ := hv4 1 v' rfl
    have hO : TwoV w V u u' v.1 v'.1 v.2 v'.2 vb vo vc := ⟨hv1, by simpa using hv2, hv3, by simpa using q0, by simpa using q1, by simpa using p0, by simpa using p1, q2, p2⟩
    obtain ⟨h, _⟩ := takes2 ht
    obtain rfl : k = 5 := h
    obtain ⟨r0, r3, hr⟩ := op_res (may5 rfl hm).2
    exact show_op2 n t s f r0 _ r3 _ hr V u u' v.1 v'.1 v.2 v'.2 vb vo vc w hg.ops (by omega) hO (hl v (by simp)) (hl v' (by simp))
end Go.Proofs.YtkicbmjjbnblfaaDoor
