/- KsW | KoW -/
import Derived.Test.YtldjiieckddhkaaGreatDoorMg16
import Derived.Test.YtldjiieckddhkaaGreatDoorTpB
import Derived.Test.YtldjiieckddhkaaGreatDoorCkW
import Derived.Deep.AppendLies
import Derived.Deep.RegionLaw
namespace Go.Proofs.YtldjiieckddhkaaGreatDoor
open Go.RowKit Go.Sort
theorem own_takeN {w : World} {base e size : Nat} {a : Option Addr} {n cap : Nat} {xs : List Value} (h : w.ownsRow base e size (.slice a n cap) n xs) (k : Nat) (hk : k ≤ n) : w.ownsRow base e size (.slice a k cap) k (xs.take (k * size)) := by
  have hle : k * size ≤ n * size := Nat.mul_le_mul_right size hk
  refine ⟨by rw [List.length_take, h.1]; omega, ?_⟩
  rcases h.2 with ⟨h1, h2⟩ | ⟨g, cap', cur, h1, r2, r3, r4, r5, r6, r7⟩
  · injection h1 with e1 e2 e3
    subst e1 e3
    have : k = 0 := by omega
    exact .inl ⟨by rw [this], this⟩
  · injection h1 with e1 e2 e3
    subst e1 e3
    refine .inr ⟨g, cap, cur, rfl, r2, r3, by omega, r5, r6, ?_⟩
    have := congrArg (List.take (k * size)) r7
    rw [List.take_take, show min (k * size) (n * size) = k * size from by omega] at this
    exact this
def kdC (st : List Kd) : List Value := st.flatMap fun k => [.int .i64 k.typ, .int .i64 k.lo, .int .i64 k.hi]
theorem kdC_cons (k : Kd) (l : List Kd) : kdC (k :: l) = [.int .i64 k.typ, .int .i64 k.lo, .int .i64 k.hi] ++ kdC l := rfl
theorem kdC_length : ∀ st : List Kd, (kdC st).length = st.length * 3
  | [] => rfl
  | k :: l => by rw [kdC_cons, List.length_append, kdC_length l]; show 3 + l.length * 3 = (l.length + 1) * 3; omega
theorem kdC_append (a b : List Kd) : kdC (a ++ b) = kdC a ++ kdC b := List.flatMap_append
theorem kdC_take : ∀ (st : List Kd) (k : Nat), (kdC st).take (k * 3) = kdC (st.take k)
  | [], k => by simp [kdC]
  | x :: l, 0 => by simp [kdC]
  | x :: l, k + 1 => by
    rw [kdC_cons, List.take_append, show ([.int .i64 x.typ, .int .i64 x.lo, .int .i64 x.hi] : List Value).length = 3 from rfl, show (k + 1) * 3 - 3 = k * 3 from by omega, kdC_take l k, List.take_of_length_le (by show 3 ≤ _; omega)]; rfl
theorem kdC_get : ∀ (st : List Kd) (i : Nat) (x), st[i]? = some x → (kdC st)[i * 3]? = some (.int .i64 x.typ) ∧ (kdC st)[i * 3 + 1]? = some (.int .i64 x.lo) ∧ (kdC st)[i * 3 + 2]? = some (.int .i64 x.hi)
  | [], i, x, h => by cases h
  | y :: l, 0, x, h => by
    obtain rfl := Option.some.inj (show some y = some x from h)
    exact ⟨rfl, rfl, rfl⟩
  | y :: l, i + 1, x, h => by
    have := kdC_get l i x h
    rw [show (i + 1) * 3 = i * 3 + 3 from by omega]
    exact this
theorem in52 : (Tryz.prog.info? 52).map (fun i => (i.zero, i.size, i.bytes)) = some (some (.agg #[.int .i64 0, .int .i64 0, .int .i64 0]), 3, 24) := by kernel_rfl
set_option maxRecDepth 100000 in
theorem kd_from {w : World} {base : Nat} {v : Value} {st : List Kd} (h : w.ownsRow base 52 3 v st.length (kdC st)) (F : Nat) (hF : F ≤ st.length) :
    ∃ ov, (∀ W, (Instr.slice 122 v (some (.int .i64 (F : Int))) none none).run Tryz.prog W = .ok ov W) ∧ KLst w ov (st.drop F) := by
  rcases h.2 with ⟨rfl, h0⟩ | ⟨g, cap, cur, rfl, hb, hg, hn, hm, hc, ht⟩
  · have hl : st = [] := List.eq_nil_of_length_eq_zero h0
    subst hl
    obtain rfl : F = 0 := by simpa using hF
    exact ⟨.slice none 0 0, fun W => by simp [go_sem], none, 0, 0, 0, rfl, fun h => absurd h (Nat.lt_irrefl 0), fun i x hx => by cases hx⟩
  · have i1 : (F : Int) ≤ (st.length : Int) := by omega
    have i2 : (st.length : Int) ≤ (cap : Int) := by omega
    have i0 : (0 : Int) ≤ (F : Int) := by omega
    by_cases e : cap = F
    · refine ⟨.slice (some ⟨g, 0, none⟩) (st.length - F) (cap - F), fun W => by simp [go_sem, *], ?_⟩
      have : st.drop F = [] := List.drop_eq_nil_of_le (by omega)
      rw [this]
      exact ⟨_, g, 0, _, by rw [show st.length - F = 0 from by omega]; rfl, fun h => absurd h (Nat.lt_irrefl 0), fun i x hx => by cases hx⟩
    · refine ⟨.slice (some ⟨g, F * 3, none⟩) (st.length - F) (cap - F), fun W => by simp [go_sem, *], _, g, F * 3, _, by rw [List.length_drop], fun _ => ⟨(Array.getElem?_eq_some_iff.1 hg).1, rfl⟩, fun i x hx => ?_⟩
      rw [List.getElem?_drop] at hx
      have hlt : F + i < st.length := (List.getElem?_eq_some_iff.1 hx).1
      obtain ⟨k0, k1, k2⟩ := kdC_get st (F + i) x hx
      have key : ∀ j u, (kdC st)[j]? = some u → w.cell? ⟨g, j, none⟩ = some u := fun j u hu => by
        rw [h.cellAt j (by have := (List.getElem?_eq_some_iff.1 hu).1; rw [kdC_length] at this; omega)]; exact hu
      rw [show F * 3 + i * 3 = (F + i) * 3 from by omega]
      exact ⟨key _ _ k0, key _ _ k1, key _ _ k2⟩
set_option maxRecDepth 100000 in
theorem kd_to {w : World} {base : Nat} {v : Value} {st : List Kd} (h : w.ownsRow base 52 3 v st.length (kdC st)) (F : Nat) (hF : F ≤ st.length) :
    ∃ a cap, (∀ W, (Instr.slice 122 v none (some (.int .i64 (F : Int))) none).run Tryz.prog W = .ok (.slice a F cap) W) ∧ w.ownsRow base 52 3 (.slice a F cap) F (kdC (st.take F)) ∧ (Value.slice a F cap).ownBlock = v.ownBlock := by
  obtain ⟨a, cap, rfl, hc⟩ := own_form3 h
  refine ⟨a, cap, fun W => ?_, by rw [← kdC_take]; exact own_takeN h F hF, ?_⟩
  · have i1 : (F : Int) ≤ (cap : Int) := by omega
    have i0 : (0 : Int) ≤ (F : Int) := by omega
    have i3 : ¬ cap < F := by omega
    rcases h.2 with ⟨h1, h0⟩ | ⟨g, cap', cur, h1, -⟩
    · injection h1 with e1 e2 e3
      subst e1 e3
      obtain rfl : F = 0 := by omega
      simp [go_sem]
    · injection h1 with e1 e2 e3
      subst e1 e3
      simp [go_sem, *]
  · cases a <;> rfl
end Go.Proofs.YtldjiieckddhkaaGreatDoor
namespace Go.Proofs.YtldjiieckddhkaaGreatDoor
open Go.RowKit Go.Sort
theorem partKind_any (v kv : Value) (l : List Vv) (ks : List Kd) (y : Pv) (w : World) (hL : VLst w v l) (hlen : l.length ≤ 4398046510976) (hv : vOk (l.map vrV)) (hg : Glo w) (hK : KLst w kv ks) (hm : mayP (ptV y) = true) (hn : ks.length = takes (ptV y)) :
    Calls Tryz.prog 103 #[v, .agg #[.int .i64 y.k, .int .i64 y.n, .int .i64 y.t, .string y.s, .string y.f], kv] w (PkOut (l.map vrV) y ks w) := by
  have hk := may_kind hm
  have hvs : ∃ a n cp, v = .slice a n cp := by obtain ⟨a, b, off, cap, h, -⟩ := hL; exact ⟨a, _, cap, h⟩
  have hc : y.k = 1 ∨ y.k = 2 ∨ y.k = 3 ∨ y.k = 4 ∨ y.k = 5 ∨ y.k = 6 := by
    have : 1 ≤ y.k ∧ y.k ≤ 6 := hk
    omega
  rcases hc with h | h | h | h | h | h
  · exact pk_num v kv _ ks y w h hvs hK.shape
  · exact pk_var v kv l ks y w hL hlen h hK.shape
  · have ht : takes (ptV y) = 1 := by unfold takes; rw [if_pos (.inl h)]
    rw [ht] at hn
    obtain ⟨k0, rfl⟩ : ∃ k0, ks = [k0] := by match ks, hn with | [k0], _ => exact ⟨k0, rfl⟩
    exact pk_idx v kv l k0 y w hL hlen hg h hK
  · exact pk_field v kv l ks y w hL hlen hv h hK.shape
  · obtain ⟨a', kb, ko, cp', rfl, hA, hI⟩ := hK
    have h12 : ks.length = 1 ∨ ks.length = 2 := by
      rw [hn]
      unfold takes
      rw [if_neg (show ¬ ((ptV y).kind = 3 ∨ (ptV y).kind = 6) from fun e => by rcases e with e | e <;> (rw [show (ptV y).kind = 5 from h] at e; exact absurd e (by decide)))]
      split
      · exact .inl rfl
      · rw [if_pos (show (ptV y).kind = 5 from h)]; exact .inr rfl
    obtain ⟨hkb, rfl⟩ := hA (by omega)
    rcases h12 with h1 | h2
    · obtain ⟨⟨t0, l0, h0⟩, rfl⟩ : ∃ k0, ks = [k0] := by match ks, h1 with | [k0], _ => exact ⟨k0, rfl⟩
      exact pk_op1 v _ t0 l0 h0 kb ko cp' y w hvs hg h hkb hI
    · obtain ⟨⟨t0, l0, h0⟩, ⟨t1, l1, h1⟩, rfl⟩ : ∃ k0 k1, ks = [k0, k1] := by match ks, h2 with | [k0, k1], _ => exact ⟨k0, k1, rfl⟩
      exact pk_op2 v _ t0 l0 h0 t1 l1 h1 kb ko cp' y w hvs hg h hkb hI
  · have ht : takes (ptV y) = 1 := by unfold takes; rw [if_pos (.inr h)]
    rw [ht] at hn
    obtain ⟨⟨t0, l0, h0⟩, rfl⟩ : ∃ k0, ks = [k0] := by match ks, hn with | [k0], _ => exact ⟨k0, rfl⟩
    obtain ⟨a', kb, ko, cp', rfl, hA, hI⟩ := hK
    obtain ⟨hkb, rfl⟩ := hA (by simp)
    exact pk_to v _ t0 l0 h0 kb ko cp' y w hvs hg h hkb hI
theorem mrun_take {V : Type} {f : Pt → List V → Except Int V} {x : List Pt} {k : Nat} {p : Pt} {st : List V} (h : mRun f (x.take k) [] = .ok st) (hp : x[k]? = some p) : mRun f (x.take (k + 1)) [] = mStep f p st := by
  rw [List.take_add_one, hp, run_app, h]
  show (match mStep f p st with | .error e => Except.error e | .ok st' => .ok st') = _
  cases mStep f p st <;> rfl
theorem mrun_err {V : Type} {f : Pt → List V → Except Int V} {x : List Pt} {k : Nat} {er : Int} (h : mRun f (x.take k) [] = .error er) : mRun f x [] = .error er := by
  have := run_app f (x.take k) (x.drop k) []
  rw [List.take_append_drop, h] at this
  exact this
end Go.Proofs.YtldjiieckddhkaaGreatDoor
