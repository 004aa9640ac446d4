/- Stage 10, plain: what is folded has the same type; two expressions put together fold to what the operation makes of theirs. | Slices of variables that read as a list. | decl: words of types and of sections; which variables may be. -/
import Derived.Test.YtldjiieckddhkaaGreatDoorFpE
import Derived.Test.YtldjiieckddhkaaGreatDoorMg13
namespace Go.Proofs.YtldjiieckddhkaaGreatDoor
theorem fit_same (t n : Int) : Four.fitB t n = fit6 t n := by
  unfold Four.fitB fit6 Four.tyB Four.szN
  by_cases h1 : t = 1
  · rw [if_pos h1, if_pos h1]
  rw [if_neg h1, if_neg h1]
  by_cases h2 : t = 2
  · subst h2
    rw [if_pos rfl, if_pos rfl]
    rw [Bool.eq_iff_iff]; simp; omega
  rw [if_neg h2, if_neg h2]
  by_cases h34 : t = 3 ∨ t = 4
  · rw [if_pos h34]
    have a : decide (1 ≤ t) = true := decide_eq_true (by omega)
    have b : decide (t ≤ 4) = true := decide_eq_true (by omega)
    rw [a, b, Bool.eq_iff_iff]; simp; omega
  · rw [if_neg h34]
    have : (decide (1 ≤ t) && decide (t ≤ 4)) = false := by
      cases h : (decide (1 ≤ t) && decide (t ≤ 4)) with
      | false => rfl
      | true =>
        rw [Bool.and_eq_true] at h
        have := of_decide_eq_true h.1; have := of_decide_eq_true h.2; omega
    rw [this]; rfl
def numOf : Ex → Option Pt
  | .leaf p => if p.kind = 1 then some p else none
  | _ => none
def foldE : Ex → Ex
  | .leaf p => .leaf p
  | .one p a => match numOf (foldE a) with
    | none => .one p (foldE a)
    | some n => match reckP p [n] with
      | some q => .leaf q
      | none => .one p (foldE a)
  | .two p a b => match numOf (foldE a), numOf (foldE b) with
    | some n, some m => (match reckP p [n, m] with
      | some q => .leaf q
      | none => .two p (foldE a) (foldE b))
    | _, _ => .two p (foldE a) (foldE b)
theorem num_of {e : Ex} {n : Pt} (h : numOf e = some n) : e = .leaf n ∧ n.kind = 1 := by
  cases e with
  | leaf p =>
    by_cases hk : p.kind = 1
    · rw [numOf, if_pos hk] at h; rw [← Option.some.inj h]; exact ⟨rfl, hk⟩
    · rw [numOf, if_neg hk] at h; exact absurd h (by simp)
  | one p a => exact absurd h (by simp [numOf])
  | two p a b => exact absurd h (by simp [numOf])
theorem flat_pos : ∀ e : Ex, 1 ≤ (flat e).length
  | .leaf _ => by simp [flat]
  | .one _ _ => by simp [flat]
  | .two _ _ _ => by simp [flat]; omega
/-- a tree of one part is a leaf -/
theorem flat_one {e : Ex} (h : (flat e).length = 1) : ∃ p, e = .leaf p := by
  cases e with
  | leaf p => exact ⟨p, rfl⟩
  | one p a => have := flat_pos a; simp [flat] at h; rw [h] at this; simp at this
  | two p a b => have := flat_pos a; simp [flat] at h; omega
theorem num_none {e : Ex} {p : Pt} (h : numOf e = none) (h1 : (flat e).length = 1) (r : List Pt) : reckP p (flat e ++ r) = none := by
  obtain ⟨q, rfl⟩ := flat_one h1
  have hq : q.kind ≠ 1 := fun e => by rw [numOf, if_pos e] at h; exact absurd h (by simp)
  unfold reckP
  rw [if_pos]
  show List.any (q :: r) _ = true
  rw [List.any_cons, decide_eq_true hq]; rfl
theorem num_none' {e : Ex} {p n : Pt} (h : numOf e = none) (h1 : (flat e).length = 1) : reckP p (n :: flat e) = none := by
  obtain ⟨q, rfl⟩ := flat_one h1
  have hq : q.kind ≠ 1 := fun e => by rw [numOf, if_pos e] at h; exact absurd h (by simp)
  unfold reckP
  rw [if_pos]
  show List.any [n, q] _ = true
  rw [List.any_cons, List.any_cons, decide_eq_true hq, Bool.true_or, Bool.or_true]
theorem reck_leaf (p : Pt) : reckP p [] = none := by
  unfold reckP
  rw [if_neg (by simp)]
  split
  · rfl
  split
  · rfl
  · rfl
theorem foldE_flat : ∀ {e : Ex}, well e → foldT e = flat (foldE e)
  | .leaf p, _ => by
    rw [foldT_leaf]
    unfold segF
    rw [if_pos (show (([] : List (List Pt)).all fun s => decide (s.length = 1)) = true from rfl), show ([] : List (List Pt)).flatten = [] from rfl, reck_leaf]; rfl
  | .one p a, h => by
    rw [foldT_one, foldE_flat h.2.2]
    unfold segF
    show (if (decide ((flat (foldE a)).length = 1) && true) = true then _ else _) = _
    rw [show ([flat (foldE a)] : List (List Pt)).flatten = flat (foldE a) from by simp]
    rw [foldE]
    cases hn : numOf (foldE a) with
    | none =>
      show _ = flat (foldE a) ++ [p]
      split
      · rename_i h1
        rw [Bool.and_true] at h1
        have := num_none (p := p) hn (of_decide_eq_true h1) []
        rw [List.append_nil] at this
        rw [this]
      · rfl
    | some n =>
      obtain ⟨e1, hk⟩ := num_of hn
      rw [e1]
      show (match reckP p [n] with | some q => [q] | none => [n] ++ [p]) = flat (match reckP p [n] with | some q => .leaf q | none => .one p (.leaf n))
      cases reckP p [n] <;> rfl
  | .two p a b, h => by
    rw [foldT_two, foldE_flat h.2.2.1, foldE_flat h.2.2.2]
    unfold segF
    show (if (decide ((flat (foldE a)).length = 1) && (decide ((flat (foldE b)).length = 1) && true)) = true then _ else _) = _
    rw [show ([flat (foldE a), flat (foldE b)] : List (List Pt)).flatten = flat (foldE a) ++ flat (foldE b) from by simp, List.append_assoc, foldE]
    cases hn : numOf (foldE a) with
    | none =>
      show _ = flat (foldE a) ++ (flat (foldE b) ++ [p])
      split
      · rename_i h1
        rw [Bool.and_eq_true] at h1
        rw [num_none hn (of_decide_eq_true h1.1)]
      · rfl
    | some n =>
      obtain ⟨e1, hk⟩ := num_of hn
      rw [e1]
      cases hm : numOf (foldE b) with
      | none =>
        show _ = flat (.leaf n) ++ (flat (foldE b) ++ [p])
        split
        · rename_i h1
          rw [Bool.and_eq_true, Bool.and_true] at h1
          rw [show flat (.leaf n) ++ flat (foldE b) = n :: flat (foldE b) from rfl, num_none' hm (of_decide_eq_true h1.2)]
        · rfl
      | some m =>
        obtain ⟨e2, hk'⟩ := num_of hm
        rw [e2]
        show (match reckP p [n, m] with | some q => [q] | none => [n] ++ ([m] ++ [p])) = flat (match reckP p [n, m] with | some q => .leaf q | none => .two p (.leaf n) (.leaf m))
        cases reckP p [n, m] <;> rfl
theorem foldP_flat {e : Ex} (h : well e) : foldP (flat e) = flat (foldE e) := (foldP_tree h).trans (foldE_flat h)
/-- a number of a type that it fits -/
theorem num_leaf (vs : List Vr) {n t : Int} (h : fit6 t n = true) : evT (partK vs) (.leaf (numP n t)) = .ok (kT t) ∧ well (.leaf (numP n t)) ∧ InT (fun p => p.t ≠ 0) (.leaf (numP n t)) := by
  have t0 : t ≠ 0 := by have := fit_t h; omega
  refine ⟨?_, ⟨rfl, ?_⟩, fun _ => t0⟩
  · show partK vs (numP n t) [] = _
    rw [partK_num rfl]
    show Except.ok (if t = 0 then (⟨0, n, n⟩ : Kd) else kT t) = _
    rw [if_neg t0]
  · unfold mayP
    rw [if_pos (show (numP n t).kind = 1 from rfl)]
    show (true && (true && if t = 0 then _ else fit6 t n)) = true
    rw [if_neg t0, h]; rfl
/-- what is known of a number that has a type -/
theorem leaf_num {vs : List Vr} {n : Pt} {k : Kd} (hk : n.kind = 1) (h : evT (partK vs) (.leaf n) = .ok k) (hw : well (.leaf n)) (ht : InT (fun p => p.t ≠ 0) (.leaf n)) : k = kT n.t ∧ fit6 n.t n.n = true ∧ n.t ≠ 0 ∧ n = numP n.n n.t := by
  have h' : partK vs n [] = .ok k := h
  have t0 : n.t ≠ 0 := ht hk
  rw [partK_num hk, if_neg t0] at h'
  obtain ⟨hs, hf, hfit⟩ := mayp_num hk hw.2
  refine ⟨(Except.ok.inj h').symm, ?_, t0, ?_⟩
  · rcases hfit with e | e
    · exact absurd e t0
    · exact e
  · cases n; cases hk; cases hs; cases hf; rfl
theorem one_fits {op t a : Int} (ha : fit6 t a = true) (h : (Four.oneN op t a).2 = 0) : fit6 (Four.resN op t).1 (Four.oneN op t a).1 = true ∧ (Four.resN op t).2 = 0 := by
  have hT := fit_t ha
  unfold Four.oneN at h ⊢
  rw [fit_same, ha] at h ⊢
  cases ho : Four.has1 op t with
  | false => rw [ho, if_pos rfl] at h; exact absurd h (by decide)
  | true =>
    rw [if_neg (by decide), if_neg (by decide)]
    have hop : op = 15 ∨ op = 16 := by
      unfold Four.has1 at ho
      simp only [Bool.and_eq_true, Bool.or_eq_true, decide_eq_true_eq] at ho
      rcases ho.2 with h | h
      · exact .inl h.1
      · exact .inr h.1
    have hr : Four.resN op t = (t, 0) := by
      unfold Four.resN
      rw [ho, if_neg (by simp), if_neg (by omega)]
    rw [hr]
    refine ⟨?_, rfl⟩
    have ht : Four.tyB t = true := by unfold Four.tyB; rw [decide_eq_true hT.1, decide_eq_true hT.2]; rfl
    rcases hop with rfl | rfl
    · rw [if_pos rfl, ← fit_same]; exact Four.fit_wr ht _
    · rw [if_neg (by decide)]
      by_cases h1 : t = 1
      · rw [if_pos h1]
        subst h1
        rw [← fit_same] at ha ⊢
        rcases Four.fit_one ha with rfl | rfl <;> decide
      · rw [if_neg h1, ← fit_same]; exact Four.fit_wr ht _
theorem conv_fits {f t a : Int} (h : (Four.convN f t a).2 = 0) : fit6 t (Four.convN f t a).1 = true := by
  unfold Four.convN at h ⊢
  split
  · rename_i h1; rw [if_pos h1] at h; exact absurd h (by decide)
  · rename_i h1
    rw [if_neg h1] at h
    split
    · rename_i h2; rw [if_pos h2] at h; exact absurd h (by decide)
    · rw [← fit_same]
      refine Four.fit_wr ?_ _
      cases e : Four.tyB t with
      | true => rfl
      | false => exact absurd (.inr (.inl e)) h1
theorem two_fits6 {op t a b : Int} (ha : fit6 t a = true) (hb : fit6 t b = true) (h : (Four.twoN op t a b).2 = 0) : fit6 (Four.resN op t).1 (Four.twoN op t a b).1 = true ∧ (Four.resN op t).2 = 0 := by
  rw [← fit_same] at ha hb
  rcases Four.two_fits op t a b ha hb with h' | h' | h'
  · rw [h'] at h; exact absurd h (by decide)
  · rw [h'] at h; exact absurd h (by decide)
  · rw [← fit_same]; exact ⟨h'.2.2, h'.2.1⟩
/-- what is said of a tree that is folded -/
structure Ft (vs : List Vr) (e r : Ex) (k : Kd) : Prop where
  kind : evT (partK vs) r = .ok k
  wel : well r
  typed : InT (fun p => p.t ≠ 0) r
  deps : dep r ≤ dep e
theorem dep_pos : ∀ e : Ex, 1 ≤ dep e
  | .leaf _ => Nat.le_refl _
  | .one _ e => by show 1 ≤ dep e + 1; omega
  | .two _ a b => by show 1 ≤ max (dep b) (dep a) + 1; omega
theorem reck_form {p q : Pt} {on : List Pt} (h : reckP p on = some q) : (p.kind = 6 ∧ ∃ a r, on = a :: r ∧ (Four.convN a.t p.t a.n).2 = 0 ∧ q = numP (Four.convN a.t p.t a.n).1 p.t) ∨
    (p.kind = 5 ∧ ((∃ a, on = [a] ∧ (Four.oneN p.n a.t a.n).2 = 0 ∧ q = numP (Four.oneN p.n a.t a.n).1 (Four.resN p.n a.t).1) ∨
      (∃ a b r, on = a :: b :: r ∧ (Four.twoN p.n a.t a.n b.n).2 = 0 ∧ q = numP (Four.twoN p.n a.t a.n b.n).1 (Four.resN p.n a.t).1))) := by
  unfold reckP at h
  split at h
  · exact absurd h (by simp)
  split at h
  · rename_i h6
    split at h
    · split at h
      · rename_i e
        exact .inl ⟨h6, _, _, rfl, e, (Option.some.inj h).symm⟩
      · exact absurd h (by simp)
    · exact absurd h (by simp)
  split at h
  · rename_i h5
    split at h
    · split at h
      · rename_i e
        exact .inr ⟨h5, .inl ⟨_, rfl, e, (Option.some.inj h).symm⟩⟩
      · exact absurd h (by simp)
    · split at h
      · rename_i e
        exact .inr ⟨h5, .inr ⟨_, _, _, rfl, e, (Option.some.inj h).symm⟩⟩
      · exact absurd h (by simp)
    · exact absurd h (by simp)
  · exact absurd h (by simp)
theorem fold_kind {vs : List Vr} (hv : vOk vs) : ∀ {e : Ex} {k : Kd}, well e → evT (partK vs) e = .ok k → InT (fun p => p.t ≠ 0) e → Ft vs e (foldE e) k
  | .leaf p, k, hw, h, hi => ⟨h, hw, hi, Nat.le_refl _⟩
  | .one p a, k, hw, h, hi => by
    obtain ⟨u, hu, hp⟩ := ev1_inv h
    have ih := fold_kind hv hw.2.2 hu hi
    have plain : Ft vs (.one p a) (.one p (foldE a)) k := ⟨by rw [ev1_mk ih.kind]; exact hp, ⟨hw.1, hw.2.1, ih.wel⟩, ih.typed, by show dep _ + 1 ≤ dep a + 1; have := ih.deps; omega⟩
    rw [foldE]
    cases hn : numOf (foldE a) with
    | none => exact plain
    | some n =>
      show Ft vs (.one p a) (match reckP p [n] with | some q => .leaf q | none => .one p (foldE a)) k
      cases hr : reckP p [n] with
      | none => exact plain
      | some q =>
        obtain ⟨e1, hk⟩ := num_of hn
        have k1 := ih.kind
        have w1 := ih.wel
        have t1 := ih.typed
        rw [e1] at k1 w1 t1
        obtain ⟨rfl, hfit, t0, hnum⟩ := leaf_num hk k1 w1 t1
        have fin : ∀ {m t : Int}, q = numP m t → fit6 t m = true → k = kT t → Ft vs (.one p a) (.leaf q) k := fun {m t} hq hf hkt => by
          obtain ⟨h1, h2, h3⟩ := num_leaf vs hf
          rw [hq, hkt]; exact ⟨h1, h2, h3, by show 1 ≤ dep a + 1; omega⟩
        rcases reck_form hr with ⟨h6, a', r', ha', hc, hq⟩ | ⟨h5, ⟨a', ha', hc, hq⟩ | ⟨a', b', r', ha', -⟩⟩
        · obtain ⟨rfl, -⟩ := List.cons.inj ha'
          refine fin hq (conv_fits hc) ?_
          rcases one_kind hv hw.1 hw.2.1 hp with ⟨h5, -⟩ | ⟨h3, -⟩ | ⟨-, -, e, -⟩
          · omega
          · omega
          · exact e
        · obtain ⟨rfl, -⟩ := List.cons.inj ha'
          obtain ⟨hf, hr2⟩ := one_fits hfit hc
          refine fin hq hf ?_
          rw [partK_five h5] at hp
          have hp' : opK p.n (kT n.t) (kT n.t) = .ok k := hp
          rw [opK_typed t0 hr2] at hp'
          exact (Except.ok.inj hp').symm
        · exact absurd (congrArg List.length ha') (by simp)
  | .two p a b, k, hw, h, hi => by
    obtain ⟨u, u', hu, hu', hp⟩ := ev2_inv h
    have ih := fold_kind hv hw.2.2.1 hu hi.1
    have ih' := fold_kind hv hw.2.2.2 hu' hi.2
    have plain : Ft vs (.two p a b) (.two p (foldE a) (foldE b)) k := ⟨by rw [ev2_mk ih.kind ih'.kind]; exact hp, ⟨hw.1, hw.2.1, ih.wel, ih'.wel⟩, ⟨ih.typed, ih'.typed⟩, by show max _ _ + 1 ≤ max (dep b) (dep a) + 1; have := ih.deps; have := ih'.deps; omega⟩
    rw [foldE]
    cases hn : numOf (foldE a) with
    | none => exact plain
    | some n =>
      cases hm : numOf (foldE b) with
      | none => exact plain
      | some m =>
        show Ft vs (.two p a b) (match reckP p [n, m] with | some q => .leaf q | none => .two p (foldE a) (foldE b)) k
        cases hr : reckP p [n, m] with
        | none => exact plain
        | some q =>
          obtain ⟨e1, hk⟩ := num_of hn
          obtain ⟨e2, hk'⟩ := num_of hm
          have k1 := ih.kind
          have w1 := ih.wel
          have t1 := ih.typed
          rw [e1] at k1 w1 t1
          obtain ⟨rfl, hfit, t0, hnum⟩ := leaf_num hk k1 w1 t1
          have k2 := ih'.kind
          have w2 := ih'.wel
          have t2 := ih'.typed
          rw [e2] at k2 w2 t2
          obtain ⟨rfl, hfit', t0', hnum'⟩ := leaf_num hk' k2 w2 t2
          obtain ⟨h5, hno⟩ := two_kind hw.1 hw.2.1
          rcases reck_form hr with ⟨h6, -⟩ | ⟨-, ⟨a', ha', -⟩ | ⟨a', b', r', ha', hc, hq⟩⟩
          · omega
          · exact absurd (congrArg List.length ha') (by simp)
          · obtain ⟨rfl, hb'⟩ := List.cons.inj ha'
            obtain ⟨rfl, -⟩ := List.cons.inj hb'
            rw [partK_five h5] at hp
            have hp' : opK p.n (kT n.t) (kT m.t) = .ok k := hp
            have ht : m.t = n.t := by
              rcases opK_inv hp' with ⟨e, -⟩ | ⟨-, -, hf, -⟩
              · exact absurd e t0
              · have : tyOr (kT n.t) (tyOr (kT m.t) 3) = n.t := by unfold tyOr; rw [if_neg (show ¬ (kT n.t).typ = 0 from t0)]; rfl
                rw [this] at hf
                rcases kFits_inv hf with ⟨-, e⟩ | ⟨e, -⟩
                · exact congrArg Kd.typ e
                · exact absurd e t0'
            rw [ht] at hfit' hp'
            obtain ⟨hf, hr2⟩ := two_fits6 hfit hfit' hc
            obtain ⟨h1, h2, h3⟩ := num_leaf vs hf
            rw [opK_typed t0 hr2] at hp'
            rw [hq, ← Except.ok.inj hp']
            exact ⟨h1, h2, h3, by show 1 ≤ max (dep b) (dep a) + 1; omega⟩
end Go.Proofs.YtldjiieckddhkaaGreatDoor
namespace Go.Proofs.YtldjiieckddhkaaGreatDoor
open Go.RowKit
/-- a variable as its five cells have it -/
structure Vv where
  s : ByteArray
  ty : Int
  len : Int
  init : Int
  dir : Int
/-- the variables l lie at a place -/
def VvAt (w : World) (b off : Nat) (l : List Vv) : Prop :=
  ∀ i x, l[i]? = some x → w.cell? ⟨b, off + i * 5, none⟩ = some (.string x.s) ∧ w.cell? ⟨b, off + i * 5 + 1, none⟩ = some (.int .i64 x.ty) ∧ w.cell? ⟨b, off + i * 5 + 2, none⟩ = some (.int .i64 x.len) ∧ w.cell? ⟨b, off + i * 5 + 3, none⟩ = some (.int .i64 x.init) ∧ w.cell? ⟨b, off + i * 5 + 4, none⟩ = some (.int .i64 x.dir)
/-- a slice that reads as l -/
def VLst (w : World) (v : Value) (l : List Vv) : Prop :=
  ∃ (a : Option Addr) (b off cap : Nat), v = .slice a l.length cap ∧ (0 < l.length → b < w.heap.size ∧ a = some ⟨b, off, none⟩) ∧ VvAt w b off l
theorem VLst.below {w w' : World} {v : Value} {l : List Vv} {B : Nat} (h : VLst w v l) (hb : Below B w w') (hB : w.heap.size ≤ B) : VLst w' v l := by
  obtain ⟨a, b, off, cap, rfl, hb0, hI⟩ := h
  refine ⟨a, b, off, cap, rfl, fun h => ⟨by have := hb.size; have := (hb0 h).1; omega, (hb0 h).2⟩, fun i x hx => ?_⟩
  have hlt : b < B := by have := (hb0 (by have := (List.getElem?_eq_some_iff.1 hx).1; omega)).1; omega
  obtain ⟨h1, h2, h3, h4, h5⟩ := hI i x hx
  exact ⟨(hb.cell (p := ⟨b, _, none⟩) hlt).trans h1, (hb.cell (p := ⟨b, _, none⟩) hlt).trans h2, (hb.cell (p := ⟨b, _, none⟩) hlt).trans h3, (hb.cell (p := ⟨b, _, none⟩) hlt).trans h4, (hb.cell (p := ⟨b, _, none⟩) hlt).trans h5⟩
def vrV (x : Vv) : Vr := ⟨x.s.data.toList, x.ty, x.len, x.init, x.dir⟩
theorem VLst.nil (w : World) : VLst w (.slice none 0 0) [] := ⟨none, 0, 0, 0, rfl, fun h => absurd h (Nat.lt_irrefl 0), fun i x hx => by cases hx⟩
end Go.Proofs.YtldjiieckddhkaaGreatDoor
namespace Go.Proofs.YtldjiieckddhkaaGreatDoor
open Go.RowKit
def twFind (n : Int) : Option (Bs × Int) := twRows.find? fun r => decide (r.2 = n)
def swFind (n : Int) : Option (Bs × Int) := swRows.find? fun r => decide (r.2 = n)
def wRes (o : Option (Bs × Int)) : Value := match o with
  | some r => .tuple #[.string ⟨r.1.toArray⟩, .bool true]
  | none => .tuple #[.string ⟨#[]⟩, .bool false]
theorem tw_some (n : Int) : (twFind n).isSome = tyW n := by
  unfold twFind tyW twRows
  rw [List.isSome_find?]
  simp only [List.any_cons, List.any_nil]
  rw [Bool.eq_iff_iff]; simp; omega
theorem sw_some (n : Int) : (swFind n).isSome = (decide (0 ≤ n) && decide (n ≤ 2)) := by
  unfold swFind swRows
  rw [List.isSome_find?]
  simp only [List.any_cons, List.any_nil]
  rw [Bool.eq_iff_iff]; simp; omega
theorem size206' : (Tryz.prog.info? 206).map (·.size) = some 28 := by kernel_rfl
theorem size206 : (Tryz.prog.info? 206).map (·.size) = some twTab.length := size206'
theorem tw_cells (k : Nat) (h : k < 14) : twTab.toArray.extract (k * 2) (k * 2 + 2) = #[.string ⟨(twRows[k]'h).1.toArray⟩, .int .i64 (twRows[k]'h).2] := by
  have hk : k = 0 ∨ k = 1 ∨ k = 2 ∨ k = 3 ∨ k = 4 ∨ k = 5 ∨ k = 6 ∨ k = 7 ∨ k = 8 ∨ k = 9 ∨ k = 10 ∨ k = 11 ∨ k = 12 ∨ k = 13 := by omega
  rcases hk with rfl | rfl | rfl | rfl | rfl | rfl | rfl | rfl | rfl | rfl | rfl | rfl | rfl | rfl <;> rfl
theorem tw_idx (k : Nat) (h : k < 14) (W : World) : (Instr.index 206 (.agg twTab.toArray) (.int .i64 (k : Int))).run Tryz.prog W = .ok (.agg #[.string ⟨(twRows[k]'h).1.toArray⟩, .int .i64 (twRows[k]'h).2]) W :=
  index_row Tryz.underlying206 (fun _ => Tryz.isAgg205 _) (fun _ => Tryz.sizeOf205 _) _ k h _ (tw_cells k h) W
theorem size209' : (Tryz.prog.info? 209).map (·.size) = some 6 := by kernel_rfl
theorem size209 : (Tryz.prog.info? 209).map (·.size) = some swTab.length := size209'
theorem sw_cells (k : Nat) (h : k < 3) : swTab.toArray.extract (k * 2) (k * 2 + 2) = #[.string ⟨(swRows[k]'h).1.toArray⟩, .int .i64 (swRows[k]'h).2] := by
  have hk : k = 0 ∨ k = 1 ∨ k = 2 := by omega
  rcases hk with rfl | rfl | rfl <;> rfl
theorem sw_idx (k : Nat) (h : k < 3) (W : World) : (Instr.index 209 (.agg swTab.toArray) (.int .i64 (k : Int))).run Tryz.prog W = .ok (.agg #[.string ⟨(swRows[k]'h).1.toArray⟩, .int .i64 (swRows[k]'h).2]) W :=
  index_row Tryz.underlying209 (fun _ => Tryz.isAgg208 _) (fun _ => Tryz.sizeOf208 _) _ k h _ (sw_cells k h) W
set_option maxRecDepth 100000 in
set_option maxHeartbeats 1600000 in
theorem wordOfType_any (n : Int) (w : World) (hg : TabAt w 4 twTab) : Calls Tryz.prog 166 #[.int .i64 n] w fun e w' => e = .returned (wRes (twFind n)) ∧ Below w.heap.size w w' := by
  have ix : Hid (∀ (k : Nat) (h : k < 14) (W : World), (Instr.index 206 (.agg twTab.toArray) (.int .i64 (k : Int))).run Tryz.prog W = .ok (.agg #[.string ⟨(twRows[k]'h).1.toArray⟩, .int .i64 (twRows[k]'h).2]) W) := tw_idx
  obtain ⟨KT, hT⟩ : ∃ KT, Value.agg twTab.toArray = KT := ⟨_, rfl⟩
  rw [hT] at ix
  go_enter Tryz.func166, Tryz.ntmps166
  go_wp2_with ((with_reducible refine at_load (ty := 206) ?_); go_must (refine load_tab (b := 4) (t := twTab) (T := KT) rfl hg hT Tryz.underlying206 rfl size206 ?_))
  clear hg hT
  go_loopw [7] (fun i wr => ∃ k : Nat, k ≤ 14 ∧ i = .int .i64 (k : Int) ∧ Hid (Below w.heap.size w wr ∧ (twRows.drop k).find? (fun r => decide (r.2 = n)) = twFind n)) (fun i _ => 14 - (intOf i).toNat)
  case atStart => exact ⟨0, by omega, rfl, Below.refl _ _, rfl⟩
  case round =>
    obtain ⟨k, hk, rfl, hh⟩ := hrel
    have HB := hide hh.out.1
    have hf := hh.out.2
    clear hh
    by_cases hlt : k < 14
    · have x0 := ix.out k hlt
      have i1 : (k : Int) < 14 := by omega
      rw [List.drop_eq_getElem_cons (show k < twRows.length from hlt), List.find?_cons] at hf
      generalize (twRows[k]'hlt) = r at *
      obtain ⟨r0, r1⟩ := r
      simp only [] at x0 hf
      obtain ⟨u, hu⟩ : ∃ u : ByteArray, u = ⟨r0.toArray⟩ := ⟨_, rfl⟩
      rw [← hu] at x0
      have HU := hide hu
      have zr := HB.out.size
      have B1 := hide (HB.out.alloc zr (.cells #[.string u, .int .i64 r1] 205))
      clear ix hu
      by_cases he : r1 = n
      · rw [decide_eq_true he] at hf
        have HF := hide hf
        subst he
        clear hf
        go_wp2
        go_ret2
        exact ⟨by rw [← HF.out, HU.out]; rfl, B1.out⟩
      · rw [decide_eq_false he] at hf
        have HF := hide hf
        have hen : (r1 == n) = false := by rw [beq_eq_false_iff_ne]; exact he
        clear hf he
        go_wp2
        go_roundw
        case rel => exact ⟨k + 1, by omega, by go_num, B1.out, HF.out⟩
        case measure => simp [intOf]; omega
    · obtain rfl : k = 14 := by omega
      have HF : Hid (twFind n = none) := hf.symm
      clear hf ix
      go_wp2
      go_ret2
      exact ⟨by rw [HF.out]; rfl, HB.out⟩
set_option maxRecDepth 100000 in
set_option maxHeartbeats 1600000 in
theorem wordOfDir_any (n : Int) (w : World) (hg : TabAt w 5 swTab) : Calls Tryz.prog 167 #[.int .i64 n] w fun e w' => e = .returned (wRes (swFind n)) ∧ Below w.heap.size w w' := by
  have ix : Hid (∀ (k : Nat) (h : k < 3) (W : World), (Instr.index 209 (.agg swTab.toArray) (.int .i64 (k : Int))).run Tryz.prog W = .ok (.agg #[.string ⟨(swRows[k]'h).1.toArray⟩, .int .i64 (swRows[k]'h).2]) W) := sw_idx
  obtain ⟨KT, hT⟩ : ∃ KT, Value.agg swTab.toArray = KT := ⟨_, rfl⟩
  rw [hT] at ix
  go_enter Tryz.func167, Tryz.ntmps167
  go_wp2_with ((with_reducible refine at_load (ty := 209) ?_); go_must (refine load_tab (b := 5) (t := swTab) (T := KT) rfl hg hT Tryz.underlying209 rfl size209 ?_))
  clear hg hT
  go_loopw [7] (fun i wr => ∃ k : Nat, k ≤ 3 ∧ i = .int .i64 (k : Int) ∧ Hid (Below w.heap.size w wr ∧ (swRows.drop k).find? (fun r => decide (r.2 = n)) = swFind n)) (fun i _ => 3 - (intOf i).toNat)
  case atStart => exact ⟨0, by omega, rfl, Below.refl _ _, rfl⟩
  case round =>
    obtain ⟨k, hk, rfl, hh⟩ := hrel
    have HB := hide hh.out.1
    have hf := hh.out.2
    clear hh
    by_cases hlt : k < 3
    · have x0 := ix.out k hlt
      have i1 : (k : Int) < 3 := by omega
      rw [List.drop_eq_getElem_cons (show k < swRows.length from hlt), List.find?_cons] at hf
      generalize (swRows[k]'hlt) = r at *
      obtain ⟨r0, r1⟩ := r
      simp only [] at x0 hf
      obtain ⟨u, hu⟩ : ∃ u : ByteArray, u = ⟨r0.toArray⟩ := ⟨_, rfl⟩
      rw [← hu] at x0
      have HU := hide hu
      have zr := HB.out.size
      have B1 := hide (HB.out.alloc zr (.cells #[.string u, .int .i64 r1] 208))
      clear ix hu
      by_cases he : r1 = n
      · rw [decide_eq_true he] at hf
        have HF := hide hf
        subst he
        clear hf
        go_wp2
        go_ret2
        exact ⟨by rw [← HF.out, HU.out]; rfl, B1.out⟩
      · rw [decide_eq_false he] at hf
        have HF := hide hf
        have hen : (r1 == n) = false := by rw [beq_eq_false_iff_ne]; exact he
        clear hf he
        go_wp2
        go_roundw
        case rel => exact ⟨k + 1, by omega, by go_num, B1.out, HF.out⟩
        case measure => simp [intOf]; omega
    · obtain rfl : k = 3 := by omega
      have HF : Hid (swFind n = none) := hf.symm
      clear hf ix
      go_wp2
      go_ret2
      exact ⟨by rw [HF.out]; rfl, HB.out⟩
theorem isValue_any (t : Int) (w : World) (hg : TabAt w 0 spanTab) : Calls Tryz.prog 175 #[.int .i64 t] w fun e w' => e = .returned (.bool (fit6 t 0)) ∧ w' = w := by
  have c := fits_all t 0 w hg
  clear hg
  go_enter Tryz.func175, Tryz.ntmps175
  go_wp2_with fail
  refine c.mono ?_
  rintro e w1 ⟨rfl, rfl⟩
  go_wp2
  go_ret
  exact ⟨rfl, rfl⟩
end Go.Proofs.YtldjiieckddhkaaGreatDoor
