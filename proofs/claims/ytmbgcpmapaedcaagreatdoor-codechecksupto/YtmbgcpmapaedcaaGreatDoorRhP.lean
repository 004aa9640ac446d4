/- The document's reader of images, plain: what it reads is what the program's Decode answers. -/
import Derived.Test.YtmbgcpmapaedcaaGreatDoorDeP
namespace Go.Proofs.YtmbgcpmapaedcaaGreatDoor
open Go.RowKit
open Wi (It numV)
/-- a reader: what it has left, and whether it is bad -/
structure Rs where
  q : List It
  bad : Bool
def numOk (m : Int) (x : It) : Bool := !x.t && (decide (0 ≤ x.n) && decide (x.n ≤ m))
def nH (m : Int) : List It → Int × Rs
  | [] => (0, ⟨[], true⟩)
  | x :: r => if numOk m x then (x.n, ⟨r, false⟩) else (0, ⟨x :: r, true⟩)
def nR (m : Int) (s : Rs) : Int × Rs := if s.bad then (0, s) else nH m s.q
def tH : List It → List UInt8 × Rs
  | [] => ([], ⟨[], true⟩)
  | x :: r => if x.t then (x.s.data.toList, ⟨r, false⟩) else ([], ⟨x :: r, true⟩)
def tR (s : Rs) : List UInt8 × Rs := if s.bad then ([], s) else tH s.q
def lN : Nat → Rs → List Int × Rs
  | 0, s => ([], s)
  | n + 1, s => if s.bad then ([], s) else ((nR 1024 s).1 :: (lN n (nR 1024 s).2).1, (lN n (nR 1024 s).2).2)
def lR (s : Rs) : List Int × Rs := lN (nR 1024 s).1.toNat (nR 1024 s).2
def fH (b : Bool) : List It → List Int × Rs
  | [] => ([], ⟨[], true⟩)
  | x :: r => if x.t then ([], ⟨x :: r, true⟩) else ([x.n], ⟨r, b⟩)
/-- a cell's type and first value -/
def cR (s : Rs) : Int × List Int × Rs := ((nR 9 s).1, fH (nR 9 s).2.bad (nR 9 s).2.q)
def cN : Nat → Rs → (List Int × List Int) × Rs
  | 0, s => (([], []), s)
  | n + 1, s => if s.bad then (([], []), s) else (((cR s).1 :: (cN n (cR s).2.2).1.1, (cR s).2.1 ++ (cN n (cR s).2.2).1.2), (cN n (cR s).2.2).2)
theorem lN_bad : ∀ (n : Nat) (s : Rs), s.bad = true → lN n s = ([], s)
  | 0, _, _ => rfl
  | n + 1, s, h => by rw [lN, if_pos h]
theorem cN_bad : ∀ (n : Nat) (s : Rs), s.bad = true → cN n s = (([], []), s)
  | 0, _, _ => rfl
  | n + 1, s, h => by rw [cN, if_pos h]
theorem lN_next : ∀ (n : Nat) (s : Rs), (lN n s).2.bad = false → lN (n + 1) s = ((lN n s).1 ++ [(nR 1024 (lN n s).2).1], (nR 1024 (lN n s).2).2)
  | 0, s, h => by
    have h' : s.bad = false := h
    show lN (0 + 1) s = _
    unfold lN
    rw [if_neg (by rw [h']; decide)]; rfl
  | n + 1, s, h => by
    cases hs : s.bad with
    | true => rw [lN_bad _ _ hs] at h; rw [hs] at h; cases h
    | false =>
      have e : ∀ j, lN (j + 1) s = ((nR 1024 s).1 :: (lN j (nR 1024 s).2).1, (lN j (nR 1024 s).2).2) := fun j => by rw [lN, if_neg (by rw [hs]; decide)]
      rw [e n] at h
      rw [e (n + 1), lN_next n (nR 1024 s).2 h, e n]; rfl
theorem lN_stop : ∀ (n m : Nat) (s : Rs), n ≤ m → (lN n s).2.bad = true → lN m s = lN n s
  | 0, m, s, _, h => by rw [lN_bad m s h]; rfl
  | n + 1, 0, s, hm, _ => by omega
  | n + 1, m + 1, s, hm, h => by
    cases hs : s.bad with
    | true => rw [lN_bad _ _ hs, lN_bad _ _ hs]
    | false =>
      have e : ∀ j, lN (j + 1) s = ((nR 1024 s).1 :: (lN j (nR 1024 s).2).1, (lN j (nR 1024 s).2).2) := fun j => by rw [lN, if_neg (by rw [hs]; decide)]
      rw [e n] at h
      rw [e n, e m, lN_stop n m (nR 1024 s).2 (by omega) h]
theorem cN_next : ∀ (n : Nat) (s : Rs), (cN n s).2.bad = false → cN (n + 1) s = (((cN n s).1.1 ++ [(cR (cN n s).2).1], (cN n s).1.2 ++ (cR (cN n s).2).2.1), (cR (cN n s).2).2.2)
  | 0, s, h => by
    have h' : s.bad = false := h
    unfold cN
    rw [if_neg (by rw [h']; decide)]
    simp [cN]
  | n + 1, s, h => by
    cases hs : s.bad with
    | true => rw [cN_bad _ _ hs] at h; rw [hs] at h; cases h
    | false =>
      have e : ∀ j, cN (j + 1) s = (((cR s).1 :: (cN j (cR s).2.2).1.1, (cR s).2.1 ++ (cN j (cR s).2.2).1.2), (cN j (cR s).2.2).2) := fun j => by rw [cN, if_neg (by rw [hs]; decide)]
      rw [e n] at h
      rw [e (n + 1), cN_next n (cR s).2.2 h, e n]
      simp
theorem cN_stop : ∀ (n m : Nat) (s : Rs), n ≤ m → (cN n s).2.bad = true → cN m s = cN n s
  | 0, m, s, _, h => by rw [cN_bad m s h]; rfl
  | n + 1, 0, s, hm, _ => by omega
  | n + 1, m + 1, s, hm, h => by
    cases hs : s.bad with
    | true => rw [cN_bad _ _ hs, cN_bad _ _ hs]
    | false =>
      have e : ∀ j, cN (j + 1) s = (((cR s).1 :: (cN j (cR s).2.2).1.1, (cR s).2.1 ++ (cN j (cR s).2.2).1.2), (cN j (cR s).2.2).2) := fun j => by rw [cN, if_neg (by rw [hs]; decide)]
      rw [e n] at h
      rw [e n, e m, cN_stop n m (cR s).2.2 (by omega) h]
/-- what stands behind the name and the cells -/
def sN (l : List It) : Rs := (nR 1024 (tR ⟨l, false⟩).2).2
def sM (l : List It) : Nat := (nR 1024 (tR ⟨l, false⟩).2).1.toNat
def sC (l : List It) : (List Int × List Int) × Rs := cN (sM l) (sN l)
def sI (l : List It) : List Int × Rs := lR (sC l).2
def sO (l : List It) : List Int × Rs := lR (sI l).2
def sZ (l : List It) : List UInt8 × Rs := tR (sO l).2
def imR (l : List It) : Img := ⟨(tR ⟨l, false⟩).1, (sC l).1.1, (sC l).1.2, (sI l).1, (sO l).1, cdV (sZ l).1⟩
def okR (l : List It) : Bool := !(sZ l).2.bad && ((sZ l).2.q.isEmpty && decide ((sZ l).1.length % 11 = 0))
/-- the document's Decode, of items -/
def refP (l : List It) : Img × Int := if okR l then (if (chkP (imR l)).2 = 0 then (imR l, 0) else (img0, 130)) else (img0, 130)
theorem nR_it (m v : Int) (r : List It) (h0 : 0 ≤ v) (h1 : v ≤ m) : nR m ⟨nIt v :: r, false⟩ = (v, ⟨r, false⟩) := by
  have h : numOk m (nIt v) = true := by
    show (!false && (decide (0 ≤ v) && decide (v ≤ m))) = true
    simp [h0, h1]
  show nH m (nIt v :: r) = _
  rw [nH, if_pos h]; rfl
theorem tR_it (b : List UInt8) (r : List It) : tR ⟨tIt b :: r, false⟩ = (b, ⟨r, false⟩) := rfl
theorem lN_nums : ∀ (l : List Int) (r : List It), (∀ c ∈ l, 0 ≤ c ∧ c ≤ 1024) → lN l.length ⟨l.map nIt ++ r, false⟩ = (l, ⟨r, false⟩)
  | [], r, _ => rfl
  | x :: l, r, h => by
    have hx := h x List.mem_cons_self
    rw [List.length_cons, lN, if_neg (fun h => by cases h), List.map_cons, List.cons_append, nR_it _ _ _ hx.1 hx.2]
    show (x :: (lN l.length ⟨l.map nIt ++ r, false⟩).1, (lN l.length ⟨l.map nIt ++ r, false⟩).2) = _
    rw [lN_nums l r (fun c hc => h c (List.mem_cons_of_mem _ hc))]
theorem lR_of (l : List Int) (r : List It) (h : ∀ c ∈ l, 0 ≤ c ∧ c ≤ 1024) (hl : l.length ≤ 1024) : lR ⟨nIt (l.length : Int) :: (l.map nIt ++ r), false⟩ = (l, ⟨r, false⟩) := by
  unfold lR
  rw [nR_it _ _ _ (by omega) (by omega)]
  exact lN_nums l r h
theorem cN_cells : ∀ (ty fi : List Int) (r : List It), fi.length = ty.length → (∀ c ∈ ty, 0 ≤ c ∧ c ≤ 9) → cN ty.length ⟨cellIt ty fi ++ r, false⟩ = ((ty, fi), ⟨r, false⟩)
  | [], fi, r, h, _ => by
    obtain rfl := List.eq_nil_of_length_eq_zero h
    rfl
  | t :: ty, [], r, h, _ => by cases h
  | t :: ty, f :: fi, r, h, hb => by
    have e : cellIt (t :: ty) (f :: fi) ++ r = nIt t :: nIt f :: (cellIt ty fi ++ r) := by unfold cellIt; rfl
    have ht := hb t List.mem_cons_self
    have ec : cR ⟨nIt t :: nIt f :: (cellIt ty fi ++ r), false⟩ = (t, [f], ⟨cellIt ty fi ++ r, false⟩) := by
      unfold cR
      rw [nR_it _ _ _ ht.1 ht.2]; rfl
    rw [List.length_cons, cN, if_neg (fun h => by cases h), e, ec]
    show ((t :: (cN ty.length ⟨cellIt ty fi ++ r, false⟩).1.1, [f] ++ (cN ty.length ⟨cellIt ty fi ++ r, false⟩).1.2), (cN ty.length ⟨cellIt ty fi ++ r, false⟩).2) = _
    rw [cN_cells ty fi r (by simpa using h) (fun c hc => hb c (List.mem_cons_of_mem _ hc))]
    rfl
theorem itP_form (nm : List UInt8) (ty fi ins outs : List Int) (cd : List Ins) : itP ⟨nm, ty, fi, ins, outs, cd⟩ = tIt nm :: nIt (ty.length : Int) :: (cellIt ty fi ++ (nIt (ins.length : Int) :: (ins.map nIt ++ (nIt (outs.length : Int) :: (outs.map nIt ++ [tIt (cdB cd)]))))) := by
  unfold itP
  simp only [List.append_assoc, List.cons_append, List.nil_append]
/-- what an image's items are read as -/
theorem read_it (x : Img) (hf : x.fi.length = x.ty.length) (hl : x.ty.length ≤ 1024) (ht : ∀ c ∈ x.ty, 0 ≤ c ∧ c ≤ 9) (hi : x.ins.length ≤ 1024) (ho : x.outs.length ≤ 1024) (hib : ∀ c ∈ x.ins, 0 ≤ c ∧ c ≤ 1024) (hob : ∀ c ∈ x.outs, 0 ≤ c ∧ c ≤ 1024) (hc : ∀ i ∈ x.cd, InsR i) : okR (itP x) = true ∧ imR (itP x) = x := by
  obtain ⟨nm, ty, fi, ins, outs, cd⟩ := x
  simp only at hf hl ht hi ho hib hob hc
  have e := itP_form nm ty fi ins outs cd
  generalize itP ⟨nm, ty, fi, ins, outs, cd⟩ = l at *
  have e1 : tR ⟨l, false⟩ = (nm, ⟨nIt (ty.length : Int) :: (cellIt ty fi ++ (nIt (ins.length : Int) :: (ins.map nIt ++ (nIt (outs.length : Int) :: (outs.map nIt ++ [tIt (cdB cd)]))))), false⟩) := by rw [e]; rfl
  have e2 : nR 1024 (tR ⟨l, false⟩).2 = ((ty.length : Int), ⟨cellIt ty fi ++ (nIt (ins.length : Int) :: (ins.map nIt ++ (nIt (outs.length : Int) :: (outs.map nIt ++ [tIt (cdB cd)])))), false⟩) := by
    rw [e1]; exact nR_it _ _ _ (by omega) (by omega)
  have e3 : sC l = ((ty, fi), ⟨nIt (ins.length : Int) :: (ins.map nIt ++ (nIt (outs.length : Int) :: (outs.map nIt ++ [tIt (cdB cd)]))), false⟩) := by
    unfold sC sM sN
    rw [e2]
    exact cN_cells ty fi _ hf ht
  have e4 : sI l = (ins, ⟨nIt (outs.length : Int) :: (outs.map nIt ++ [tIt (cdB cd)]), false⟩) := by
    unfold sI; rw [e3]; exact lR_of _ _ hib hi
  have e5 : sO l = (outs, ⟨[tIt (cdB cd)], false⟩) := by
    unfold sO; rw [e4]; exact lR_of _ _ hob ho
  have e6 : sZ l = (cdB cd, ⟨[], false⟩) := by
    unfold sZ; rw [e5]; rfl
  constructor
  · unfold okR
    rw [e6, cdB_length]
    simp
  · unfold imR
    rw [e1, e3, e4, e5, e6, cdV_back cd hc]
theorem nR_inv {m v : Int} {s s' : Rs} (h : nR m s = (v, s')) (hb : s'.bad = false) (hm : ∀ y ∈ s.q, Wi.mayB y = true) : s.bad = false ∧ s.q = nIt v :: s'.q ∧ 0 ≤ v ∧ v ≤ m := by
  obtain ⟨q, b⟩ := s
  cases b with
  | true =>
    have h' : ((0 : Int), (⟨q, true⟩ : Rs)) = (v, s') := h
    obtain ⟨-, rfl⟩ := Prod.mk.inj h'
    cases hb
  | false =>
    have h' : nH m q = (v, s') := h
    cases q with
    | nil =>
      obtain ⟨-, rfl⟩ := Prod.mk.inj (h' : ((0 : Int), (⟨[], true⟩ : Rs)) = (v, s'))
      cases hb
    | cons x r =>
      rw [nH] at h'
      by_cases hx : numOk m x = true
      · rw [if_pos hx] at h'
        obtain ⟨rfl, rfl⟩ := Prod.mk.inj h'
        have hmy := hm x List.mem_cons_self
        obtain ⟨xt, xn, xs⟩ := x
        unfold numOk at hx
        simp only [Bool.and_eq_true, Bool.not_eq_true', decide_eq_true_eq] at hx
        obtain ⟨rfl, h0, h1⟩ := hx
        have hz : xs.size = 0 := by
          unfold Wi.mayB at hmy
          simpa using hmy
        refine ⟨rfl, ?_, h0, h1⟩
        show (⟨false, xn, xs⟩ : It) :: r = ⟨false, xn, ⟨#[]⟩⟩ :: r
        congr 2
        obtain ⟨d⟩ := xs
        have : d.size = 0 := hz
        rw [Array.eq_empty_of_size_eq_zero this]
      · rw [if_neg hx] at h'
        obtain ⟨-, rfl⟩ := Prod.mk.inj h'
        cases hb
theorem tR_inv {b : List UInt8} {s s' : Rs} (h : tR s = (b, s')) (hb : s'.bad = false) (hm : ∀ y ∈ s.q, Wi.mayB y = true) : s.bad = false ∧ s.q = tIt b :: s'.q := by
  obtain ⟨q, c⟩ := s
  cases c with
  | true =>
    obtain ⟨-, rfl⟩ := Prod.mk.inj (h : (([] : List UInt8), (⟨q, true⟩ : Rs)) = (b, s'))
    cases hb
  | false =>
    have h' : tH q = (b, s') := h
    cases q with
    | nil =>
      obtain ⟨-, rfl⟩ := Prod.mk.inj (h' : (([] : List UInt8), (⟨[], true⟩ : Rs)) = (b, s'))
      cases hb
    | cons x r =>
      rw [tH] at h'
      by_cases hx : x.t = true
      · rw [if_pos hx] at h'
        obtain ⟨rfl, rfl⟩ := Prod.mk.inj h'
        have hmy := hm x List.mem_cons_self
        obtain ⟨xt, xn, xs⟩ := x
        obtain rfl : xt = true := hx
        have hz : xn = 0 := by
          unfold Wi.mayB at hmy
          simp at hmy
          exact hmy.1
        subst hz
        exact ⟨rfl, rfl⟩
      · rw [if_neg hx] at h'
        obtain ⟨-, rfl⟩ := Prod.mk.inj h'
        cases hb
theorem lN_inv : ∀ (n : Nat) (s s' : Rs) (l : List Int), lN n s = (l, s') → s'.bad = false → (∀ y ∈ s.q, Wi.mayB y = true) → s.bad = false ∧ s.q = l.map nIt ++ s'.q ∧ l.length = n
  | 0, s, s', l, h, hb, hm => by
    obtain ⟨rfl, rfl⟩ := Prod.mk.inj (h : (([] : List Int), s) = (l, s'))
    exact ⟨hb, rfl, rfl⟩
  | n + 1, s, s', l, h, hb, hm => by
    cases hs : s.bad with
    | true =>
      rw [lN_bad _ _ hs] at h
      obtain ⟨-, rfl⟩ := Prod.mk.inj h
      rw [hs] at hb; cases hb
    | false =>
      rw [lN, if_neg (by rw [hs]; decide)] at h
      obtain ⟨rfl, h2⟩ := Prod.mk.inj h
      have hq : ∃ v s1, nR 1024 s = (v, s1) := ⟨_, _, rfl⟩
      obtain ⟨v, s1, h1⟩ := hq
      rw [h1] at h2 ⊢
      cases hb1 : s1.bad with
      | true =>
        rw [lN_bad _ _ hb1] at h2
        have h2' : s1 = s' := h2
        rw [← h2', hb1] at hb; cases hb
      | false =>
        obtain ⟨_, e, _, _⟩ := nR_inv h1 hb1 hm
        obtain ⟨l', hl'⟩ : ∃ l', (lN n s1).1 = l' := ⟨_, rfl⟩
        have h3 : lN n s1 = (l', s') := Prod.ext hl' h2
        obtain ⟨_, e2, e3⟩ := lN_inv n s1 s' l' h3 hb (fun y hy => hm y (by rw [e]; exact List.mem_cons_of_mem _ hy))
        refine ⟨rfl, ?_, ?_⟩
        · show s.q = (v :: (lN n s1).1).map nIt ++ s'.q
          rw [hl', e, e2]; rfl
        · show (v :: (lN n s1).1).length = n + 1
          rw [hl', List.length_cons, e3]
theorem lR_inv {s s' : Rs} {l : List Int} (h : lR s = (l, s')) (hb : s'.bad = false) (hm : ∀ y ∈ s.q, Wi.mayB y = true) : s.bad = false ∧ s.q = nIt (l.length : Int) :: (l.map nIt ++ s'.q) := by
  unfold lR at h
  obtain ⟨v, s1, h1⟩ : ∃ v s1, nR 1024 s = (v, s1) := ⟨_, _, rfl⟩
  rw [h1] at h
  have h' : lN v.toNat s1 = (l, s') := h
  cases hb1 : s1.bad with
  | true =>
    rw [lN_bad _ _ hb1] at h'
    obtain ⟨-, rfl⟩ := Prod.mk.inj h'
    rw [hb1] at hb; cases hb
  | false =>
    obtain ⟨g, e, h0, _⟩ := nR_inv h1 hb1 hm
    obtain ⟨_, e2, e3⟩ := lN_inv _ s1 s' l h' hb (fun y hy => hm y (by rw [e]; exact List.mem_cons_of_mem _ hy))
    refine ⟨g, ?_⟩
    rw [e, e2, e3, Int.toNat_of_nonneg h0]
theorem cR_inv {s s' : Rs} {t : Int} {f : List Int} (h : cR s = (t, f, s')) (hb : s'.bad = false) (hm : ∀ y ∈ s.q, Wi.mayB y = true) : s.bad = false ∧ ∃ v, f = [v] ∧ s.q = nIt t :: nIt v :: s'.q := by
  unfold cR at h
  obtain ⟨v, s1, h1⟩ : ∃ v s1, nR 9 s = (v, s1) := ⟨_, _, rfl⟩
  rw [h1] at h
  obtain ⟨rfl, h2⟩ := Prod.mk.inj h
  have h2' : fH s1.bad s1.q = (f, s') := h2
  obtain ⟨q1, b1⟩ := s1
  cases q1 with
  | nil =>
    obtain ⟨-, rfl⟩ := Prod.mk.inj (h2' : (([] : List Int), (⟨[], true⟩ : Rs)) = (f, s'))
    cases hb
  | cons x r =>
    rw [fH] at h2'
    by_cases hx : x.t = true
    · rw [if_pos hx] at h2'
      obtain ⟨-, rfl⟩ := Prod.mk.inj h2'
      cases hb
    · rw [if_neg hx] at h2'
      obtain ⟨rfl, rfl⟩ := Prod.mk.inj h2'
      obtain rfl : b1 = false := hb
      obtain ⟨g, e, _, _⟩ := nR_inv h1 rfl hm
      refine ⟨g, x.n, rfl, ?_⟩
      rw [e]
      have hmy := hm x (by rw [e]; exact List.mem_cons_of_mem _ List.mem_cons_self)
      obtain ⟨xt, xn, xs⟩ := x
      obtain rfl : xt = false := by simpa using hx
      have hz : xs.size = 0 := by
        unfold Wi.mayB at hmy
        simpa using hmy
      show nIt v :: (⟨false, xn, xs⟩ : It) :: r = nIt v :: ⟨false, xn, ⟨#[]⟩⟩ :: r
      congr 3
      obtain ⟨d⟩ := xs
      have : d.size = 0 := hz
      rw [Array.eq_empty_of_size_eq_zero this]
theorem cN_inv : ∀ (n : Nat) (s s' : Rs) (ty fi : List Int), cN n s = ((ty, fi), s') → s'.bad = false → (∀ y ∈ s.q, Wi.mayB y = true) → s.bad = false ∧ s.q = cellIt ty fi ++ s'.q ∧ ty.length = n ∧ fi.length = n
  | 0, s, s', ty, fi, h, hb, hm => by
    obtain ⟨h1, rfl⟩ := Prod.mk.inj (h : ((([] : List Int), ([] : List Int)), s) = ((ty, fi), s'))
    obtain ⟨rfl, rfl⟩ := Prod.mk.inj h1
    exact ⟨hb, rfl, rfl, rfl⟩
  | n + 1, s, s', ty, fi, h, hb, hm => by
    cases hs : s.bad with
    | true =>
      rw [cN_bad _ _ hs] at h
      obtain ⟨-, rfl⟩ := Prod.mk.inj h
      rw [hs] at hb; cases hb
    | false =>
      rw [cN, if_neg (by rw [hs]; decide)] at h
      obtain ⟨h1, h2⟩ := Prod.mk.inj h
      obtain ⟨rfl, rfl⟩ := Prod.mk.inj h1
      obtain ⟨t, f, s1, hc⟩ : ∃ t f s1, cR s = (t, f, s1) := ⟨_, _, _, rfl⟩
      rw [hc] at h2 ⊢
      cases hb1 : s1.bad with
      | true =>
        rw [cN_bad _ _ hb1] at h2
        have h2' : s1 = s' := h2
        rw [← h2', hb1] at hb; cases hb
      | false =>
        obtain ⟨_, v, rfl, e⟩ := cR_inv hc hb1 hm
        obtain ⟨ty', hty⟩ : ∃ l', (cN n s1).1.1 = l' := ⟨_, rfl⟩
        obtain ⟨fi', hfi⟩ : ∃ l', (cN n s1).1.2 = l' := ⟨_, rfl⟩
        have h3 : cN n s1 = ((ty', fi'), s') := Prod.ext (Prod.ext hty hfi) h2
        obtain ⟨_, e2, e3, e4⟩ := cN_inv n s1 s' ty' fi' h3 hb (fun y hy => hm y (by rw [e]; exact List.mem_cons_of_mem _ (List.mem_cons_of_mem _ hy)))
        refine ⟨rfl, ?_, ?_, ?_⟩
        · show s.q = cellIt (t :: (cN n s1).1.1) ([v] ++ (cN n s1).1.2) ++ s'.q
          rw [hty, hfi, e, e2]; unfold cellIt; rfl
        · show (t :: (cN n s1).1.1).length = n + 1
          rw [hty, List.length_cons, e3]
        · show ([v] ++ (cN n s1).1.2).length = n + 1
          rw [hfi, List.length_append, e4, List.length_singleton]; omega
theorem may_cut {l : List It} (h : ∀ y ∈ l, Wi.mayB y = true) {a b : List It} (e : l = a ++ b) : ∀ y ∈ b, Wi.mayB y = true := fun y hy => h y (by rw [e]; exact List.mem_append_right _ hy)
theorem insB_back (q : List UInt8) (h : q.length = 11) : insB (insV q) = q := by
  obtain ⟨d0, d1, d2, d3, d4, d5, d6, d7, d8, d9, d10, rfl⟩ : ∃ d0 d1 d2 d3 d4 d5 d6 d7 d8 d9 d10, q = [d0, d1, d2, d3, d4, d5, d6, d7, d8, d9, d10] := by
    match q, h with
    | [d0, d1, d2, d3, d4, d5, d6, d7, d8, d9, d10], _ => exact ⟨d0, d1, d2, d3, d4, d5, d6, d7, d8, d9, d10, rfl⟩
  have key : ∀ (n : Int) (j : Nat) (d : UInt8), n / 2 ^ (8 * j) % 256 = (d.toNat : Int) → byI n j = d := fun n j d h => by
    unfold byI
    rw [h]
    exact UInt8.toNat_inj.1 (by rw [Wi.byte_of]; have := d.toNat_lt; omega)
  have b0 := d0.toNat_lt
  have b1 := d1.toNat_lt
  have b2 := d2.toNat_lt
  have b3 := d3.toNat_lt
  have b4 := d4.toNat_lt
  have b5 := d5.toNat_lt
  have b6 := d6.toNat_lt
  have b7 := d7.toNat_lt
  have b8 := d8.toNat_lt
  have b9 := d9.toNat_lt
  have b10 := d10.toNat_lt
  have ho : UInt8.ofNat (((d0.toNat : Int)) % 256).toNat = d0 := UInt8.toNat_inj.1 (by rw [Wi.byte_of]; omega)
  have ha : hiB ((numV [d1, d2] 0 : Nat) : Int) 2 = [d1, d2] := by
    show [byI _ 1, byI _ 0] = _
    rw [key _ 1 d1 (by simp only [numV]; omega), key _ 0 d2 (by simp only [numV]; omega)]
  have hb : hiB ((numV [d3, d4] 0 : Nat) : Int) 2 = [d3, d4] := by
    show [byI _ 1, byI _ 0] = _
    rw [key _ 1 d3 (by simp only [numV]; omega), key _ 0 d4 (by simp only [numV]; omega)]
  have hn : hiB (sg48 (numV [d5, d6, d7, d8, d9, d10] 0)) 6 = [d5, d6, d7, d8, d9, d10] := by
    show [byI _ 5, byI _ 4, byI _ 3, byI _ 2, byI _ 1, byI _ 0] = _
    have hv : numV [d5, d6, d7, d8, d9, d10] 0 = ((((d5.toNat * 256 + d6.toNat) * 256 + d7.toNat) * 256 + d8.toNat) * 256 + d9.toNat) * 256 + d10.toNat := by simp only [numV]; omega
    rw [hv]
    unfold sg48
    generalize hA : d5.toNat = p5 at *
    generalize hB : d6.toNat = p6 at *
    generalize hC : d7.toNat = p7 at *
    generalize hD : d8.toNat = p8 at *
    generalize hE : d9.toNat = p9 at *
    generalize hF : d10.toNat = p10 at *
    rw [key _ 5 d5 (by rw [hA]; split <;> omega), key _ 4 d6 (by rw [hB]; split <;> omega), key _ 3 d7 (by rw [hC]; split <;> omega), key _ 2 d8 (by rw [hD]; split <;> omega), key _ 1 d9 (by rw [hE]; split <;> omega), key _ 0 d10 (by rw [hF]; split <;> omega)]
  show UInt8.ofNat (((d0.toNat : Int)) % 256).toNat :: (hiB ((numV [d1, d2] 0 : Nat) : Int) 2 ++ (hiB ((numV [d3, d4] 0 : Nat) : Int) 2 ++ hiB (sg48 (numV [d5, d6, d7, d8, d9, d10] 0)) 6)) = _
  rw [ho, ha, hb, hn]; rfl
theorem cdN_back : ∀ (n : Nat) (q : List UInt8), q.length = n * 11 → cdB (cdN n q) = q
  | 0, q, h => by
    obtain rfl := List.eq_nil_of_length_eq_zero (by omega : q.length = 0)
    rfl
  | n + 1, q, h => by
    have e : cdB (insV q :: cdN n (q.drop 11)) = insB (insV q) ++ cdB (cdN n (q.drop 11)) := by unfold cdB; rw [List.flatMap_cons]
    have ei : insV q = insV (q.take 11) := by
      unfold insV
      have h1 : (q.take 11).headD 0 = q.headD 0 := by cases q <;> rfl
      have h2 : ∀ a b, a + b ≤ 11 → ((q.take 11).drop a).take b = (q.drop a).take b := fun a b hab => by
        rw [List.drop_take, List.take_take]
        congr 1
        omega
      rw [h1, h2 1 2 (by omega), h2 3 2 (by omega), h2 5 6 (by omega)]
    rw [cdN, e, cdN_back n (q.drop 11) (by rw [List.length_drop]; omega), ei, insB_back (q.take 11) (by rw [List.length_take]; omega), List.take_append_drop]
/-- what is read without a fault has just its items -/
theorem items_read (l : List It) (hm : ∀ y ∈ l, Wi.mayB y = true) (h : okR l = true) : itP (imR l) = l := by
  unfold okR at h
  simp only [Bool.and_eq_true, Bool.not_eq_true', List.isEmpty_iff, decide_eq_true_eq] at h
  obtain ⟨hb, hq, h11⟩ := h
  obtain ⟨nm, s1, e1⟩ : ∃ a b, tR ⟨l, false⟩ = (a, b) := ⟨_, _, rfl⟩
  obtain ⟨v, s2, e2⟩ : ∃ a b, nR 1024 s1 = (a, b) := ⟨_, _, rfl⟩
  obtain ⟨⟨ty, fi⟩, s3, e3⟩ : ∃ a b, cN v.toNat s2 = (a, b) := ⟨_, _, rfl⟩
  obtain ⟨ins, s4, e4⟩ : ∃ a b, lR s3 = (a, b) := ⟨_, _, rfl⟩
  obtain ⟨outs, s5, e5⟩ : ∃ a b, lR s4 = (a, b) := ⟨_, _, rfl⟩
  obtain ⟨z, s6, e6⟩ : ∃ a b, tR s5 = (a, b) := ⟨_, _, rfl⟩
  have f3 : sC l = ((ty, fi), s3) := by unfold sC sM sN; rw [e1, e2]; exact e3
  have f4 : sI l = (ins, s4) := by unfold sI; rw [f3]; exact e4
  have f5 : sO l = (outs, s5) := by unfold sO; rw [f4]; exact e5
  have f6 : sZ l = (z, s6) := by unfold sZ; rw [f5]; exact e6
  have fi' : imR l = ⟨nm, ty, fi, ins, outs, cdV z⟩ := by unfold imR; rw [e1, f3, f4, f5, f6]
  rw [f6] at hb hq h11
  simp only at hb hq h11
  have g5 : s5.bad = false := by
    cases hh : s5.bad with
    | false => rfl
    | true =>
      have : tR s5 = ([], s5) := by unfold tR; rw [if_pos hh]
      rw [this] at e6
      obtain ⟨-, rfl⟩ := Prod.mk.inj e6
      rw [hh] at hb; cases hb
  have nbad : ∀ (m : Int) (s : Rs), s.bad = true → nR m s = (0, s) := fun m s hs => by unfold nR; rw [if_pos hs]
  have lbad : ∀ (s : Rs), s.bad = true → lR s = ([], s) := fun s hs => by unfold lR; rw [nbad _ _ hs]; exact lN_bad _ _ hs
  have g4 : s4.bad = false := by
    cases hh : s4.bad with
    | false => rfl
    | true =>
      rw [lbad _ hh] at e5
      obtain ⟨-, rfl⟩ := Prod.mk.inj e5
      rw [hh] at g5; cases g5
  have g3 : s3.bad = false := by
    cases hh : s3.bad with
    | false => rfl
    | true =>
      rw [lbad _ hh] at e4
      obtain ⟨-, rfl⟩ := Prod.mk.inj e4
      rw [hh] at g4; cases g4
  have g2 : s2.bad = false := by
    cases hh : s2.bad with
    | false => rfl
    | true =>
      rw [cN_bad _ _ hh] at e3
      obtain ⟨-, rfl⟩ := Prod.mk.inj e3
      rw [hh] at g3; cases g3
  have g1 : s1.bad = false := by
    cases hh : s1.bad with
    | false => rfl
    | true =>
      rw [nbad _ _ hh] at e2
      obtain ⟨-, rfl⟩ := Prod.mk.inj e2
      rw [hh] at g2; cases g2
  obtain ⟨_, q1⟩ := tR_inv e1 g1 hm
  have q1' : l = tIt nm :: s1.q := q1
  have m1 := may_cut hm (a := [tIt nm]) q1'
  obtain ⟨_, q2, v0, _⟩ := nR_inv e2 g2 m1
  have m2 := may_cut m1 (a := [nIt v]) q2
  obtain ⟨_, q3, c3, c4⟩ := cN_inv _ _ _ _ _ e3 g3 m2
  have m3 := may_cut m2 q3
  obtain ⟨_, q4⟩ := lR_inv e4 g4 m3
  have m4 := may_cut m3 (a := nIt (ins.length : Int) :: ins.map nIt) (by rw [q4]; rfl)
  obtain ⟨_, q5⟩ := lR_inv e5 g5 m4
  have m5 := may_cut m4 (a := nIt (outs.length : Int) :: outs.map nIt) (by rw [q5]; rfl)
  obtain ⟨_, q6⟩ := tR_inv e6 hb m5
  have hz : cdB (cdV z) = z := by
    unfold cdV
    exact cdN_back _ z (by omega)
  rw [fi', itP_form, hz, q1', q2, q3, q4, q5, q6, hq, c3, Int.toNat_of_nonneg v0]
theorem all_may : ∀ (l : List It), Wi.allMay l = true → ∀ y ∈ l, Wi.mayB y = true
  | [], _ => fun y hy => by cases hy
  | x :: l, h => fun y hy => by
    have h' : (Wi.mayB x && Wi.allMay l) = true := h
    rw [Bool.and_eq_true] at h'
    rcases List.mem_cons.1 hy with rfl | hy
    · exact h'.1
    · exact all_may l h'.2 y hy
theorem cell_types : ∀ (ty fi : List Int), ty.length = fi.length → (List.zipWith Four.fitB ty fi).all id = true → ∀ c ∈ ty, 0 ≤ c ∧ c ≤ 9
  | [], _, _, _ => fun c hc => by cases hc
  | t :: ty, [], h, _ => by cases h
  | t :: ty, f :: fi, h, ha => fun c hc => by
    rw [List.zipWith_cons_cons, List.all_cons, Bool.and_eq_true] at ha
    rcases List.mem_cons.1 hc with rfl | hc
    · have := fit_small ha.1
      omega
    · exact cell_types ty fi (by simpa using h) ha.2 c hc
/-- an image that may be is read out of its items -/
theorem read_chk {x : Img} (h : (chkP x).2 = 0) : okR (itP x) = true ∧ imR (itP x) = x := by
  have hf := chk_ok h
  have hF := frame_facts hf
  have h' := hf
  unfold frameB cellB at h'
  simp only [Bool.and_eq_true, decide_eq_true_eq] at h'
  obtain ⟨_, ⟨h1, h2, h3⟩, h4, _⟩ := h'
  have hb := (line_facts x.ty.length (x.ins ++ x.outs) [] List.nodup_nil (fun c hc => by cases hc) h4).2
  have hin : ∀ c ∈ x.ins ++ x.outs, 0 ≤ c ∧ c ≤ 1024 := fun c hc => by
    have := hb c (by rw [List.append_nil]; exact List.mem_reverse.2 hc)
    omega
  exact read_it x hF.fi hF.ty (cell_types _ _ h1 h3) (by have := hF.ins; omega) (by have := hF.outs; omega) (fun c hc => hin c (List.mem_append_left _ hc)) (fun c hc => hin c (List.mem_append_right _ hc)) (fun i hi => may_range hF.ty hF.c2 (chk_all h i hi))
/-- the document's Decode answers what the program's does -/
theorem dec_ref (b : List UInt8) : decP b = if (Wi.decB b).2.2 = 0 then refP (Wi.decB b).1 else (img0, 130) := by
  unfold decP
  by_cases h0 : (Wi.decB b).2.2 = 0
  · rw [if_pos h0, if_pos h0]
    obtain ⟨l, p, c, hd⟩ : ∃ l p c, Wi.decB b = (l, p, c) := ⟨_, _, _, rfl⟩
    rw [hd] at h0 ⊢
    have h0' : c = 0 := h0
    subst h0'
    show (if encP (imgV l) = (b, 0) then (imgV l, 0) else (img0, 130)) = refP l
    obtain ⟨rfl, hE, hby, hfit⟩ := Wi.enc_dec b l p hd
    obtain ⟨hl, hall, hlen⟩ := Wi.encE_zero hE
    have hm := all_may l hall
    by_cases he : encP (imgV l) = (b, 0)
    · rw [if_pos he]
      obtain ⟨hc, h2, h3⟩ := enc_chk (x := imgV l) (by rw [he])
      have hd2 : Wi.decB b = (itP (imgV l), 0, 0) := by
        have e : Wi.bytesB (itP (imgV l)) = b := by
          have := h2.symm.trans he
          exact (Prod.mk.inj this).1
        rw [← e]
        exact Wi.dec_enc _ h3 (items_fit (chk_ok hc)).2
      have e : itP (imgV l) = l := by
        have := hd2.symm.trans hd
        exact (Prod.mk.inj this).1
      obtain ⟨r1, r2⟩ := read_chk hc
      rw [e] at r1 r2
      unfold refP
      rw [if_pos r1, r2, if_pos hc]
    · rw [if_neg he]
      unfold refP
      by_cases ho : okR l = true
      · rw [if_pos ho]
        by_cases hc : (chkP (imR l)).2 = 0
        · exfalso
          have e := items_read l hm ho
          have hF := frame_facts (chk_ok hc)
          have hi : imgV (itP (imR l)) = imR l := img_back _ hF.fi (fun i hi => may_range hF.ty hF.c2 (chk_all hc i hi))
          rw [e] at hi
          apply he
          rw [hi]
          unfold encP
          rw [if_pos hc, e, hE]
          unfold Wi.encL
          rw [if_pos hE, hby]
        · rw [if_neg hc]
      · rw [if_neg ho]
  · rw [if_neg h0, if_neg h0]
end Go.Proofs.YtmbgcpmapaedcaaGreatDoor
