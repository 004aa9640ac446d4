/- What is read, as a relation; that reading ends; and that what stands behind does not matter. -/
import Derived.Test.YtldjiieckddhkaaGreatDoorMg5
namespace Go.Proofs.YtldjiieckddhkaaGreatDoor
inductive Reads : Md → Nat → List Tk → List Pt → List Tk → Prop
  | top {n d : Nat} {l r : List Tk} {x : List Pt} (h : 7 ≤ n) (h1 : Reads .una d l x r) : Reads (.row n) d l x r
  | row {n d : Nat} {l r r' : List Tk} {x y : List Pt} (h : n < 7) (h1 : Reads (.row (n + 1)) d l x r) (h2 : Reads (.loop n) d r y r') : Reads (.row n) d l (x ++ y) r'
  | stop {n d : Nat} {l : List Tk} (h : ∀ t q, l = t :: q → opIn n t = none) : Reads (.loop n) d l [] l
  | more {n d : Nat} {t : Tk} {k : Int} {q r r' : List Tk} {x y : List Pt} (h : opIn n t = some k) (h1 : Reads (.row (n + 1)) d q x r) (h2 : Reads (.loop n) d r y r') : Reads (.loop n) d (t :: q) (x ++ opP k :: y) r'
  | bare {d : Nat} {t : Tk} {q r : List Tk} {x : List Pt} (h : unOp t = none) (h1 : Reads .pri d (t :: q) x r) : Reads .una d (t :: q) x r
  | sign {d : Nat} {t : Tk} {k : Int} {q r : List Tk} {x : List Pt} (h : unOp t = some k) (hd : d < 200) (h1 : Reads .una (d + 1) q x r) : Reads .una d (t :: q) (x ++ [opP k]) r
  | num {d : Nat} {t : Tk} {q : List Tk} (h : t.kind = 2) : Reads .pri d (t :: q) [numP t.n t.ty] q
  | tru {d : Nat} {t : Tk} {q : List Tk} (h : t.kind = 1) (hs : t.s = truB) : Reads .pri d (t :: q) [numP 1 1] q
  | fal {d : Nat} {t : Tk} {q : List Tk} (h : t.kind = 1) (hs : t.s = falB) : Reads .pri d (t :: q) [numP 0 1] q
  | conv {d : Nat} {t u v : Tk} {q r : List Tk} {x : List Pt} (h : t.kind = 1) (hs : toT t.s ≠ 0) (hu : isSign [40] u = true) (hd : d < 200) (h1 : Reads (.row 0) (d + 1) q x (v :: r)) (hv : isSign [41] v = true) : Reads .pri d (t :: u :: q) (x ++ [toP (toT t.s)]) r
  | idx {d : Nat} {t u v : Tk} {q r : List Tk} {x : List Pt} (h : t.kind = 1) (hs : nameB t.s = true) (hu : isSign [91] u = true) (hd : d < 200) (h1 : Reads (.row 0) (d + 1) q x (v :: r)) (hv : isSign [93] v = true) : Reads .pri d (t :: u :: q) (x ++ [idxP t.s]) r
  | fld {d : Nat} {t u v : Tk} {r : List Tk} (h : t.kind = 1) (hs : nameB t.s = true) (hu : isSign [46] u = true) (hv : v.kind = 1) : Reads .pri d (t :: u :: v :: r) [fldP t.s v.s] r
  | var {d : Nat} {t : Tk} {r : List Tk} (h : t.kind = 1) (hs : nameB t.s = true) (hr : ∀ u q, r = u :: q → isSign [91] u = false ∧ isSign [46] u = false) : Reads .pri d (t :: r) [varP t.s] r
  | par {d : Nat} {t v : Tk} {q r : List Tk} {x : List Pt} (ht : isSign [40] t = true) (hd : d < 200) (h1 : Reads (.row 0) (d + 1) q x (v :: r)) (hv : isSign [41] v = true) : Reads .pri d (t :: q) x r
theorem within_ok {a b : Bs} {d : Nat} {l r : List Tk} {x : List Pt} {go : List Tk → Option Res} (h : within a b d l go = some (.ok (x, r))) :
    ∃ t q v, l = t :: q ∧ isSign a t = true ∧ d < 200 ∧ go q = some (.ok (x, v :: r)) ∧ isSign b v = true := by
  unfold within at h
  split at h
  · cases h
  · next t q =>
    split at h
    · next ha =>
      split at h
      · cases h
      · next hd =>
        split at h
        · cases h
        · cases h
        · next y r1 hg =>
          split at h
          · cases h
          · next u r2 =>
            split at h
            · next hb =>
              simp only [Option.some.injEq, Except.ok.injEq, Prod.mk.injEq] at h
              obtain ⟨rfl, rfl⟩ := h
              exact ⟨t, q, u, rfl, ha, by omega, hg, hb⟩
            · cases h
    · cases h
theorem addP_ok {p : Pt} {y : Option Res} {x : List Pt} {r : List Tk} (h : addP p y = some (.ok (x, r))) : ∃ x', y = some (.ok (x', r)) ∧ x = x' ++ [p] := by
  unfold addP at h
  split at h
  · simp only [Option.some.injEq, Except.ok.injEq, Prod.mk.injEq] at h
    obtain ⟨rfl, rfl⟩ := h
    exact ⟨_, rfl, rfl⟩
  · next hn => exact absurd h (hn x r)
theorem rd_reads : ∀ {f : Nat} {m : Md} {d : Nat} {l r : List Tk} {x : List Pt}, rd f m d l = some (.ok (x, r)) → Reads m d l x r
  | 0, _, _, _, _, _, h => by cases h
  | f + 1, .row n, d, l, r, x, h => by
    unfold rd at h
    split at h
    · next hn => exact .top hn (rd_reads h)
    · next hn =>
      split at h
      · next x1 r1 h1 =>
        split at h
        · next y r2 h2 =>
          simp only [Option.some.injEq, Except.ok.injEq, Prod.mk.injEq] at h
          obtain ⟨rfl, rfl⟩ := h
          exact .row (by omega) (rd_reads h1) (rd_reads h2)
        · next z hz => exact absurd h (hz x r)
      · next z hz => exact absurd h (hz x r)
  | f + 1, .loop n, d, [], r, x, h => by
    have h' : some (Except.ok (ε := Nat × Int) (([] : List Pt), ([] : List Tk))) = some (.ok (x, r)) := h
    simp only [Option.some.injEq, Except.ok.injEq, Prod.mk.injEq] at h'
    obtain ⟨rfl, rfl⟩ := h'
    exact .stop (fun t q e => by cases e)
  | f + 1, .loop n, d, t :: q, r, x, h => by
    unfold rd at h
    simp only [] at h
    split at h
    · next ho =>
      simp only [Option.some.injEq, Except.ok.injEq, Prod.mk.injEq] at h
      obtain ⟨rfl, rfl⟩ := h
      exact .stop (fun t' q' e => by injection e with e1 _; rw [← e1]; exact ho)
    · next k ho =>
      split at h
      · next x1 r1 h1 =>
        split at h
        · next y r2 h2 =>
          simp only [Option.some.injEq, Except.ok.injEq, Prod.mk.injEq] at h
          obtain ⟨rfl, rfl⟩ := h
          exact .more ho (rd_reads h1) (rd_reads h2)
        · next z hz => exact absurd h (hz x r)
      · next z hz => exact absurd h (hz x r)
  | f + 1, .una, d, [], r, x, h => by
    have h' : rd f .pri d [] = some (.ok (x, r)) := h
    cases f with
    | zero => cases h'
    | succ f => cases h'
  | f + 1, .una, d, t :: q, r, x, h => by
    unfold rd at h
    simp only [] at h
    split at h
    · next ho => exact .bare ho (rd_reads h)
    · next k ho =>
      split at h
      · cases h
      · next hd =>
        obtain ⟨x', h1, rfl⟩ := addP_ok h
        exact .sign ho (by omega) (rd_reads h1)
  | f + 1, .pri, d, [], r, x, h => by cases h
  | f + 1, .pri, d, t :: q, r, x, h => by
    unfold rd at h
    simp only [] at h
    split at h
    · next hk =>
      simp only [Option.some.injEq, Except.ok.injEq, Prod.mk.injEq] at h
      obtain ⟨rfl, rfl⟩ := h
      exact .num hk
    · split at h
      · next hk =>
        simp only [Option.some.injEq, Except.ok.injEq, Prod.mk.injEq] at h
        obtain ⟨rfl, rfl⟩ := h
        exact .tru hk.1 hk.2
      · split at h
        · next hk =>
          simp only [Option.some.injEq, Except.ok.injEq, Prod.mk.injEq] at h
          obtain ⟨rfl, rfl⟩ := h
          exact .fal hk.1 hk.2
        · split at h
          · next hk =>
            obtain ⟨x', h1, rfl⟩ := addP_ok h
            obtain ⟨u, q', v, rfl, hu, hd, hg, hv⟩ := within_ok h1
            exact .conv hk.1 hk.2 hu hd (rd_reads hg) hv
          · split at h
            · next hk =>
              unfold named at h
              split at h
              · simp only [Option.some.injEq, Except.ok.injEq, Prod.mk.injEq] at h
                obtain ⟨rfl, rfl⟩ := h
                exact .var hk.1 hk.2 (fun u q' e => by cases e)
              · next u r1 =>
                split at h
                · next hu =>
                  obtain ⟨x', h1, rfl⟩ := addP_ok h
                  obtain ⟨u', q', v, e, hu', hd, hg, hv⟩ := within_ok h1
                  injection e with e1 e2
                  subst e1 e2
                  exact .idx hk.1 hk.2 hu' hd (rd_reads hg) hv
                · next hu =>
                  split at h
                  · next hp =>
                    split at h
                    · cases h
                    · next v r2 =>
                      split at h
                      · next hv =>
                        simp only [Option.some.injEq, Except.ok.injEq, Prod.mk.injEq] at h
                        obtain ⟨rfl, rfl⟩ := h
                        exact .fld hk.1 hk.2 hp hv
                      · cases h
                  · next hp =>
                    simp only [Option.some.injEq, Except.ok.injEq, Prod.mk.injEq] at h
                    obtain ⟨rfl, rfl⟩ := h
                    refine .var hk.1 hk.2 (fun u' q' e => ?_)
                    injection e with e1 _
                    rw [← e1]
                    exact ⟨by simpa using hu, by simpa using hp⟩
            · obtain ⟨t', q', v, e, hu, hd, hg, hv⟩ := within_ok h
              injection e with e1 e2
              subst e1 e2
              exact .par hu hd (rd_reads hg) hv
/-- what is left is shorter -/
def strict : Md → Nat
  | .loop _ => 0
  | _ => 1
theorem Reads.len {m : Md} {d : Nat} {l r : List Tk} {x : List Pt} (h : Reads m d l x r) : r.length + strict m ≤ l.length := by
  induction h with
  | top _ _ ih => exact ih
  | row _ _ _ ih1 ih2 => simp only [strict] at *; omega
  | stop _ => simp [strict]
  | more _ _ _ ih1 ih2 => simp only [strict, List.length_cons] at *; omega
  | bare _ _ ih => exact ih
  | sign _ _ _ ih => simp only [strict, List.length_cons] at *; omega
  | num _ => simp [strict]
  | tru _ _ => simp [strict]
  | fal _ _ => simp [strict]
  | conv _ _ _ _ _ _ ih => simp only [strict, List.length_cons] at *; omega
  | idx _ _ _ _ _ _ ih => simp only [strict, List.length_cons] at *; omega
  | fld _ _ _ _ => simp [strict]
  | var _ _ _ => simp [strict]
  | par _ _ _ _ ih => simp only [strict, List.length_cons] at *; omega
def rank : Md → Nat
  | .pri => 0
  | .una => 1
  | .loop _ => 2
  | .row n => 3 + (7 - n)
theorem named_nt {t : Tk} (hs : nameB t.s = true) : t.s ≠ truB ∧ t.s ≠ falB ∧ toT t.s = 0 := by
  have hk : kwB.contains t.s = false := by
    unfold nameB at hs
    rw [Bool.and_eq_true] at hs
    simpa using hs.1
  have no : ∀ s, s ∈ kwB → t.s ≠ s := fun s hm e => by
    rw [e] at hk
    rw [List.contains_iff_mem.2 hm] at hk; cases hk
  refine ⟨no _ (by decide), no _ (by decide), ?_⟩
  unfold toT
  rw [if_neg (no _ (by decide)), if_neg (no _ (by decide)), if_neg (no _ (by decide))]
theorem to_nt {t : Tk} (hs : toT t.s ≠ 0) : t.s ≠ truB ∧ t.s ≠ falB := by
  refine ⟨fun e => hs ?_, fun e => hs ?_⟩ <;> rw [e] <;> decide
theorem sign_kind {s : Bs} {t : Tk} (h : isSign s t = true) : t.kind = 3 ∧ t.s = s := by
  unfold isSign at h
  rw [Bool.and_eq_true] at h
  exact ⟨of_decide_eq_true h.1, by simpa using h.2⟩
theorem within_mk {a b : Bs} {d : Nat} {t v : Tk} {q r : List Tk} {x : List Pt} {go : List Tk → Option Res} (ha : isSign a t = true) (hd : d < 200) (hg : go q = some (.ok (x, v :: r))) (hb : isSign b v = true) : within a b d (t :: q) go = some (.ok (x, r)) := by
  unfold within
  simp only []
  rw [if_pos ha, if_neg (by omega), hg]
  simp only []
  rw [if_pos hb]
theorem reads_rd {m : Md} {d : Nat} {l r : List Tk} {x : List Pt} (h : Reads m d l x r) : ∀ f, 12 * l.length + rank m < f → rd f m d l = some (.ok (x, r)) := by
  induction h with
  | top hn _ ih =>
    intro f hf
    obtain ⟨f, rfl⟩ : ∃ g, f = g + 1 := ⟨f - 1, by omega⟩
    unfold rd
    rw [if_pos hn]
    exact ih f (by simp only [rank] at *; omega)
  | row hn h1 h2 ih1 ih2 =>
    intro f hf
    obtain ⟨f, rfl⟩ : ∃ g, f = g + 1 := ⟨f - 1, by omega⟩
    have l1 := h1.len
    unfold rd
    rw [if_neg (by omega), ih1 f (by simp only [rank] at *; omega)]
    simp only []
    rw [ih2 f (by simp only [rank, strict] at *; omega)]
  | @stop n d l h =>
    intro f hf
    obtain ⟨f, rfl⟩ : ∃ g, f = g + 1 := ⟨f - 1, by omega⟩
    cases l with
    | nil => rfl
    | cons t q =>
      unfold rd
      simp only []
      rw [h t q rfl]
  | more ho h1 h2 ih1 ih2 =>
    intro f hf
    obtain ⟨f, rfl⟩ : ∃ g, f = g + 1 := ⟨f - 1, by omega⟩
    have l1 := h1.len
    simp only [List.length_cons, rank, strict] at *
    unfold rd
    simp only []
    rw [ho]
    simp only []
    rw [ih1 f (by omega)]
    simp only []
    rw [ih2 f (by omega)]
  | bare ho _ ih =>
    intro f hf
    obtain ⟨f, rfl⟩ : ∃ g, f = g + 1 := ⟨f - 1, by omega⟩
    unfold rd
    simp only []
    rw [ho]
    exact ih f (by simp only [rank] at *; omega)
  | sign ho hd _ ih =>
    intro f hf
    obtain ⟨f, rfl⟩ : ∃ g, f = g + 1 := ⟨f - 1, by omega⟩
    simp only [List.length_cons, rank] at *
    unfold rd
    simp only []
    rw [ho]
    simp only []
    rw [if_neg (by omega), ih f (by omega)]; rfl
  | num hk =>
    intro f hf
    obtain ⟨f, rfl⟩ : ∃ g, f = g + 1 := ⟨f - 1, by omega⟩
    unfold rd
    simp only []
    rw [if_pos hk]
  | tru hk hs =>
    intro f hf
    obtain ⟨f, rfl⟩ : ∃ g, f = g + 1 := ⟨f - 1, by omega⟩
    unfold rd
    simp only []
    rw [if_neg (by omega), if_pos ⟨hk, hs⟩]
  | fal hk hs =>
    intro f hf
    obtain ⟨f, rfl⟩ : ∃ g, f = g + 1 := ⟨f - 1, by omega⟩
    unfold rd
    simp only []
    rw [if_neg (by omega), if_neg (fun e => by rw [hs] at e; exact absurd e.2 (by decide)), if_pos ⟨hk, hs⟩]
  | conv hk hs hu hd h1 hv ih =>
    intro f hf
    obtain ⟨f, rfl⟩ : ∃ g, f = g + 1 := ⟨f - 1, by omega⟩
    obtain ⟨n1, n2⟩ := to_nt hs
    simp only [List.length_cons, rank] at *
    unfold rd
    simp only []
    rw [if_neg (by omega), if_neg (fun e => n1 e.2), if_neg (fun e => n2 e.2), if_pos ⟨hk, hs⟩, within_mk hu hd (ih f (by omega)) hv]; rfl
  | idx hk hs hu hd h1 hv ih =>
    intro f hf
    obtain ⟨f, rfl⟩ : ∃ g, f = g + 1 := ⟨f - 1, by omega⟩
    obtain ⟨n1, n2, n3⟩ := named_nt hs
    simp only [List.length_cons, rank] at *
    unfold rd
    simp only []
    rw [if_neg (by omega), if_neg (fun e => n1 e.2), if_neg (fun e => n2 e.2), if_neg (fun e => e.2 n3), if_pos ⟨hk, hs⟩, within_mk hu hd (ih f (by omega)) hv]
    unfold named
    simp only []
    rw [if_pos hu]; rfl
  | fld hk hs hu hv =>
    intro f hf
    obtain ⟨f, rfl⟩ : ∃ g, f = g + 1 := ⟨f - 1, by omega⟩
    obtain ⟨n1, n2, n3⟩ := named_nt hs
    have hn : ¬ isSign [91] _ = true := fun e => by have := (sign_kind e).2; rw [(sign_kind hu).2] at this; exact absurd this (by decide)
    unfold rd
    simp only []
    rw [if_neg (by omega), if_neg (fun e => n1 e.2), if_neg (fun e => n2 e.2), if_neg (fun e => e.2 n3), if_pos ⟨hk, hs⟩]
    unfold named
    simp only []
    rw [if_neg hn, if_pos hu, if_pos hv]
  | @var d t r hk hs hr =>
    intro f hf
    obtain ⟨f, rfl⟩ : ∃ g, f = g + 1 := ⟨f - 1, by omega⟩
    obtain ⟨n1, n2, n3⟩ := named_nt hs
    unfold rd
    simp only []
    rw [if_neg (by omega), if_neg (fun e => n1 e.2), if_neg (fun e => n2 e.2), if_neg (fun e => e.2 n3), if_pos ⟨hk, hs⟩]
    unfold named
    cases r with
    | nil => rfl
    | cons u q =>
      obtain ⟨a, b⟩ := hr u q rfl
      simp only []
      rw [a, b]; rfl
  | par ht hd h1 hv ih =>
    intro f hf
    obtain ⟨f, rfl⟩ : ∃ g, f = g + 1 := ⟨f - 1, by omega⟩
    have hk := (sign_kind ht).1
    simp only [List.length_cons, rank] at *
    unfold rd
    simp only []
    rw [if_neg (by omega), if_neg (fun e => by omega), if_neg (fun e => by omega), if_neg (fun e => by omega), if_neg (fun e => by omega)]
    exact within_mk ht hd (ih f (by omega)) hv
/-- reading ends -/
theorem rd_ends : ∀ (f : Nat) (m : Md) (d : Nat) (l : List Tk), 12 * l.length + rank m < f → rd f m d l ≠ none
  | 0, _, _, _, h => absurd h (by omega)
  | f + 1, .row n, d, l, h => by
    simp only [rank] at h
    unfold rd
    split
    · exact rd_ends f .una d l (by simp only [rank]; omega)
    · next hn =>
      have e1 := rd_ends f (.row (n + 1)) d l (by simp only [rank]; omega)
      split
      · next x r h1 =>
        have l1 := (rd_reads h1).len
        simp only [strict] at l1
        have e2 := rd_ends f (.loop n) d r (by simp only [rank]; omega)
        split
        · exact fun e => by cases e
        · exact e2
      · exact e1
  | f + 1, .loop n, d, [], h => fun e => by cases e
  | f + 1, .loop n, d, t :: q, h => by
    simp only [rank, List.length_cons] at h
    unfold rd
    simp only []
    split
    · exact fun e => by cases e
    · have e1 := rd_ends f (.row (n + 1)) d q (by simp only [rank]; omega)
      split
      · next x r h1 =>
        have l1 := (rd_reads h1).len
        simp only [strict] at l1
        have e2 := rd_ends f (.loop n) d r (by simp only [rank]; omega)
        split
        · exact fun e => by cases e
        · exact e2
      · exact e1
  | f + 1, .una, d, [], h => rd_ends f .pri d [] (by simp only [rank, List.length_nil] at *; omega)
  | f + 1, .una, d, t :: q, h => by
    simp only [rank, List.length_cons] at h
    unfold rd
    simp only []
    split
    · exact rd_ends f .pri d (t :: q) (by simp only [rank, List.length_cons]; omega)
    · split
      · exact fun e => by cases e
      · have e1 := rd_ends f .una (d + 1) q (by simp only [rank]; omega)
        unfold addP
        split
        · exact fun e => by cases e
        · exact e1
  | f + 1, .pri, d, [], h => fun e => by cases e
  | f + 1, .pri, d, t :: q, h => by
    simp only [rank, List.length_cons] at h
    have wi : ∀ (a b : Bs) (l : List Tk), l.length ≤ q.length + 1 → within a b d l (rd f (.row 0) (d + 1)) ≠ none := fun a b l hl => by
      unfold within
      split
      · exact fun e => by cases e
      · next u l' =>
        simp only [List.length_cons] at hl
        have e1 := rd_ends f (.row 0) (d + 1) l' (by simp only [rank]; omega)
        split
        · split
          · exact fun e => by cases e
          · split
            · next hn => exact absurd hn e1
            · exact fun e => by cases e
            · split
              · exact fun e => by cases e
              · split <;> exact fun e => by cases e
        · exact fun e => by cases e
    have ad : ∀ (p : Pt) (y : Option Res), y ≠ none → addP p y ≠ none := fun p y hy => by
      unfold addP
      split
      · exact fun e => by cases e
      · exact hy
    unfold rd
    simp only []
    split
    · exact fun e => by cases e
    · split
      · exact fun e => by cases e
      · split
        · exact fun e => by cases e
        · split
          · exact ad _ _ (wi _ _ q (by omega))
          · split
            · unfold named
              split
              · exact fun e => by cases e
              · split
                · exact ad _ _ (wi _ _ _ (by simp))
                · split
                  · split
                    · exact fun e => by cases e
                    · split <;> exact fun e => by cases e
                  · exact fun e => by cases e
            · exact wi _ _ (t :: q) (by simp)
/-- a token that goes on with nothing -/
def stops (r : List Tk) : Prop := ∀ t q, r = t :: q → (∀ n, opIn n t = none) ∧ isSign [91] t = false ∧ isSign [46] t = false
/-- what stands behind does not matter, but for its first token -/
theorem Reads.swap {m : Md} {d : Nat} {l r : List Tk} {x : List Pt} (h : Reads m d l x r) : ∃ p, l = p ++ r ∧ ∀ s, (s.head? = r.head? ∨ stops s) → Reads m d (p ++ s) x s := by
  induction h with
  | top hn _ ih =>
    obtain ⟨p, e, k⟩ := ih
    exact ⟨p, e, fun s hs => .top hn (k s hs)⟩
  | @row n d l r r' x y hn h1 h2 ih1 ih2 =>
    obtain ⟨p, e1, k1⟩ := ih1
    obtain ⟨q, e2, k2⟩ := ih2
    refine ⟨p ++ q, by rw [e1, e2, List.append_assoc], fun s hs => ?_⟩
    rw [List.append_assoc]
    refine .row hn (k1 (q ++ s) ?_) (k2 s hs)
    cases q with
    | nil =>
      have er : r = r' := e2
      rw [er]; exact hs
    | cons a q' => left; rw [e2]; rfl
  | @stop n d l h =>
    refine ⟨[], rfl, fun s hs => .stop (fun t q e => ?_)⟩
    have e : s = t :: q := e
    rcases hs with hs | hs
    · rw [e] at hs
      cases l with
      | nil => cases hs
      | cons t' q' =>
        have : t = t' := Option.some.inj hs
        rw [this]; exact h t' q' rfl
    · exact (hs t q e).1 n
  | @more n d t k q r r' x y ho h1 h2 ih1 ih2 =>
    obtain ⟨p, e1, k1⟩ := ih1
    obtain ⟨p2, e2, k2⟩ := ih2
    refine ⟨t :: (p ++ p2), by rw [e1, e2, List.cons_append, List.append_assoc], fun s hs => ?_⟩
    rw [List.cons_append, List.append_assoc]
    refine .more ho (k1 (p2 ++ s) ?_) (k2 s hs)
    cases p2 with
    | nil =>
      have er : r = r' := e2
      rw [er]; exact hs
    | cons a q' => left; rw [e2]; rfl
  | @bare d t q r x ho h1 ih =>
    obtain ⟨p, e, k⟩ := ih
    cases p with
    | nil =>
      have l1 := h1.len
      have : t :: q = r := e
      rw [this] at l1
      simp only [strict] at l1; omega
    | cons a p' =>
      have e' : t :: q = a :: (p' ++ r) := e
      injection e' with e1 e2
      subst e1
      exact ⟨t :: p', by rw [e2]; rfl, fun s hs => .bare ho (k s hs)⟩
  | @sign d t k q r x ho hd h1 ih =>
    obtain ⟨p, e, g⟩ := ih
    exact ⟨t :: p, by rw [e]; rfl, fun s hs => .sign ho hd (g s hs)⟩
  | @num d t q hk => exact ⟨[t], rfl, fun s _ => .num hk⟩
  | @tru d t q hk hs => exact ⟨[t], rfl, fun s _ => .tru hk hs⟩
  | @fal d t q hk hs => exact ⟨[t], rfl, fun s _ => .fal hk hs⟩
  | @conv d t u v q r x hk hs hu hd h1 hv ih =>
    obtain ⟨p, e, k⟩ := ih
    refine ⟨t :: u :: (p ++ [v]), by rw [e]; simp, fun s _ => ?_⟩
    have := k (v :: s) (.inl rfl)
    have e2 : (t :: u :: (p ++ [v])) ++ s = t :: u :: (p ++ v :: s) := by simp
    rw [e2]
    exact .conv hk hs hu hd this hv
  | @idx d t u v q r x hk hs hu hd h1 hv ih =>
    obtain ⟨p, e, k⟩ := ih
    refine ⟨t :: u :: (p ++ [v]), by rw [e]; simp, fun s _ => ?_⟩
    have := k (v :: s) (.inl rfl)
    have e2 : (t :: u :: (p ++ [v])) ++ s = t :: u :: (p ++ v :: s) := by simp
    rw [e2]
    exact .idx hk hs hu hd this hv
  | @fld d t u v r hk hs hu hv => exact ⟨[t, u, v], rfl, fun s _ => .fld hk hs hu hv⟩
  | @var d t r hk hs hr =>
    refine ⟨[t], rfl, fun s h => .var hk hs (fun u q e => ?_)⟩
    have e : s = u :: q := e
    rcases h with h | h
    · rw [e] at h
      cases r with
      | nil => cases h
      | cons u' q' =>
        have : u = u' := Option.some.inj h
        rw [this]; exact hr u' q' rfl
    · exact (h u q e).2
  | @par d t v q r x ht hd h1 hv ih =>
    obtain ⟨p, e, k⟩ := ih
    refine ⟨t :: (p ++ [v]), by rw [e]; simp, fun s _ => ?_⟩
    have := k (v :: s) (.inl rfl)
    have e2 : (t :: (p ++ [v])) ++ s = t :: (p ++ v :: s) := by simp
    rw [e2]
    exact .par ht hd this hv
end Go.Proofs.YtldjiieckddhkaaGreatDoor
