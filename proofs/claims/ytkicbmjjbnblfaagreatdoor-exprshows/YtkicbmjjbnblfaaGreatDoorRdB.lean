/- What is read, as a relation; that reading ends; and that what stands behind does not matter. | Parts as trees; what they are shown as, and that this is read as just they. | Parts that may be are a tree; shown parts are read as just these; an expression is read as far as it goes; names, rising. -/
import Derived.Test.YtkicbmjjbnblfaaGreatDoorLexB
namespace Go.Proofs.YtkicbmjjbnblfaaGreatDoor
inductive Reads : Md → Nat → List Tk → List Pt → List Tk → Prop
  | top {n d : Nat} {l r : List Tk} {x : List Pt} (h : 7 ≤ n) (h1 : Reads .una d l x r) : Reads (.row n) d l x r
  | row {n d : Nat} {l r r' : List Tk} {x y : List Pt} (h : n < 7) (h1 : Reads (.row (n + 1)) d l x r) (h2 : Reads (.loop n) d r y r') : Reads (.row n) d l (x ++ y) r'
  | stop {n d : Nat} {l : List Tk} (h : ∀ t q, l = t :: q → opIn n t = none) : Reads (.loop n) d l [] l
  | more {n d : Nat} {t : Tk} {k : Int} {q r r' : List Tk} {x y : List Pt} (h : opIn n t = some k) (h1 : Reads (.row (n + 1)) d q x r) (h2 : Reads (.loop n) d r y r') : Reads (.loop n) d (t :: q) (x ++ opP k :: y) r'
  | bare {d : Nat} {t : Tk} {q r : List Tk} {x : List Pt} (h : unOp t = none) (h1 : Reads .pri d (t :: q) x r) : Reads .una d (t :: q) x r
  | sign {d : Nat} {t : Tk} {k : Int} {q r : List Tk} {x : List Pt} (h : unOp t = some k) (hd : d < 200) (h1 : Reads .una (d + 1) q x r) : Reads .una d (t :: q) (x ++ [opP k]) r
  | num {d : Nat} {t : Tk} {q : List Tk} (h : t.kind = 2) : Reads .pri d (t :: q) [numP t.n t.ty] q
  | tru {d : Nat} {t : Tk} {q : List Tk} (h : t.kind = 1) (hs : t.s = truB) : Reads .pri d (t :: q) [numP 1 1] q
  | fal {d : Nat} {t : Tk} {q : List Tk} (h : t.kind = 1) (hs : t.s = falB) : Reads .pri d (t :: q) [numP 0 1] q
  | conv {d : Nat} {t u v : Tk} {q r : List Tk} {x : List Pt} (h : t.kind = 1) (hs : toT t.s ≠ 0) (hu : isSign [40] u = true) (hd : d < 200) (h1 : Reads (.row 0) (d + 1) q x (v :: r)) (hv : isSign [41] v = true) : Reads .pri d (t :: u :: q) (x ++ [toP (toT t.s)]) r
  | idx {d : Nat} {t u v : Tk} {q r : List Tk} {x : List Pt} (h : t.kind = 1) (hs : nameB t.s = true) (hu : isSign [91] u = true) (hd : d < 200) (h1 : Reads (.row 0) (d + 1) q x (v :: r)) (hv : isSign [93] v = true) : Reads .pri d (t :: u :: q) (x ++ [idxP t.s]) r
  | fld {d : Nat} {t u v : Tk} {r : List Tk} (h : t.kind = 1) (hs : nameB t.s = true) (hu : isSign [46] u = true) (hv : v.kind = 1) : Reads .pri d (t :: u :: v :: r) [fldP t.s v.s] r
  | var {d : Nat} {t : Tk} {r : List Tk} (h : t.kind = 1) (hs : nameB t.s = true) (hr : ∀ u q, r = u :: q → isSign [91] u = false ∧ isSign [46] u = false) : Reads .pri d (t :: r) [varP t.s] r
  | par {d : Nat} {t v : Tk} {q r : List Tk} {x : List Pt} (ht : isSign [40] t = true) (hd : d < 200) (h1 : Reads (.row 0) (d + 1) q x (v :: r)) (hv : isSign [41] v = true) : Reads .pri d (t :: q) x r
theorem within_ok {a b : Bs} {d : Nat} {l r : List Tk} {x : List Pt} {go : List Tk → Option Res} (h : within a b d l go = some (.ok (x, r))) :
    ∃ t q v, l = t :: q ∧ isSign a t = true ∧ d < 200 ∧ go q = some (.ok (x, v :: r)) ∧ isSign b v = true := by
  unfold within at h
  split at h
  · cases h
  · next t q =>
    split at h
    · next ha =>
      split at h
      · cases h
      · next hd =>
        split at h
        · cases h
        · cases h
        · next y r1 hg =>
          split at h
          · cases h
          · next u r2 =>
            split at h
            · next hb =>
              simp only [Option.some.injEq, Except.ok.injEq, Prod.mk.injEq] at h
              obtain ⟨rfl, rfl⟩ := h
              exact ⟨t, q, u, rfl, ha, by omega, hg, hb⟩
            · cases h
    · cases h
theorem addP_ok {p : Pt} {y : Option Res} {x : List Pt} {r : List Tk} (h : addP p y = some (.ok (x, r))) : ∃ x', y = some (.ok (x', r)) ∧ x = x' ++ [p] := by
  unfold addP at h
  split at h
  · simp only [Option.some.injEq, Except.ok.injEq, Prod.mk.injEq] at h
    obtain ⟨rfl, rfl⟩ := h
    exact ⟨_, rfl, rfl⟩
  · next hn => exact absurd h (hn x r)
theorem rd_reads : ∀ {f : Nat} {m : Md} {d : Nat} {l r : List Tk} {x : List Pt}, rd f m d l = some (.ok (x, r)) → Reads m d l x r
  | 0, _, _, _, _, _, h => by cases h
  | f + 1, .row n, d, l, r, x, h => by
    unfold rd at h
    split at h
    · next hn => exact .top hn (rd_reads h)
    · next hn =>
      split at h
      · next x1 r1 h1 =>
        split at h
        · next y r2 h2 =>
          simp only [Option.some.injEq, Except.ok.injEq, Prod.mk.injEq] at h
          obtain ⟨rfl, rfl⟩ := h
          exact .row (by omega) (rd_reads h1) (rd_reads h2)
        · next z hz => exact absurd h (hz x r)
      · next z hz => exact absurd h (hz x r)
  | f + 1, .loop n, d, [], r, x, h => by
    have h' : some (Except.ok (ε := Nat × Int) (([] : List Pt), ([] : List Tk))) = some (.ok (x, r)) := h
    simp only [Option.some.injEq, Except.ok.injEq, Prod.mk.injEq] at h'
    obtain ⟨rfl, rfl⟩ := h'
    exact .stop (fun t q e => by cases e)
  | f + 1, .loop n, d, t :: q, r, x, h => by
    unfold rd at h
    simp only [] at h
    split at h
    · next ho =>
      simp only [Option.some.injEq, Except.ok.injEq, Prod.mk.injEq] at h
      obtain ⟨rfl, rfl⟩ := h
      exact .stop (fun t' q' e => by injection e with e1 _; rw [← e1]; exact ho)
    · next k ho =>
      split at h
      · next x1 r1 h1 =>
        split at h
        · next y r2 h2 =>
          simp only [Option.some.injEq, Except.ok.injEq, Prod.mk.injEq] at h
          obtain ⟨rfl, rfl⟩ := h
          exact .more ho (rd_reads h1) (rd_reads h2)
        · next z hz => exact absurd h (hz x r)
      · next z hz => exact absurd h (hz x r)
  | f + 1, .una, d, [], r, x, h => by
    have h' : rd f .pri d [] = some (.ok (x, r)) := h
    cases f with
    | zero => cases h'
    | succ f => cases h'
  | f + 1, .una, d, t :: q, r, x, h => by
    unfold rd at h
    simp only [] at h
    split at h
    · next ho => exact .bare ho (rd_reads h)
    · next k ho =>
      split at h
      · cases h
      · next hd =>
        obtain ⟨x', h1, rfl⟩ := addP_ok h
        exact .sign ho (by omega) (rd_reads h1)
  | f + 1, .pri, d, [], r, x, h => by cases h
  | f + 1, .pri, d, t :: q, r, x, h => by
    unfold rd at h
    simp only [] at h
    split at h
    · next hk =>
      simp only [Option.some.injEq, Except.ok.injEq, Prod.mk.injEq] at h
      obtain ⟨rfl, rfl⟩ := h
      exact .num hk
    · split at h
      · next hk =>
        simp only [Option.some.injEq, Except.ok.injEq, Prod.mk.injEq] at h
        obtain ⟨rfl, rfl⟩ := h
        exact .tru hk.1 hk.2
      · split at h
        · next hk =>
          simp only [Option.some.injEq, Except.ok.injEq, Prod.mk.injEq] at h
          obtain ⟨rfl, rfl⟩ := h
          exact .fal hk.1 hk.2
        · split at h
          · next hk =>
            obtain ⟨x', h1, rfl⟩ := addP_ok h
            obtain ⟨u, q', v, rfl, hu, hd, hg, hv⟩ := within_ok h1
            exact .conv hk.1 hk.2 hu hd (rd_reads hg) hv
          · split at h
            · next hk =>
              unfold named at h
              split at h
              · simp only [Option.some.injEq, Except.ok.injEq, Prod.mk.injEq] at h
                obtain ⟨rfl, rfl⟩ := h
                exact .var hk.1 hk.2 (fun u q' e => by cases e)
              · next u r1 =>
                split at h
                · next hu =>
                  obtain ⟨x', h1, rfl⟩ := addP_ok h
                  obtain ⟨u', q', v, e, hu', hd, hg, hv⟩ := within_ok h1
                  injection e with e1 e2
                  subst e1 e2
                  exact .idx hk.1 hk.2 hu' hd (rd_reads hg) hv
                · next hu =>
                  split at h
                  · next hp =>
                    split at h
                    · cases h
                    · next v r2 =>
                      split at h
                      · next hv =>
                        simp only [Option.some.injEq, Except.ok.injEq, Prod.mk.injEq] at h
                        obtain ⟨rfl, rfl⟩ := h
                        exact .fld hk.1 hk.2 hp hv
                      · cases h
                  · next hp =>
                    simp only [Option.some.injEq, Except.ok.injEq, Prod.mk.injEq] at h
                    obtain ⟨rfl, rfl⟩ := h
                    refine .var hk.1 hk.2 (fun u' q' e => ?_)
                    injection e with e1 _
                    rw [← e1]
                    exact ⟨by simpa using hu, by simpa using hp⟩
            · obtain ⟨t', q', v, e, hu, hd, hg, hv⟩ := within_ok h
              injection e with e1 e2
              subst e1 e2
              exact .par hu hd (rd_reads hg) hv
/-- what is left is shorter -/
def strict : Md → Nat
  | .loop _ => 0
  | _ => 1
theorem Reads.len {m : Md} {d : Nat} {l r : List Tk} {x : List Pt} (h : Reads m d l x r) : r.length + strict m ≤ l.length := by
  induction h with
  | top _ _ ih => exact ih
  | row _ _ _ ih1 ih2 => simp only [strict] at *; omega
  | stop _ => simp [strict]
  | more _ _ _ ih1 ih2 => simp only [strict, List.length_cons] at *; omega
  | bare _ _ ih => exact ih
  | sign _ _ _ ih => simp only [strict, List.length_cons] at *; omega
  | num _ => simp [strict]
  | tru _ _ => simp [strict]
  | fal _ _ => simp [strict]
  | conv _ _ _ _ _ _ ih => simp only [strict, List.length_cons] at *; omega
  | idx _ _ _ _ _ _ ih => simp only [strict, List.length_cons] at *; omega
  | fld _ _ _ _ => simp [strict]
  | var _ _ _ => simp [strict]
  | par _ _ _ _ ih => simp only [strict, List.length_cons] at *; omega
def rank : Md → Nat
  | .pri => 0
  | .una => 1
  | .loop _ => 2
  | .row n => 3 + (7 - n)
theorem named_nt {t : Tk} (hs : nameB t.s = true) : t.s ≠ truB ∧ t.s ≠ falB ∧ toT t.s = 0 := by
  have hk : kwB.contains t.s = false := by
    unfold nameB at hs
    rw [Bool.and_eq_true] at hs
    simpa using hs.1
  have no : ∀ s, s ∈ kwB → t.s ≠ s := fun s hm e => by
    rw [e] at hk
    rw [List.contains_iff_mem.2 hm] at hk; cases hk
  refine ⟨no _ (by decide), no _ (by decide), ?_⟩
  unfold toT
  rw [if_neg (no _ (by decide)), if_neg (no _ (by decide)), if_neg (no _ (by decide))]
theorem to_nt {t : Tk} (hs : toT t.s ≠ 0) : t.s ≠ truB ∧ t.s ≠ falB := by
  refine ⟨fun e => hs ?_, fun e => hs ?_⟩ <;> rw [e] <;> decide
theorem sign_kind {s : Bs} {t : Tk} (h : isSign s t = true) : t.kind = 3 ∧ t.s = s := by
  unfold isSign at h
  rw [Bool.and_eq_true] at h
  exact ⟨of_decide_eq_true h.1, by simpa using h.2⟩
theorem within_mk {a b : Bs} {d : Nat} {t v : Tk} {q r : List Tk} {x : List Pt} {go : List Tk → Option Res} (ha : isSign a t = true) (hd : d < 200) (hg : go q = some (.ok (x, v :: r))) (hb : isSign b v = true) : within a b d (t :: q) go = some (.ok (x, r)) := by
  unfold within
  simp only []
  rw [if_pos ha, if_neg (by omega), hg]
  simp only []
  rw [if_pos hb]
theorem reads_rd {m : Md} {d : Nat} {l r : List Tk} {x : List Pt} (h : Reads m d l x r) : ∀ f, 12 * l.length + rank m < f → rd f m d l = some (.ok (x, r)) := by
  induction h with
  | top hn _ ih =>
    intro f hf
    obtain ⟨f, rfl⟩ : ∃ g, f = g + 1 := ⟨f - 1, by omega⟩
    unfold rd
    rw [if_pos hn]
    exact ih f (by simp only [rank] at *; omega)
  | row hn h1 h2 ih1 ih2 =>
    intro f hf
    obtain ⟨f, rfl⟩ : ∃ g, f = g + 1 := ⟨f - 1, by omega⟩
    have l1 := h1.len
    unfold rd
    rw [if_neg (by omega), ih1 f (by simp only [rank] at *; omega)]
    simp only []
    rw [ih2 f (by simp only [rank, strict] at *; omega)]
  | @stop n d l h =>
    intro f hf
    obtain ⟨f, rfl⟩ : ∃ g, f = g + 1 := ⟨f - 1, by omega⟩
    cases l with
    | nil => rfl
    | cons t q =>
      unfold rd
      simp only []
      rw [h t q rfl]
  | more ho h1 h2 ih1 ih2 =>
    intro f hf
    obtain ⟨f, rfl⟩ : ∃ g, f = g + 1 := ⟨f - 1, by omega⟩
    have l1 := h1.len
    simp only [List.length_cons, rank, strict] at *
    unfold rd
    simp only []
    rw [ho]
    simp only []
    rw [ih1 f (by omega)]
    simp only []
    rw [ih2 f (by omega)]
  | bare ho _ ih =>
    intro f hf
    obtain ⟨f, rfl⟩ : ∃ g, f = g + 1 := ⟨f - 1, by omega⟩
    unfold rd
    simp only []
    rw [ho]
    exact ih f (by simp only [rank] at *; omega)
  | sign ho hd _ ih =>
    intro f hf
    obtain ⟨f, rfl⟩ : ∃ g, f = g + 1 := ⟨f - 1, by omega⟩
    simp only [List.length_cons, rank] at *
    unfold rd
    simp only []
    rw [ho]
    simp only []
    rw [if_neg (by omega), ih f (by omega)]; rfl
  | num hk =>
    intro f hf
    obtain ⟨f, rfl⟩ : ∃ g, f = g + 1 := ⟨f - 1, by omega⟩
    unfold rd
    simp only []
    rw [if_pos hk]
  | tru hk hs =>
    intro f hf
    obtain ⟨f, rfl⟩ : ∃ g, f = g + 1 := ⟨f - 1, by omega⟩
    unfold rd
    simp only []
    rw [if_neg (by omega), if_pos ⟨hk, hs⟩]
  | fal hk hs =>
    intro f hf
    obtain ⟨f, rfl⟩ : ∃ g, f = g + 1 := ⟨f - 1, by omega⟩
    unfold rd
    simp only []
    rw [if_neg (by omega), if_neg (fun e => by rw [hs] at e; exact absurd e.2 (by decide)), if_pos ⟨hk, hs⟩]
  | conv hk hs hu hd h1 hv ih =>
    intro f hf
    obtain ⟨f, rfl⟩ : ∃ g, f = g + 1 := ⟨f - 1, by omega⟩
    obtain ⟨n1, n2⟩ := to_nt hs
    simp only [List.length_cons, rank] at *
    unfold rd
    simp only []
    rw [if_neg (by omega), if_neg (fun e => n1 e.2), if_neg (fun e => n2 e.2), if_pos ⟨hk, hs⟩, within_mk hu hd (ih f (by omega)) hv]; rfl
  | idx hk hs hu hd h1 hv ih =>
    intro f hf
    obtain ⟨f, rfl⟩ : ∃ g, f = g + 1 := ⟨f - 1, by omega⟩
    obtain ⟨n1, n2, n3⟩ := named_nt hs
    simp only [List.length_cons, rank] at *
    unfold rd
    simp only []
    rw [if_neg (by omega), if_neg (fun e => n1 e.2), if_neg (fun e => n2 e.2), if_neg (fun e => e.2 n3), if_pos ⟨hk, hs⟩, within_mk hu hd (ih f (by omega)) hv]
    unfold named
    simp only []
    rw [if_pos hu]; rfl
  | fld hk hs hu hv =>
    intro f hf
    obtain ⟨f, rfl⟩ : ∃ g, f = g + 1 := ⟨f - 1, by omega⟩
    obtain ⟨n1, n2, n3⟩ := named_nt hs
    have hn : ¬ isSign [91] _ = true := fun e => by have := (sign_kind e).2; rw [(sign_kind hu).2] at this; exact absurd this (by decide)
    unfold rd
    simp only []
    rw [if_neg (by omega), if_neg (fun e => n1 e.2), if_neg (fun e => n2 e.2), if_neg (fun e => e.2 n3), if_pos ⟨hk, hs⟩]
    unfold named
    simp only []
    rw [if_neg hn, if_pos hu, if_pos hv]
  | @var d t r hk hs hr =>
    intro f hf
    obtain ⟨f, rfl⟩ : ∃ g, f = g + 1 := ⟨f - 1, by omega⟩
    obtain ⟨n1, n2, n3⟩ := named_nt hs
    unfold rd
    simp only []
    rw [if_neg (by omega), if_neg (fun e => n1 e.2), if_neg (fun e => n2 e.2), if_neg (fun e => e.2 n3), if_pos ⟨hk, hs⟩]
    unfold named
    cases r with
    | nil => rfl
    | cons u q =>
      obtain ⟨a, b⟩ := hr u q rfl
      simp only []
      rw [a, b]; rfl
  | par ht hd h1 hv ih =>
    intro f hf
    obtain ⟨f, rfl⟩ : ∃ g, f = g + 1 := ⟨f - 1, by omega⟩
    have hk := (sign_kind ht).1
    simp only [List.length_cons, rank] at *
    unfold rd
    simp only []
    rw [if_neg (by omega), if_neg (fun e => by omega), if_neg (fun e => by omega), if_neg (fun e => by omega), if_neg (fun e => by omega)]
    exact within_mk ht hd (ih f (by omega)) hv
/-- reading ends -/
theorem rd_ends : ∀ (f : Nat) (m : Md) (d : Nat) (l : List Tk), 12 * l.length + rank m < f → rd f m d l ≠ none
  | 0, _, _, _, h => absurd h (by omega)
  | f + 1, .row n, d, l, h => by
    simp only [rank] at h
    unfold rd
    split
    · exact rd_ends f .una d l (by simp only [rank]; omega)
    · next hn =>
      have e1 := rd_ends f (.row (n + 1)) d l (by simp only [rank]; omega)
      split
      · next x r h1 =>
        have l1 := (rd_reads h1).len
        simp only [strict] at l1
        have e2 := rd_ends f (.loop n) d r (by simp only [rank]; omega)
        split
        · exact fun e => by cases e
        · exact e2
      · exact e1
  | f + 1, .loop n, d, [], h => fun e => by cases e
  | f + 1, .loop n, d, t :: q, h => by
    simp only [rank, List.length_cons] at h
    unfold rd
    simp only []
    split
    · exact fun e => by cases e
    · have e1 := rd_ends f (.row (n + 1)) d q (by simp only [rank]; omega)
      split
      · next x r h1 =>
        have l1 := (rd_reads h1).len
        simp only [strict] at l1
        have e2 := rd_ends f (.loop n) d r (by simp only [rank]; omega)
        split
        · exact fun e => by cases e
        · exact e2
      · exact e1
  | f + 1, .una, d, [], h => rd_ends f .pri d [] (by simp only [rank, List.length_nil] at *; omega)
  | f + 1, .una, d, t :: q, h => by
    simp only [rank, List.length_cons] at h
    unfold rd
    simp only []
    split
    · exact rd_ends f .pri d (t :: q) (by simp only [rank, List.length_cons]; omega)
    · split
      · exact fun e => by cases e
      · have e1 := rd_ends f .una (d + 1) q (by simp only [rank]; omega)
        unfold addP
        split
        · exact fun e => by cases e
        · exact e1
  | f + 1, .pri, d, [], h => fun e => by cases e
  | f + 1, .pri, d, t :: q, h => by
    simp only [rank, List.length_cons] at h
    have wi : ∀ (a b : Bs) (l : List Tk), l.length ≤ q.length + 1 → within a b d l (rd f (.row 0) (d + 1)) ≠ none := fun a b l hl => by
      unfold within
      split
      · exact fun e => by cases e
      · next u l' =>
        simp only [List.length_cons] at hl
        have e1 := rd_ends f (.row 0) (d + 1) l' (by simp only [rank]; omega)
        split
        · split
          · exact fun e => by cases e
          · split
            · next hn => exact absurd hn e1
            · exact fun e => by cases e
            · split
              · exact fun e => by cases e
              · split <;> exact fun e => by cases e
        · exact fun e => by cases e
    have ad : ∀ (p : Pt) (y : Option Res), y ≠ none → addP p y ≠ none := fun p y hy => by
      unfold addP
      split
      · exact fun e => by cases e
      · exact hy
    unfold rd
    simp only []
    split
    · exact fun e => by cases e
    · split
      · exact fun e => by cases e
      · split
        · exact fun e => by cases e
        · split
          · exact ad _ _ (wi _ _ q (by omega))
          · split
            · unfold named
              split
              · exact fun e => by cases e
              · split
                · exact ad _ _ (wi _ _ _ (by simp))
                · split
                  · split
                    · exact fun e => by cases e
                    · split <;> exact fun e => by cases e
                  · exact fun e => by cases e
            · exact wi _ _ (t :: q) (by simp)
/-- a token that goes on with nothing -/
def stops (r : List Tk) : Prop := ∀ t q, r = t :: q → (∀ n, opIn n t = none) ∧ isSign [91] t = false ∧ isSign [46] t = false
/-- what stands behind does not matter, but for its first token -/
theorem Reads.swap {m : Md} {d : Nat} {l r : List Tk} {x : List Pt} (h : Reads m d l x r) : ∃ p, l = p ++ r ∧ ∀ s, (s.head? = r.head? ∨ stops s) → Reads m d (p ++ s) x s := by
  induction h with
  | top hn _ ih =>
    obtain ⟨p, e, k⟩ := ih
    exact ⟨p, e, fun s hs => .top hn (k s hs)⟩
  | @row n d l r r' x y hn h1 h2 ih1 ih2 =>
    obtain ⟨p, e1, k1⟩ := ih1
    obtain ⟨q, e2, k2⟩ := ih2
    refine ⟨p ++ q, by rw [e1, e2, List.append_assoc], fun s hs => ?_⟩
    rw [List.append_assoc]
    refine .row hn (k1 (q ++ s) ?_) (k2 s hs)
    cases q with
    | nil =>
      have er : r = r' := e2
      rw [er]; exact hs
    | cons a q' => left; rw [e2]; rfl
  | @stop n d l h =>
    refine ⟨[], rfl, fun s hs => .stop (fun t q e => ?_)⟩
    have e : s = t :: q := e
    rcases hs with hs | hs
    · rw [e] at hs
      cases l with
      | nil => cases hs
      | cons t' q' =>
        have : t = t' := Option.some.inj hs
        rw [this]; exact h t' q' rfl
    · exact (hs t q e).1 n
  | @more n d t k q r r' x y ho h1 h2 ih1 ih2 =>
    obtain ⟨p, e1, k1⟩ := ih1
    obtain ⟨p2, e2, k2⟩ := ih2
    refine ⟨t :: (p ++ p2), by rw [e1, e2, List.cons_append, List.append_assoc], fun s hs => ?_⟩
    rw [List.cons_append, List.append_assoc]
    refine .more ho (k1 (p2 ++ s) ?_) (k2 s hs)
    cases p2 with
    | nil =>
      have er : r = r' := e2
      rw [er]; exact hs
    | cons a q' => left; rw [e2]; rfl
  | @bare d t q r x ho h1 ih =>
    obtain ⟨p, e, k⟩ := ih
    cases p with
    | nil =>
      have l1 := h1.len
      have : t :: q = r := e
      rw [this] at l1
      simp only [strict] at l1; omega
    | cons a p' =>
      have e' : t :: q = a :: (p' ++ r) := e
      injection e' with e1 e2
      subst e1
      exact ⟨t :: p', by rw [e2]; rfl, fun s hs => .bare ho (k s hs)⟩
  | @sign d t k q r x ho hd h1 ih =>
    obtain ⟨p, e, g⟩ := ih
    exact ⟨t :: p, by rw [e]; rfl, fun s hs => .sign ho hd (g s hs)⟩
  | @num d t q hk => exact ⟨[t], rfl, fun s _ => .num hk⟩
  | @tru d t q hk hs => exact ⟨[t], rfl, fun s _ => .tru hk hs⟩
  | @fal d t q hk hs => exact ⟨[t], rfl, fun s _ => .fal hk hs⟩
  | @conv d t u v q r x hk hs hu hd h1 hv ih =>
    obtain ⟨p, e, k⟩ := ih
    refine ⟨t :: u :: (p ++ [v]), by rw [e]; simp, fun s _ => ?_⟩
    have := k (v :: s) (.inl rfl)
    have e2 : (t :: u :: (p ++ [v])) ++ s = t :: u :: (p ++ v :: s) := by simp
    rw [e2]
    exact .conv hk hs hu hd this hv
  | @idx d t u v q r x hk hs hu hd h1 hv ih =>
    obtain ⟨p, e, k⟩ := ih
    refine ⟨t :: u :: (p ++ [v]), by rw [e]; simp, fun s _ => ?_⟩
    have := k (v :: s) (.inl rfl)
    have e2 : (t :: u :: (p ++ [v])) ++ s = t :: u :: (p ++ v :: s) := by simp
    rw [e2]
    exact .idx hk hs hu hd this hv
  | @fld d t u v r hk hs hu hv => exact ⟨[t, u, v], rfl, fun s _ => .fld hk hs hu hv⟩
  | @var d t r hk hs hr =>
    refine ⟨[t], rfl, fun s h => .var hk hs (fun u q e => ?_)⟩
    have e : s = u :: q := e
    rcases h with h | h
    · rw [e] at h
      cases r with
      | nil => cases h
      | cons u' q' =>
        have : u = u' := Option.some.inj h
        rw [this]; exact hr u' q' rfl
    · exact (h u q e).2
  | @par d t v q r x ht hd h1 hv ih =>
    obtain ⟨p, e, k⟩ := ih
    refine ⟨t :: (p ++ [v]), by rw [e]; simp, fun s _ => ?_⟩
    have := k (v :: s) (.inl rfl)
    have e2 : (t :: (p ++ [v])) ++ s = t :: (p ++ v :: s) := by simp
    rw [e2]
    exact .par ht hd this hv
end Go.Proofs.YtkicbmjjbnblfaaGreatDoor
namespace Go.Proofs.YtkicbmjjbnblfaaGreatDoor
inductive Ex
  | leaf (p : Pt)
  | one (p : Pt) (e : Ex)
  | two (p : Pt) (a b : Ex)
def flat : Ex → List Pt
  | .leaf p => [p]
  | .one p e => flat e ++ [p]
  | .two p a b => flat a ++ (flat b ++ [p])
def dep : Ex → Nat
  | .leaf _ => 1
  | .one _ e => dep e + 1
  | .two _ a b => max (dep b) (dep a) + 1
def fit6 (t n : Int) : Bool := if t = 1 then decide (n = 0) || decide (n = 1) else if t = 2 then decide (-32768 ≤ n) && decide (n ≤ 32767) else if t = 3 ∨ t = 4 then decide (-2147483648 ≤ n) && decide (n ≤ 2147483647) else false
/-- may a part be? -/
def mayP (p : Pt) : Bool :=
  if p.kind = 1 then decide (p.s = []) && (decide (p.f = []) && (if p.t = 0 then decide (-2147483648 ≤ p.n) && decide (p.n ≤ 2147483648) else fit6 p.t p.n))
  else if p.kind = 2 ∨ p.kind = 3 then decide (p.f = []) && (decide (p.n = 0) && (decide (p.t = 0) && nameB p.s))
  else if p.kind = 4 then decide (p.n = 0) && (decide (p.t = 0) && (nameB p.s && wordB p.f))
  else if p.kind = 5 then decide (p.s = []) && (decide (p.f = []) && (decide (p.t = 0) && (decide (1 ≤ p.n) && decide (p.n ≤ 16))))
  else if p.kind = 6 then decide (p.s = []) && (decide (p.f = []) && (decide (p.n = 0) && (decide (2 ≤ p.t) && decide (p.t ≤ 4))))
  else false
/-- the parts of a tree are such as work on as many values as they have -/
def well : Ex → Prop
  | .leaf p => takes p = 0 ∧ mayP p = true
  | .one p e => takes p = 1 ∧ mayP p = true ∧ well e
  | .two p a b => takes p = 2 ∧ mayP p = true ∧ well a ∧ well b
def opTok (n : Int) : Tk :=
  if n = 1 then signT [43] else
  if n = 2 then signT [45] else
  if n = 3 then signT [42] else
  if n = 4 then signT [47] else
  if n = 5 then wordT [77, 79, 68] else
  if n = 6 then wordT [65, 78, 68] else
  if n = 7 then wordT [79, 82] else
  if n = 8 then wordT [88, 79, 82] else
  if n = 9 then signT [61] else
  if n = 10 then signT [60, 62] else
  if n = 11 then signT [60] else
  if n = 12 then signT [60, 61] else
  if n = 13 then signT [62] else
  if n = 14 then signT [62, 61] else
  if n = 15 then signT [45] else
  wordT [78, 79, 84]
def toW (t : Int) : Bs := if t = 2 then [84, 79, 95, 73, 78, 84] else if t = 3 then [84, 79, 95, 68, 73, 78, 84] else [84, 79, 95, 84, 73, 77, 69]
def brk (inner : Bool) (l : List Tk) : List Tk := if inner then signT [40] :: (l ++ [signT [41]]) else l
def showE : Ex → Bool → List Tk
  | .leaf p, _ => if p.kind = 1 then (if p.t = 1 then [wordT (if p.n = 1 then truB else falB)] else [numT p.n p.t]) else if p.kind = 2 then [wordT p.s] else [wordT p.s, signT [46], wordT p.f]
  | .one p e, inner =>
    if p.kind = 3 then wordT p.s :: signT [91] :: (showE e false ++ [signT [93]])
    else if p.kind = 6 then wordT (toW p.t) :: signT [40] :: (showE e false ++ [signT [41]])
    else brk inner (opTok p.n :: showE e true)
  | .two p a b, inner => brk inner (showE a true ++ opTok p.n :: showE b true)
theorem may5 {p : Pt} (hk : p.kind = 5) (h : mayP p = true) : p = opP p.n ∧ 1 ≤ p.n ∧ p.n ≤ 16 := by
  obtain ⟨k, s, f, n, t⟩ := p
  simp only [] at hk
  subst hk
  unfold mayP at h
  simp only [] at h
  rw [if_neg (by decide), if_neg (by decide), if_neg (by decide), if_pos (by decide)] at h
  simp only [Bool.and_eq_true, decide_eq_true_eq] at h
  obtain ⟨rfl, rfl, rfl, h1, h2⟩ := h
  exact ⟨rfl, h1, h2⟩
theorem may6 {p : Pt} (hk : p.kind = 6) (h : mayP p = true) : p = toP p.t ∧ (p.t = 2 ∨ p.t = 3 ∨ p.t = 4) := by
  obtain ⟨k, s, f, n, t⟩ := p
  simp only [] at hk
  subst hk
  unfold mayP at h
  simp only [] at h
  rw [if_neg (by decide), if_neg (by decide), if_neg (by decide), if_neg (by decide), if_pos (by decide)] at h
  simp only [Bool.and_eq_true, decide_eq_true_eq] at h
  obtain ⟨rfl, rfl, rfl, h1, h2⟩ := h
  exact ⟨rfl, by show t = 2 ∨ t = 3 ∨ t = 4; omega⟩
theorem may3 {p : Pt} (hk : p.kind = 3) (h : mayP p = true) : p = idxP p.s ∧ nameB p.s = true := by
  obtain ⟨k, s, f, n, t⟩ := p
  simp only [] at hk
  subst hk
  unfold mayP at h
  simp only [] at h
  rw [if_neg (by decide), if_pos (by decide)] at h
  simp only [Bool.and_eq_true, decide_eq_true_eq] at h
  obtain ⟨rfl, rfl, rfl, h1⟩ := h
  exact ⟨rfl, h1⟩
/-- a leaf: a number, a variable, a field -/
theorem may_leaf {p : Pt} (ht : takes p = 0) (h : mayP p = true) : (∃ n t, p = numP n t ∧ (t = 1 → n = 0 ∨ n = 1)) ∨ (∃ s, p = varP s ∧ nameB s = true) ∨ (∃ s f, p = fldP s f ∧ nameB s = true) := by
  obtain ⟨k, s, f, n, t⟩ := p
  unfold takes at ht
  unfold mayP at h
  simp only [] at h ht
  by_cases h1 : k = 1
  · subst h1
    rw [if_pos rfl] at h
    simp only [Bool.and_eq_true, decide_eq_true_eq] at h
    obtain ⟨rfl, rfl, h3⟩ := h
    refine .inl ⟨n, t, rfl, fun e => ?_⟩
    subst e
    rw [if_neg (by decide)] at h3
    unfold fit6 at h3
    rw [if_pos rfl, Bool.or_eq_true] at h3
    exact h3.imp of_decide_eq_true of_decide_eq_true
  · rw [if_neg h1] at h
    by_cases h2 : k = 2
    · subst h2
      rw [if_pos (.inl rfl)] at h
      simp only [Bool.and_eq_true, decide_eq_true_eq] at h
      obtain ⟨rfl, rfl, rfl, h3⟩ := h
      exact .inr (.inl ⟨s, rfl, h3⟩)
    · by_cases h3 : k = 3
      · rw [if_pos (.inl h3)] at ht; cases ht
      · rw [if_neg (by omega)] at h
        by_cases h4 : k = 4
        · subst h4
          rw [if_pos rfl] at h
          simp only [Bool.and_eq_true, decide_eq_true_eq] at h
          obtain ⟨rfl, rfl, h5, _⟩ := h
          exact .inr (.inr ⟨s, f, rfl, h5⟩)
        · rw [if_neg h4] at h
          by_cases h5 : k = 5
          · rw [if_neg (by omega)] at ht
            split at ht
            · cases ht
            · first
              | (cases ht; done)
              | (rw [if_pos h5] at ht; cases ht)
          · rw [if_neg h5] at h
            by_cases h6 : k = 6
            · rw [if_pos (.inr h6)] at ht; cases ht
            · rw [if_neg h6] at h; cases h
theorem takes1 {p : Pt} (ht : takes p = 1) : p.kind = 3 ∨ p.kind = 6 ∨ (p.kind = 5 ∧ (p.n = 15 ∨ p.n = 16)) := by
  unfold takes at ht
  split at ht
  · next h => exact h.imp id .inl
  · split at ht
    · next h => exact .inr (.inr h)
    · split at ht <;> cases ht
theorem takes2 {p : Pt} (ht : takes p = 2) : p.kind = 5 ∧ ¬ (p.n = 15 ∨ p.n = 16) := by
  unfold takes at ht
  split at ht
  · cases ht
  · split at ht
    · cases ht
    · next h =>
      split at ht
      · next h5 => exact ⟨h5, fun e => h ⟨h5, e⟩⟩
      · cases ht
/-- the row of an operation -/
def rowOf (n : Int) : Nat := if n = 7 then 0 else if n = 8 then 1 else if n = 6 then 2 else if n = 9 ∨ n = 10 then 3 else if 11 ≤ n then 4 else if n = 1 ∨ n = 2 then 5 else 6
theorem op_row {n : Int} (h : 1 ≤ n ∧ n ≤ 14) : rowOf n < 7 ∧ opIn (rowOf n) (opTok n) = some n ∧ (∀ m, rowOf n < m → opIn m (opTok n) = none) ∧ isSign [91] (opTok n) = false ∧ isSign [46] (opTok n) = false := by
  have hn : n = 1 ∨ n = 2 ∨ n = 3 ∨ n = 4 ∨ n = 5 ∨ n = 6 ∨ n = 7 ∨ n = 8 ∨ n = 9 ∨ n = 10 ∨ n = 11 ∨ n = 12 ∨ n = 13 ∨ n = 14 := by omega
  have big : ∀ (m : Nat) (t : Tk), 7 ≤ m → opIn m t = none := fun m t hm => by
    unfold opIn
    have : rowOps m = [] := by
      unfold rowOps
      match m, hm with
      | m + 7, _ => rfl
    rw [this]
    rfl
  have fin : ∀ n : Int, (rowOf n < 7 ∧ opIn (rowOf n) (opTok n) = some n ∧ (∀ m : Fin 7, rowOf n < m.val → opIn m.val (opTok n) = none) ∧ isSign [91] (opTok n) = false ∧ isSign [46] (opTok n) = false) →
      rowOf n < 7 ∧ opIn (rowOf n) (opTok n) = some n ∧ (∀ m, rowOf n < m → opIn m (opTok n) = none) ∧ isSign [91] (opTok n) = false ∧ isSign [46] (opTok n) = false := fun n ⟨a, b, c, d⟩ =>
    ⟨a, b, fun m hm => if h : m < 7 then c ⟨m, h⟩ hm else big m _ (by omega), d⟩
  rcases hn with rfl | rfl | rfl | rfl | rfl | rfl | rfl | rfl | rfl | rfl | rfl | rfl | rfl | rfl <;> exact fin _ (by decide +kernel)
theorem un_tok {n : Int} (h : n = 15 ∨ n = 16) : unOp (opTok n) = some n := by rcases h with rfl | rfl <;> decide
/-- nothing goes on from here in the rows from n on -/
def quietFrom (n : Nat) (r : List Tk) : Prop := ∀ t q, r = t :: q → ∀ m, n ≤ m → opIn m t = none
theorem quiet_more {n m : Nat} {r : List Tk} (h : quietFrom n r) (hm : n ≤ m) : quietFrom m r := fun t q e k hk => h t q e k (by omega)
theorem lift_row {d : Nat} {l r : List Tk} {x : List Pt} (h : Reads .una d l x r) : ∀ (j n : Nat), n + j = 7 → quietFrom n r → Reads (.row n) d l x r
  | 0, n, e, _ => .top (by omega) h
  | j + 1, n, e, hq => by
    have := Reads.row (n := n) (by omega) (lift_row h j (n + 1) (by omega) (quiet_more hq (by omega))) (.stop (d := d) (fun t q er => hq t q er n (Nat.le_refl _)))
    rwa [List.append_nil] at this
theorem lift_from {d m : Nat} {l r : List Tk} {x : List Pt} (h : Reads (.row m) d l x r) (hm : m ≤ 7) : ∀ (j n : Nat), n + j = m → quietFrom n r → Reads (.row n) d l x r
  | 0, n, e, _ => by rw [Nat.add_zero] at e; rw [e]; exact h
  | j + 1, n, e, hq => by
    have := Reads.row (n := n) (by omega) (lift_from h hm j (n + 1) (by omega) (quiet_more hq (by omega))) (.stop (d := d) (fun t q er => hq t q er n (Nat.le_refl _)))
    rwa [List.append_nil] at this
def soft (r : List Tk) : Prop := ∀ u q, r = u :: q → isSign [91] u = false ∧ isSign [46] u = false
theorem soft_sign {s : Bs} (h1 : s ≠ [91]) (h2 : s ≠ [46]) (r : List Tk) : soft (signT s :: r) := fun u q e => by
  injection e with e1 _
  rw [← e1]
  unfold isSign signT
  exact ⟨by simp [h1], by simp [h2]⟩
theorem stops_soft {r : List Tk} (h : stops r) : soft r := fun u q e => (h u q e).2
theorem stops_quiet {r : List Tk} (h : stops r) : quietFrom 0 r := fun t q e m _ => (h t q e).1 m
theorem stops_close (r : List Tk) : stops (signT [41] :: r) ∧ stops (signT [93] :: r) := by
  have big : ∀ (s : Bs) (m : Nat), (s = [41] ∨ s = [93]) → opIn m (signT s) = none := fun s m hs => by
    match m with
    | 0 => rcases hs with rfl | rfl <;> rfl
    | 1 => rcases hs with rfl | rfl <;> rfl
    | 2 => rcases hs with rfl | rfl <;> rfl
    | 3 => rcases hs with rfl | rfl <;> rfl
    | 4 => rcases hs with rfl | rfl <;> rfl
    | 5 => rcases hs with rfl | rfl <;> rfl
    | 6 => rcases hs with rfl | rfl <;> rfl
    | m + 7 => rcases hs with rfl | rfl <;> rfl
  constructor
  · intro t q e
    injection e with e1 _
    rw [← e1]
    exact ⟨fun n => big _ n (.inl rfl), by decide, by decide⟩
  · intro t q e
    injection e with e1 _
    rw [← e1]
    exact ⟨fun n => big _ n (.inr rfl), by decide, by decide⟩
theorem to_word {t : Int} (h : t = 2 ∨ t = 3 ∨ t = 4) : toT (toW t) = t ∧ unOp (wordT (toW t)) = none := by rcases h with rfl | rfl | rfl <;> decide
theorem name_not {s : Bs} (h : nameB s = true) : unOp (wordT s) = none := by
  unfold unOp
  rw [if_neg (fun e => absurd (show (1 : Int) = 3 from e.1) (by decide)), if_neg (fun e => ?_)]
  have : s = [78, 79, 84] := e.2
  rw [this] at h
  exact absurd h (by decide)
/-- how a value within an operation, and a whole expression, is read -/
def Atom (e : Ex) : Prop := ∀ d r, soft r → d + 2 * dep e ≤ 190 → Reads .una d (showE e true ++ r) (flat e) r ∧ Reads .pri d (showE e true ++ r) (flat e) r
def Full (e : Ex) : Prop := ∀ d r, stops r → d + 2 * dep e ≤ 191 → Reads (.row 0) d (showE e false ++ r) (flat e) r
theorem bare_of {d : Nat} {t : Tk} {q r : List Tk} {x : List Pt} (h : unOp t = none) (h1 : Reads .pri d (t :: q) x r) : Reads .una d (t :: q) x r ∧ Reads .pri d (t :: q) x r := ⟨.bare h h1, h1⟩
theorem full_of_atom {e : Ex} (hs : showE e true = showE e false) (ha : ∀ d r, soft r → d + 2 * dep e ≤ 191 → Reads .una d (showE e true ++ r) (flat e) r) : Full e := fun d r hr hd => by
  have := ha d r (stops_soft hr) hd
  rw [hs] at this
  exact lift_row this 7 0 rfl (stops_quiet hr)
theorem shown : ∀ {e : Ex}, well e → Atom e ∧ Full e
  | .leaf p, h => by
    have key : ∀ d r, soft r → Reads .una d (showE (.leaf p) true ++ r) (flat (.leaf p)) r ∧ Reads .pri d (showE (.leaf p) true ++ r) (flat (.leaf p)) r := fun d r hr => by
      rcases may_leaf h.1 h.2 with ⟨n, t, rfl, hb⟩ | ⟨s, rfl, hn⟩ | ⟨s, f, rfl, hn⟩
      · by_cases h1 : t = 1
        · subst h1
          rcases hb rfl with rfl | rfl
          · exact bare_of (t := wordT falB) (by decide) (.fal rfl rfl)
          · exact bare_of (t := wordT truB) (by decide) (.tru rfl rfl)
        · have e : showE (.leaf (numP n t)) true = [numT n t] := by
            show (if (1 : Int) = 1 then (if t = 1 then _ else _) else _) = _
            rw [if_pos rfl, if_neg h1]; rfl
          rw [e]
          exact bare_of (t := numT n t) (by unfold unOp; rw [if_neg (fun e => absurd (show (2 : Int) = 3 from e.1) (by decide)), if_neg (fun e => absurd (show (2 : Int) = 1 from e.1) (by decide))]) (.num rfl)
      · exact bare_of (t := wordT s) (name_not hn) (.var rfl hn hr)
      · exact bare_of (t := wordT s) (name_not hn) (.fld (u := signT [46]) (v := wordT f) rfl hn (by decide) rfl)
    exact ⟨fun d r hr _ => key d r hr, full_of_atom rfl (fun d r hr _ => (key d r hr).1)⟩
  | .one p e, h => by
    obtain ⟨ht, hm, hw⟩ := h
    obtain ⟨iA, iF⟩ := shown hw
    rcases takes1 ht with hk | hk | ⟨hk, hn⟩
    · obtain ⟨hp, hname⟩ := may3 hk hm
      have es : ∀ i, showE (.one p e) i = wordT p.s :: signT [91] :: (showE e false ++ [signT [93]]) := fun i => by
        show (if p.kind = 3 then _ else _) = _
        rw [if_pos hk]
      have ef : flat (.one p e) = flat e ++ [idxP p.s] := by show flat e ++ [p] = _; rw [← hp]
      have key : ∀ d r, d + 2 * dep (.one p e) ≤ 191 → Reads .una d (showE (.one p e) true ++ r) (flat (.one p e)) r ∧ Reads .pri d (showE (.one p e) true ++ r) (flat (.one p e)) r := fun d r hd => by
        have hd' : d + 2 * (dep e + 1) ≤ 191 := hd
        have := iF (d + 1) (signT [93] :: r) (stops_close r).2 (by omega)
        rw [es, ef]
        have e2 : (wordT p.s :: signT [91] :: (showE e false ++ [signT [93]])) ++ r = wordT p.s :: signT [91] :: (showE e false ++ signT [93] :: r) := by simp
        rw [e2]
        exact bare_of (name_not hname) (.idx (t := wordT p.s) (u := signT [91]) rfl hname (by decide) (by omega) this (by decide))
      exact ⟨fun d r _ hd => key d r (by omega), full_of_atom (by rw [es, es]) (fun d r _ hd => (key d r hd).1)⟩
    · obtain ⟨hp, htt⟩ := may6 hk hm
      obtain ⟨w1, w2⟩ := to_word htt
      have es : ∀ i, showE (.one p e) i = wordT (toW p.t) :: signT [40] :: (showE e false ++ [signT [41]]) := fun i => by
        show (if p.kind = 3 then _ else _) = _
        rw [if_neg (by omega), if_pos hk]
      have ef : flat (.one p e) = flat e ++ [toP (toT (wordT (toW p.t)).s)] := by
        show flat e ++ [p] = flat e ++ [toP (toT (toW p.t))]
        rw [w1, ← hp]
      have key : ∀ d r, d + 2 * dep (.one p e) ≤ 191 → Reads .una d (showE (.one p e) true ++ r) (flat (.one p e)) r ∧ Reads .pri d (showE (.one p e) true ++ r) (flat (.one p e)) r := fun d r hd => by
        have hd' : d + 2 * (dep e + 1) ≤ 191 := hd
        have := iF (d + 1) (signT [41] :: r) (stops_close r).1 (by omega)
        rw [es, ef]
        have e2 : (wordT (toW p.t) :: signT [40] :: (showE e false ++ [signT [41]])) ++ r = wordT (toW p.t) :: signT [40] :: (showE e false ++ signT [41] :: r) := by simp
        rw [e2]
        exact bare_of w2 (.conv (t := wordT (toW p.t)) (u := signT [40]) rfl (by show toT (toW p.t) ≠ 0; rw [w1]; omega) (by decide) (by omega) this (by decide))
      exact ⟨fun d r _ hd => key d r (by omega), full_of_atom (by rw [es, es]) (fun d r _ hd => (key d r hd).1)⟩
    · obtain ⟨hp, _⟩ := may5 hk hm
      have es : ∀ i, showE (.one p e) i = brk i (opTok p.n :: showE e true) := fun i => by
        show (if p.kind = 3 then _ else _) = _
        rw [if_neg (by omega), if_neg (by omega)]
      have ef : flat (.one p e) = flat e ++ [opP p.n] := by show flat e ++ [p] = _; rw [← hp]
      have full : Full (.one p e) := fun d r hr hd => by
        have hd' : d + 2 * (dep e + 1) ≤ 191 := hd
        rw [es, ef]
        have := (iA (d + 1) r (stops_soft hr) (by omega)).1
        exact lift_row (.sign (t := opTok p.n) (un_tok hn) (by omega) this) 7 0 rfl (stops_quiet hr)
      refine ⟨fun d r hr hd => ?_, full⟩
      have hf := full (d + 1) (signT [41] :: r) (stops_close r).1 (by omega)
      have e1 := es true
      have e0 := es false
      have e2 : showE (.one p e) true ++ r = signT [40] :: (showE (.one p e) false ++ signT [41] :: r) := by rw [e1, e0]; simp [brk]
      rw [e2]
      exact bare_of (by decide) (.par (t := signT [40]) (by decide) (by omega) hf (by decide))
  | .two p a b, h => by
    obtain ⟨ht, hm, hwa, hwb⟩ := h
    obtain ⟨aA, _⟩ := shown hwa
    obtain ⟨bA, _⟩ := shown hwb
    obtain ⟨hk, hn⟩ := takes2 ht
    obtain ⟨hp, h1, h16⟩ := may5 hk hm
    obtain ⟨o1, o2, o3, o4, o5⟩ := op_row (n := p.n) ⟨h1, by omega⟩
    have ef : flat (.two p a b) = flat a ++ (flat b ++ opP p.n :: []) := by show flat a ++ (flat b ++ [p]) = _; rw [← hp]
    have full : Full (.two p a b) := fun d r hr hd => by
      have hd' : d + 2 * (max (dep b) (dep a) + 1) ≤ 191 := hd
      have e2 : showE (.two p a b) false ++ r = showE a true ++ opTok p.n :: (showE b true ++ r) := by
        show (showE a true ++ opTok p.n :: showE b true) ++ r = _
        simp
      rw [e2, ef]
      have ra := (aA d (opTok p.n :: (showE b true ++ r)) (fun u q e => by injection e with e1 _; rw [← e1]; exact ⟨o4, o5⟩) (by omega)).1
      have rb := (bA d r (stops_soft hr) (by omega)).1
      have la := lift_row ra (7 - (rowOf p.n + 1)) (rowOf p.n + 1) (by omega) (fun t q e m hm => by injection e with e1 _; rw [← e1]; exact o3 m (by omega))
      have lb := lift_row rb (7 - (rowOf p.n + 1)) (rowOf p.n + 1) (by omega) (quiet_more (stops_quiet hr) (by omega))
      have lo := Reads.more (n := rowOf p.n) o2 lb (.stop (d := d) (fun t q e => (hr t q e).1 _))
      exact lift_from (.row o1 la lo) (by omega) (rowOf p.n) 0 (by omega) (stops_quiet hr)
    refine ⟨fun d r hr hd => ?_, full⟩
    have hf := full (d + 1) (signT [41] :: r) (stops_close r).1 (by omega)
    have e2 : showE (.two p a b) true ++ r = signT [40] :: (showE (.two p a b) false ++ signT [41] :: r) := by
      show (brk true (showE a true ++ opTok p.n :: showE b true)) ++ r = signT [40] :: ((brk false (showE a true ++ opTok p.n :: showE b true)) ++ signT [41] :: r)
      simp [brk]
    rw [e2]
    exact bare_of (by decide) (.par (t := signT [40]) (by decide) (by omega) hf (by decide))
end Go.Proofs.YtkicbmjjbnblfaaGreatDoor
namespace Go.Proofs.YtkicbmjjbnblfaaGreatDoor
/-- trees built of parts, the last one first -/
def build : List Pt → List Ex → Option (List Ex)
  | [], st => some st
  | p :: x, st =>
    if takes p = 0 then build x (.leaf p :: st)
    else if takes p = 1 then (match st with
      | a :: r => build x (.one p a :: r)
      | [] => none)
    else (match st with
      | b :: a :: r => build x (.two p a b :: r)
      | _ => none)
theorem build_depths : ∀ (x : List Pt) (st : List Ex), depths x (st.map dep) = (build x st).map (·.map dep)
  | [], st => rfl
  | p :: x, st => by
    unfold depths build
    split
    · exact build_depths x (.leaf p :: st)
    · split
      · cases st with
        | nil => rfl
        | cons a r => exact build_depths x (.one p a :: r)
      · match st with
        | [] => rfl
        | [a] => rfl
        | b :: a :: r => exact build_depths x (.two p a b :: r)
def flats : List Ex → List Pt
  | [] => []
  | e :: r => flats r ++ flat e
theorem takes_le (p : Pt) : takes p ≤ 2 := by
  unfold takes
  repeat' split
  all_goals omega
theorem build_flat : ∀ {x : List Pt} {st st' : List Ex}, build x st = some st' → flats st' = flats st ++ x
  | [], st, st', h => by
    have h' : some st = some st' := h
    injection h' with h
    rw [h, List.append_nil]
  | p :: x, st, st', h => by
    unfold build at h
    split at h
    · rw [build_flat h]
      show (flats st ++ [p]) ++ x = _
      simp
    · split at h
      · split at h
        · next a r =>
          rw [build_flat h]
          show (flats r ++ (flat a ++ [p])) ++ x = (flats r ++ flat a) ++ p :: x
          simp
        · cases h
      · split at h
        · next b a r =>
          rw [build_flat h]
          show (flats r ++ (flat a ++ (flat b ++ [p]))) ++ x = ((flats r ++ flat a) ++ flat b) ++ p :: x
          simp
        · cases h
theorem build_well : ∀ {x : List Pt} {st st' : List Ex}, build x st = some st' → (∀ p ∈ x, mayP p = true) → (∀ e ∈ st, well e) → ∀ e ∈ st', well e
  | [], st, st', h, _, hw => by
    have h' : some st = some st' := h
    injection h' with h
    rw [← h]; exact hw
  | p :: x, st, st', h, hm, hw => by
    have hp := hm p List.mem_cons_self
    have hx : ∀ q ∈ x, mayP q = true := fun q hq => hm q (List.mem_cons_of_mem p hq)
    unfold build at h
    split at h
    · next h0 =>
      exact build_well h hx (fun e he => by
        rcases List.mem_cons.1 he with rfl | he
        · exact ⟨h0, hp⟩
        · exact hw e he)
    · next h0 =>
      split at h
      · next h1 =>
        split at h
        · next a r =>
          exact build_well h hx (fun e he => by
            rcases List.mem_cons.1 he with rfl | he
            · exact ⟨h1, hp, hw a List.mem_cons_self⟩
            · exact hw e (List.mem_cons_of_mem a he))
        · cases h
      · next h1 =>
        split at h
        · next b a r =>
          have h2 : takes p = 2 := by have := takes_le p; omega
          exact build_well h hx (fun e he => by
            rcases List.mem_cons.1 he with rfl | he
            · exact ⟨h2, hp, hw a (List.mem_cons_of_mem b List.mem_cons_self), hw b List.mem_cons_self⟩
            · exact hw e (List.mem_cons_of_mem b (List.mem_cons_of_mem a he)))
        · cases h
def checkP (x : List Pt) : Int := if 500 < x.length then 2 else if x.all mayP = false then 60 else if depth x = 0 ∨ 24 < depth x then 60 else 0
/-- parts that may be are one tree -/
theorem check_tree {x : List Pt} (h : checkP x = 0) : ∃ e, well e ∧ flat e = x ∧ dep e = depth x ∧ dep e ≤ 24 ∧ x.length ≤ 500 := by
  unfold checkP at h
  split at h
  · cases h
  · next hl =>
    split at h
    · cases h
    · next ha =>
      split at h
      · cases h
      · next hd =>
        have hd' : depth x ≠ 0 ∧ depth x ≤ 24 := by omega
        have hb := build_depths x []
        have hm : ∀ p ∈ x, mayP p = true := fun p hp => by
          have := (List.all_eq_true.1 (by simpa using ha)) p hp
          exact this
        have he : depth x = match depths x [] with
          | some [d] => d
          | _ => 0 := rfl
        have hb' : depths x [] = (build x []).map (·.map dep) := hb
        rw [hb'] at he
        cases hbu : build x [] with
        | none => rw [hbu] at he; exact absurd he hd'.1
        | some st =>
          rw [hbu] at he
          match st, hbu, he with
          | [], hbu, he => exact absurd he hd'.1
          | [e], hbu, he =>
            have hf := build_flat hbu
            have hw := build_well hbu hm (fun e he => by cases he) e List.mem_cons_self
            have hf' : flat e = x := by simpa [flats] using hf
            have hde : depth x = dep e := he
            exact ⟨e, hw, hf', hde.symm, by omega, by omega⟩
          | a :: b :: r, hbu, he => exact absurd he hd'.1
theorem stops_nil : stops [] := fun t q e => by cases e
/-- shown parts are read as just these -/
theorem parse_show {x : List Pt} (h : checkP x = 0) : ∃ e, flat e = x ∧ well e ∧ dep e ≤ 24 ∧ parse (showE e false) = .ok (x, []) := by
  obtain ⟨e, hw, hf, hd, h24, h500⟩ := check_tree h
  refine ⟨e, hf, hw, h24, ?_⟩
  have hr := (shown hw).2 0 [] stops_nil (by omega)
  rw [List.append_nil, hf] at hr
  have hq := reads_rd hr (fuel (showE e false)) (by simp only [fuel, rank]; omega)
  unfold parse
  rw [hq]
  simp only []
  rw [if_neg (by omega)]
/-- an expression is read as far as it goes -/
theorem parse_stops {l r : List Tk} {x : List Pt} (h : parse l = .ok (x, r)) {s : List Tk} (hs : stops s) : ∃ p, l = p ++ r ∧ parse (p ++ s) = .ok (x, s) := by
  unfold parse at h
  split at h
  · cases h
  · cases h
  · next y r' hr =>
    split at h
    · cases h
    · next hl =>
      simp only [Except.ok.injEq, Prod.mk.injEq] at h
      obtain ⟨rfl, rfl⟩ := h
      obtain ⟨p, e, k⟩ := (rd_reads hr).swap
      refine ⟨p, e, ?_⟩
      have hq := reads_rd (k s (.inr hs)) (fuel (p ++ s)) (by simp only [fuel, rank]; omega)
      unfold parse
      rw [hq]
      simp only []
      rw [if_neg hl]
/-! names -/
def ltB : Bs → Bs → Bool
  | [], [] => false
  | [], _ :: _ => true
  | _ :: _, [] => false
  | a :: x, b :: y => if a < b then true else if b < a then false else ltB x y
theorem ltB_irr : ∀ a : Bs, ltB a a = false
  | [] => rfl
  | a :: x => by
    unfold ltB
    rw [if_neg (UInt8.lt_irrefl a), if_neg (UInt8.lt_irrefl a)]
    exact ltB_irr x
theorem ltB_tri : ∀ a b : Bs, ltB a b = false → ltB b a = false → a = b
  | [], [], _, _ => rfl
  | [], _ :: _, h, _ => by cases h
  | _ :: _, [], _, h => by cases h
  | a :: x, b :: y, h, h' => by
    unfold ltB at h h'
    split at h
    · cases h
    · next h1 =>
      split at h
      · next h2 => rw [if_pos h2] at h'; cases h'
      · next h2 =>
        rw [if_neg h2, if_neg h1] at h'
        have e : a = b := UInt8.le_antisymm (UInt8.not_lt.1 h2) (UInt8.not_lt.1 h1)
        rw [e, ltB_tri x y h h']
theorem ltB_trans : ∀ {a b c : Bs}, ltB a b = true → ltB b c = true → ltB a c = true
  | [], [], c, h, _ => by cases h
  | [], _ :: _, [], _, h => by cases h
  | [], _ :: _, _ :: _, _, _ => rfl
  | _ :: _, [], c, h, _ => by cases h
  | _ :: _, _ :: _, [], _, h => by cases h
  | a :: x, b :: y, c :: z, h, h' => by
    unfold ltB at h h' ⊢
    split at h
    · next h1 =>
      split at h'
      · next h2 => rw [if_pos (UInt8.lt_trans h1 h2)]
      · next h2 =>
        split at h'
        · cases h'
        · next h3 =>
          have e : b = c := UInt8.le_antisymm (UInt8.not_lt.1 h3) (UInt8.not_lt.1 h2)
          rw [← e, if_pos h1]
    · next h1 =>
      split at h
      · cases h
      · next h4 =>
        have e : a = b := UInt8.le_antisymm (UInt8.not_lt.1 h4) (UInt8.not_lt.1 h1)
        rw [e]
        split at h'
        · next h2 => rw [if_pos h2]
        · next h2 =>
          split at h'
          · cases h'
          · next h3 => rw [if_neg h2, if_neg h3]; exact ltB_trans h h'
/-- a name put where it belongs, if it is not there -/
def insN : List Bs → Bs → List Bs
  | [], s => [s]
  | a :: r, s => if ltB a s then a :: insN r s else if a = s then a :: r else s :: a :: r
def namesP (x : List Pt) : List Bs := x.foldl (fun out p => if p.s = [] then out else insN out p.s) []
theorem mem_ins : ∀ (l : List Bs) (s y : Bs), y ∈ insN l s ↔ y ∈ l ∨ y = s
  | [], s, y => by simp [insN]
  | a :: r, s, y => by
    unfold insN
    split
    · rw [List.mem_cons, List.mem_cons, mem_ins r s y, or_assoc]
    · split
      · next e => subst e; constructor
                  · exact .inl
                  · rintro (h | rfl)
                    · exact h
                    · exact List.mem_cons_self
      · rw [List.mem_cons]
        exact or_comm
theorem ins_sorted : ∀ (l : List Bs) (s : Bs), l.Pairwise (fun a b => ltB a b = true) → (insN l s).Pairwise (fun a b => ltB a b = true)
  | [], s, _ => List.pairwise_singleton _ _
  | a :: r, s, h => by
    obtain ⟨h1, h2⟩ := List.pairwise_cons.1 h
    unfold insN
    split
    · next hl =>
      refine List.pairwise_cons.2 ⟨fun b hb => ?_, ins_sorted r s h2⟩
      rcases (mem_ins r s b).1 hb with hb | rfl
      · exact h1 b hb
      · exact hl
    · next hl =>
      split
      · exact h
      · next hne =>
        have hs : ltB s a = true := by
          cases hx : ltB s a with
          | true => rfl
          | false => exact absurd (ltB_tri a s (by simpa using hl) hx) hne
        refine List.pairwise_cons.2 ⟨fun b hb => ?_, h⟩
        rcases List.mem_cons.1 hb with rfl | hb
        · exact hs
        · exact ltB_trans hs (h1 b hb)
theorem names_fold : ∀ (x : List Pt) (out : List Bs), out.Pairwise (fun a b => ltB a b = true) → (x.foldl (fun out p => if p.s = [] then out else insN out p.s) out).Pairwise (fun a b => ltB a b = true) ∧ ∀ y, y ∈ x.foldl (fun out p => if p.s = [] then out else insN out p.s) out ↔ y ∈ out ∨ ∃ p ∈ x, p.s = y ∧ p.s ≠ []
  | [], out, h => ⟨h, fun y => by simp⟩
  | p :: x, out, h => by
    rw [List.foldl_cons]
    by_cases hp : p.s = []
    · rw [if_pos hp]
      obtain ⟨a, b⟩ := names_fold x out h
      refine ⟨a, fun y => ?_⟩
      rw [b y]
      constructor
      · rintro (h | ⟨q, hq, h⟩)
        · exact .inl h
        · exact .inr ⟨q, List.mem_cons_of_mem p hq, h⟩
      · rintro (h | ⟨q, hq, h⟩)
        · exact .inl h
        · rcases List.mem_cons.1 hq with rfl | hq
          · exact absurd hp h.2
          · exact .inr ⟨q, hq, h⟩
    · rw [if_neg hp]
      obtain ⟨a, b⟩ := names_fold x (insN out p.s) (ins_sorted out p.s h)
      refine ⟨a, fun y => ?_⟩
      rw [b y, mem_ins]
      constructor
      · rintro ((h | rfl) | ⟨q, hq, h⟩)
        · exact .inl h
        · exact .inr ⟨p, List.mem_cons_self, rfl, hp⟩
        · exact .inr ⟨q, List.mem_cons_of_mem p hq, h⟩
      · rintro (h | ⟨q, hq, h⟩)
        · exact .inl (.inl h)
        · rcases List.mem_cons.1 hq with rfl | hq
          · exact .inl (.inr h.1.symm)
          · exact .inr ⟨q, hq, h⟩
theorem names_sorted (x : List Pt) : (namesP x).Pairwise (fun a b => ltB a b = true) := (names_fold x [] List.Pairwise.nil).1
theorem mem_names (x : List Pt) (y : Bs) : y ∈ namesP x ↔ ∃ p ∈ x, p.s = y ∧ p.s ≠ [] := by
  unfold namesP
  rw [(names_fold x [] List.Pairwise.nil).2 y]
  simp
/-- two expressions put together by an operation: the names of both -/
theorem names_two (a b : List Pt) (n : Int) (y : Bs) : y ∈ namesP (a ++ (b ++ [opP n])) ↔ y ∈ namesP a ∨ y ∈ namesP b := by
  rw [mem_names, mem_names, mem_names]
  constructor
  · rintro ⟨p, hp, h⟩
    rcases List.mem_append.1 hp with hp | hp
    · exact .inl ⟨p, hp, h⟩
    · rcases List.mem_append.1 hp with hp | hp
      · exact .inr ⟨p, hp, h⟩
      · rw [List.mem_singleton.1 hp] at h; exact absurd rfl h.2
  · rintro (⟨p, hp, h⟩ | ⟨p, hp, h⟩)
    · exact ⟨p, List.mem_append.2 (.inl hp), h⟩
    · exact ⟨p, List.mem_append.2 (.inr (List.mem_append.2 (.inl hp))), h⟩
end Go.Proofs.YtkicbmjjbnblfaaGreatDoor
