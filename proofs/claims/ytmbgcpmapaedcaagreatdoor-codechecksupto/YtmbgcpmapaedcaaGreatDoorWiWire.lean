/- Lists of numbers and texts as bytes: plain definitions, and what follows of them (no program). -/
import Derived.WalkKit
namespace Go.Proofs.YtmbgcpmapaedcaaGreatDoor.Wi
open Go.RowKit
/-- an item: is it a text; its number; its text -/
structure It where
  t : Bool
  n : Int
  s : ByteArray
theorem It.eta {x y : It} (h1 : x.t = y.t) (h2 : x.n = y.n) (h3 : x.s = y.s) : x = y := by cases x; cases y; simp_all
def fits (x : It) : Prop := -9223372036854775808 ≤ x.n ∧ x.n < 9223372036854775808
def mayB (x : It) : Bool := if x.t then decide (x.n = 0) && decide (x.s.size ≤ 65535) else decide (x.s.size = 0)
def nb (n : Int) : Nat := (n % 18446744073709551616).toNat
def numB (v : Nat) : List UInt8 := [UInt8.ofNat (v / 2 ^ 56), UInt8.ofNat (v / 2 ^ 48), UInt8.ofNat (v / 2 ^ 40), UInt8.ofNat (v / 2 ^ 32), UInt8.ofNat (v / 2 ^ 24), UInt8.ofNat (v / 2 ^ 16), UInt8.ofNat (v / 2 ^ 8), UInt8.ofNat v]
def two (n : Nat) : List UInt8 := [UInt8.ofNat (n / 256), UInt8.ofNat (n % 256)]
def oneB (x : It) : List UInt8 := if x.t then 36 :: (two x.s.size ++ x.s.data.toList) else 35 :: numB (nb x.n)
def bodyB : List It → List UInt8
  | [] => []
  | x :: l => oneB x ++ bodyB l
def bytesB (l : List It) : List UInt8 := two l.length ++ bodyB l
def allMay : List It → Bool
  | [] => true
  | x :: l => mayB x && allMay l
def encE (l : List It) : Int := if 1000 < l.length then 2 else if allMay l = false then 4 else if 65536 < (bytesB l).length then 2 else 0
def encL (l : List It) : List UInt8 := if encE l = 0 then bytesB l else []
def numV : List UInt8 → Nat → Nat
  | [], a => a
  | b :: l, a => numV l (a * 256 + b.toNat)
def signV (v : Nat) : Int := if v < 9223372036854775808 then (v : Int) else (v : Int) - 18446744073709551616
def textIt (l : List UInt8) : It := ⟨true, 0, ⟨l.toArray⟩⟩
def numIt (l : List UInt8) : It := ⟨false, signV (numV l 0), ⟨#[]⟩⟩
/-- a number off the front, behind its sign -/
def rdN (q : List UInt8) : Except Int (It × List UInt8) := if q.length < 8 then .error 30 else .ok (numIt (q.take 8), q.drop 8)
/-- a text off the front, behind its sign -/
def rdT : List UInt8 → Except Int (It × List UInt8)
  | h :: l :: z => if z.length < h.toNat * 256 + l.toNat then .error 30 else .ok (textIt (z.take (h.toNat * 256 + l.toNat)), z.drop (h.toNat * 256 + l.toNat))
  | _ => .error 30
/-- an item off the front: it and what is left, or the error -/
def rd : List UInt8 → Except Int (It × List UInt8)
  | [] => .error 30
  | c :: q => if c = 35 then rdN q else if c = 36 then rdT q else .error 3
/-- so many items; at an error how many bytes are left at the item's place -/
def rds : Nat → List UInt8 → Except (Nat × Int) (List It × List UInt8)
  | 0, r => .ok ([], r)
  | k + 1, r => match rd r with
    | .error e => .error (r.length, e)
    | .ok (x, r') => match rds k r' with
      | .error e => .error e
      | .ok (l, r'') => .ok (x :: l, r'')
def manyB : List UInt8 → Nat
  | h :: l :: _ => h.toNat * 256 + l.toNat
  | _ => 0
/-- any bytes: the list, the fault's place and its error -/
def decB (b : List UInt8) : List It × Nat × Int :=
  if 65536 < b.length then ([], 0, 2)
  else if b.length < 2 then ([], 0, 30)
  else if 1000 < manyB b then ([], 0, 2)
  else match rds (manyB b) (b.drop 2) with
    | .error (r, e) => ([], b.length - r, e)
    | .ok (l, r) => if r = [] then (l, 0, 0) else ([], b.length - r.length, 31)
theorem two_length (n : Nat) : (two n).length = 2 := rfl
theorem numB_length (v : Nat) : (numB v).length = 8 := rfl
theorem byte_of (n : Nat) : (UInt8.ofNat n).toNat = n % 256 := by simp
theorem two_many (n : Nat) (h : n < 65536) (r : List UInt8) : manyB (two n ++ r) = n := by
  show (UInt8.ofNat (n / 256)).toNat * 256 + (UInt8.ofNat (n % 256)).toNat = n
  rw [byte_of, byte_of]; omega
theorem numV_numB (v : Nat) (h : v < 18446744073709551616) : numV (numB v) 0 = v := by
  simp only [numB, numV, byte_of]
  omega
theorem nb_lt (n : Int) : nb n < 18446744073709551616 := by unfold nb; omega
theorem sign_nb (n : Int) (h : -9223372036854775808 ≤ n ∧ n < 9223372036854775808) : signV (nb n) = n := by
  unfold signV nb
  split <;> omega
theorem rd_num (q : List UInt8) : rd (35 :: q) = rdN q := rfl
theorem rd_text (q : List UInt8) : rd (36 :: q) = rdT q := rfl
theorem rdT_of (s : ByteArray) (hs : s.size ≤ 65535) (r : List UInt8) : rdT (two s.size ++ s.data.toList ++ r) = .ok (⟨true, 0, s⟩, r) := by
  have hl : s.data.toList.length = s.size := by rw [Array.length_toList]; rfl
  have h2 : (UInt8.ofNat (s.size / 256)).toNat * 256 + (UInt8.ofNat (s.size % 256)).toNat = s.size := by rw [byte_of, byte_of]; omega
  show rdT (UInt8.ofNat (s.size / 256) :: UInt8.ofNat (s.size % 256) :: (s.data.toList ++ r)) = _
  rw [rdT, h2, if_neg (by rw [List.length_append]; omega), List.take_left' hl, List.drop_left' hl]
  rfl
theorem rdN_of (n : Int) (hf : -9223372036854775808 ≤ n ∧ n < 9223372036854775808) (r : List UInt8) : rdN (numB (nb n) ++ r) = .ok (⟨false, n, ⟨#[]⟩⟩, r) := by
  unfold rdN numIt
  rw [if_neg (by rw [List.length_append, numB_length]; omega), List.take_left' (numB_length _), List.drop_left' (numB_length _), numV_numB _ (nb_lt n), sign_nb n hf]
theorem empty_of_size {s : ByteArray} (h : s.size = 0) : s = ⟨#[]⟩ := ByteArray.ext (Array.eq_empty_of_size_eq_zero h)
theorem rd_one (x : It) (hm : mayB x = true) (hf : fits x) (r : List UInt8) : rd (oneB x ++ r) = .ok (x, r) := by
  obtain ⟨t, n, s⟩ := x
  cases t with
  | true =>
    have h : decide (n = 0) = true ∧ decide (s.size ≤ 65535) = true := by simpa only [mayB, if_true, Bool.and_eq_true] using hm
    obtain rfl : n = 0 := of_decide_eq_true h.1
    exact (rd_text _).trans (rdT_of s (of_decide_eq_true h.2) r)
  | false =>
    have h : s.size = 0 := of_decide_eq_true (show decide (s.size = 0) = true from hm)
    obtain rfl := empty_of_size h
    exact (rd_num _).trans (rdN_of n hf r)
theorem rds_body (l : List It) (hm : allMay l = true) (hf : ∀ x ∈ l, fits x) (r : List UInt8) : rds l.length (bodyB l ++ r) = .ok (l, r) := by
  induction l with
  | nil => rfl
  | cons x l ih =>
    simp only [allMay, Bool.and_eq_true] at hm
    rw [List.length_cons, rds, bodyB, List.append_assoc, rd_one x hm.1 (hf x List.mem_cons_self)]
    simp only []
    rw [ih hm.2 (fun y hy => hf y (List.mem_cons_of_mem _ hy))]
theorem encE_zero {l : List It} (h : encE l = 0) : l.length ≤ 1000 ∧ allMay l = true ∧ (bytesB l).length ≤ 65536 := by
  unfold encE at h
  by_cases h1 : 1000 < l.length
  · rw [if_pos h1] at h; exact absurd h (by decide)
  · rw [if_neg h1] at h
    by_cases h2 : allMay l = false
    · rw [if_pos h2] at h; exact absurd h (by decide)
    · rw [if_neg h2] at h
      by_cases h3 : 65536 < (bytesB l).length
      · rw [if_pos h3] at h; exact absurd h (by decide)
      · exact ⟨by omega, by simpa using h2, by omega⟩
theorem encE_of {l : List It} (h1 : l.length ≤ 1000) (h2 : allMay l = true) (h3 : (bytesB l).length ≤ 65536) : encE l = 0 := by
  unfold encE
  rw [if_neg (by omega), if_neg (by rw [h2]; decide), if_neg (by omega)]
theorem bytesB_drop (l : List It) : (bytesB l).drop 2 = bodyB l := rfl
theorem bytesB_length (l : List It) : (bytesB l).length = 2 + (bodyB l).length := by unfold bytesB; rw [List.length_append, two_length]
/-- THERE AND BACK, the first half -/
theorem dec_enc (l : List It) (h : encE l = 0) (hf : ∀ x ∈ l, fits x) : decB (bytesB l) = (l, 0, 0) := by
  obtain ⟨h1, h2, h3⟩ := encE_zero h
  have hl := bytesB_length l
  unfold decB
  have hm : manyB (bytesB l) = l.length := two_many _ (by omega) _
  have hr := rds_body l h2 hf []
  rw [List.append_nil] at hr
  rw [if_neg (by omega), if_neg (by omega), hm, if_neg (by omega), bytesB_drop, hr]
  rfl
/-- with a byte more behind -/
theorem dec_more (l : List It) (h : encE l = 0) (hf : ∀ x ∈ l, fits x) (c : UInt8) (hs : (bytesB l).length ≠ 65536) : decB (bytesB l ++ [c]) = ([], (bytesB l).length, 31) := by
  obtain ⟨h1, h2, h3⟩ := encE_zero h
  have hl := bytesB_length l
  unfold decB
  have hm : manyB (bytesB l ++ [c]) = l.length := by unfold bytesB; rw [List.append_assoc]; exact two_many _ (by omega) _
  have hd : (bytesB l ++ [c]).drop 2 = bodyB l ++ [c] := rfl
  rw [if_neg (by rw [List.length_append]; simp; omega), if_neg (by rw [List.length_append]; omega), hm, if_neg (by omega), hd, rds_body l h2 hf [c]]
  simp
theorem of_byte (x : UInt8) : UInt8.ofNat x.toNat = x := by simp
theorem two_of (h l : UInt8) : two (h.toNat * 256 + l.toNat) = [h, l] := by
  have := h.toNat_lt
  have := l.toNat_lt
  unfold two
  rw [show (h.toNat * 256 + l.toNat) / 256 = h.toNat from by omega, show (h.toNat * 256 + l.toNat) % 256 = l.toNat from by omega, of_byte, of_byte]
theorem numB_of (b0 b1 b2 b3 b4 b5 b6 b7 : UInt8) : numB (numV [b0, b1, b2, b3, b4, b5, b6, b7] 0) = [b0, b1, b2, b3, b4, b5, b6, b7] := by
  have h0 := b0.toNat_lt; have h1 := b1.toNat_lt; have h2 := b2.toNat_lt; have h3 := b3.toNat_lt; have h4 := b4.toNat_lt; have h5 := b5.toNat_lt; have h6 := b6.toNat_lt; have h7 := b7.toNat_lt
  have key : ∀ (v : Nat) (b : UInt8), v % 256 = b.toNat → UInt8.ofNat v = b := fun v b h => UInt8.toNat_inj.1 (by rw [byte_of]; exact h)
  simp only [numV]
  unfold numB
  rw [key _ b0 (by omega), key _ b1 (by omega), key _ b2 (by omega), key _ b3 (by omega), key _ b4 (by omega), key _ b5 (by omega), key _ b6 (by omega), key _ b7 (by omega)]
theorem numV_lt8 (b0 b1 b2 b3 b4 b5 b6 b7 : UInt8) : numV [b0, b1, b2, b3, b4, b5, b6, b7] 0 < 18446744073709551616 := by
  have h0 := b0.toNat_lt; have h1 := b1.toNat_lt; have h2 := b2.toNat_lt; have h3 := b3.toNat_lt; have h4 := b4.toNat_lt; have h5 := b5.toNat_lt; have h6 := b6.toNat_lt; have h7 := b7.toNat_lt
  simp only [numV]
  omega
theorem nb_sign (v : Nat) (h : v < 18446744073709551616) : nb (signV v) = v := by
  unfold nb signV
  split <;> omega
theorem sign_fits (v : Nat) (h : v < 18446744073709551616) : -9223372036854775808 ≤ signV v ∧ signV v < 9223372036854775808 := by
  unfold signV
  split <;> omega
theorem rdN_ok {q r' : List UInt8} {x : It} (h : rdN q = .ok (x, r')) : 35 :: q = oneB x ++ r' ∧ mayB x = true ∧ fits x := by
  unfold rdN at h
  by_cases h2 : q.length < 8
  · rw [if_pos h2] at h; exact absurd h (by simp)
  · rw [if_neg h2] at h
    injection h with h
    injection h with hx hr
    subst hx hr
    match q, h2 with
    | b0 :: b1 :: b2 :: b3 :: b4 :: b5 :: b6 :: b7 :: z, _ =>
      have hlt := numV_lt8 b0 b1 b2 b3 b4 b5 b6 b7
      refine ⟨?_, rfl, sign_fits _ hlt⟩
      show _ = (35 :: numB (nb (signV (numV [b0, b1, b2, b3, b4, b5, b6, b7] 0)))) ++ z
      rw [nb_sign _ hlt, numB_of]; rfl
    | [], h2 => exact absurd (by simp) h2
    | [_], h2 => exact absurd (by simp) h2
    | [_, _], h2 => exact absurd (by simp) h2
    | [_, _, _], h2 => exact absurd (by simp) h2
    | [_, _, _, _], h2 => exact absurd (by simp) h2
    | [_, _, _, _, _], h2 => exact absurd (by simp) h2
    | [_, _, _, _, _, _], h2 => exact absurd (by simp) h2
    | [_, _, _, _, _, _, _], h2 => exact absurd (by simp) h2
theorem rdT_ok {q r' : List UInt8} {x : It} (h : rdT q = .ok (x, r')) : 36 :: q = oneB x ++ r' ∧ mayB x = true ∧ fits x := by
  match q with
  | [] => exact absurd h (by simp [rdT])
  | [_] => exact absurd h (by simp [rdT])
  | a :: b :: z =>
    rw [rdT] at h
    by_cases h4 : z.length < a.toNat * 256 + b.toNat
    · rw [if_pos h4] at h; exact absurd h (by simp)
    · rw [if_neg h4] at h
      injection h with h
      injection h with hx hr
      subst hx hr
      have hsz : (⟨(z.take (a.toNat * 256 + b.toNat)).toArray⟩ : ByteArray).size = a.toNat * 256 + b.toNat := by
        show (z.take (a.toNat * 256 + b.toNat)).toArray.size = _
        simp; omega
      have ha := a.toNat_lt
      have hb := b.toNat_lt
      refine ⟨?_, ?_, (by decide : -9223372036854775808 ≤ (0 : Int) ∧ (0 : Int) < 9223372036854775808)⟩
      · show _ = (36 :: (two (⟨(z.take (a.toNat * 256 + b.toNat)).toArray⟩ : ByteArray).size ++ z.take (a.toNat * 256 + b.toNat))) ++ z.drop (a.toNat * 256 + b.toNat)
        rw [hsz, two_of]
        simp
      · show (decide ((0 : Int) = 0) && decide ((⟨(z.take (a.toNat * 256 + b.toNat)).toArray⟩ : ByteArray).size ≤ 65535)) = true
        rw [hsz]; simp; omega
/-- what is read is written so -/
theorem rd_ok {r r' : List UInt8} {x : It} (h : rd r = .ok (x, r')) : r = oneB x ++ r' ∧ mayB x = true ∧ fits x := by
  match r with
  | [] => exact absurd h (by simp [rd])
  | c :: q =>
    rw [rd] at h
    by_cases h1 : c = 35
    · rw [if_pos h1] at h; rw [h1]; exact rdN_ok h
    · rw [if_neg h1] at h
      by_cases h3 : c = 36
      · rw [if_pos h3] at h; rw [h3]; exact rdT_ok h
      · rw [if_neg h3] at h; exact absurd h (by simp)
theorem rd_err {r : List UInt8} {e : Int} (h : rd r = .error e) : e = 30 ∨ e = 3 := by
  match r with
  | [] => rw [rd] at h; injection h with h; exact .inl h.symm
  | c :: q =>
    rw [rd] at h
    by_cases h1 : c = 35
    · rw [if_pos h1] at h
      unfold rdN at h
      by_cases h2 : q.length < 8
      · rw [if_pos h2] at h; injection h with h; exact .inl h.symm
      · rw [if_neg h2] at h; exact absurd h (by simp)
    · rw [if_neg h1] at h
      by_cases h3 : c = 36
      · rw [if_pos h3] at h
        match q with
        | [] => rw [rdT] at h; injection h with h; exact .inl h.symm; intro _ _ _ hh; cases hh
        | [_] => rw [rdT] at h; injection h with h; exact .inl h.symm; intro _ _ _ hh; cases hh
        | a :: b :: z =>
          rw [rdT] at h
          by_cases h4 : z.length < a.toNat * 256 + b.toNat
          · rw [if_pos h4] at h; injection h with h; exact .inl h.symm
          · rw [if_neg h4] at h; exact absurd h (by simp)
      · rw [if_neg h3] at h; injection h with h; exact .inr h.symm
theorem rds_err : ∀ (k : Nat) {r : List UInt8} {p : Nat} {e : Int}, rds k r = .error (p, e) → (e = 30 ∨ e = 3) ∧ p ≤ r.length
  | 0, r, p, e, h => by rw [rds] at h; exact absurd h (by simp)
  | k + 1, r, p, e, h => by
    rw [rds] at h
    cases hr : rd r with
    | error e1 =>
      rw [hr] at h
      injection h with h
      injection h with h1 h2
      subst h1 h2
      exact ⟨rd_err hr, Nat.le_refl _⟩
    | ok q =>
      obtain ⟨x, r1⟩ := q
      rw [hr] at h
      simp only [] at h
      have hl : r1.length ≤ r.length := by rw [(rd_ok hr).1, List.length_append]; omega
      cases hk : rds k r1 with
      | error e1 =>
        rw [hk] at h
        injection h with h
        subst h
        have := rds_err k hk
        exact ⟨this.1, by omega⟩
      | ok q => rw [hk] at h; exact absurd h (by simp)
theorem rds_ok : ∀ (k : Nat) {r r' : List UInt8} {l : List It}, rds k r = .ok (l, r') → r = bodyB l ++ r' ∧ l.length = k ∧ allMay l = true ∧ ∀ x ∈ l, fits x
  | 0, r, r', l, h => by
    simp only [rds] at h
    injection h with h
    injection h with h1 h2
    subst h1 h2
    exact ⟨rfl, rfl, rfl, fun x hx => by cases hx⟩
  | k + 1, r, r', l, h => by
    simp only [rds] at h
    cases hr : rd r with
    | error e => rw [hr] at h; exact absurd h (by simp)
    | ok p =>
      obtain ⟨x, r1⟩ := p
      rw [hr] at h
      simp only [] at h
      cases hk : rds k r1 with
      | error e => rw [hk] at h; exact absurd h (by simp)
      | ok p =>
        obtain ⟨l1, r2⟩ := p
        rw [hk] at h
        simp only [] at h
        injection h with h
        injection h with h1 h2
        subst h1 h2
        obtain ⟨a1, a2, a3⟩ := rd_ok hr
        obtain ⟨b1, b2, b3, b4⟩ := rds_ok k hk
        refine ⟨?_, by rw [List.length_cons, b2], ?_, ?_⟩
        · rw [a1, b1, bodyB, List.append_assoc]
        · rw [allMay, a2, b3]; rfl
        · intro y hy
          rcases List.mem_cons.1 hy with rfl | hy
          · exact a3
          · exact b4 y hy
/-- THERE AND BACK, the second half -/
theorem enc_dec (b : List UInt8) (l : List It) (p : Nat) (h : decB b = (l, p, 0)) : p = 0 ∧ encE l = 0 ∧ bytesB l = b ∧ ∀ x ∈ l, fits x := by
  unfold decB at h
  by_cases h1 : 65536 < b.length
  · rw [if_pos h1] at h; simp at h
  · rw [if_neg h1] at h
    by_cases h2 : b.length < 2
    · rw [if_pos h2] at h; simp at h
    · rw [if_neg h2] at h
      by_cases h3 : 1000 < manyB b
      · rw [if_pos h3] at h; simp at h
      · rw [if_neg h3] at h
        match b, h2 with
        | a :: c :: z, _ =>
          cases hk : rds (manyB (a :: c :: z)) ((a :: c :: z).drop 2) with
          | error e =>
            rw [hk] at h
            obtain ⟨r, e⟩ := e
            injection h with e1 e2
            injection e2 with e2 e3
            rcases (rds_err _ hk).1 with h5 | h5 <;> omega
          | ok q =>
            obtain ⟨l1, r⟩ := q
            rw [hk] at h
            simp only [] at h
            by_cases h4 : r = []
            · rw [if_pos h4] at h
              injection h with e1 e2
              injection e2 with e2 e3
              subst e1 e2 h4
              obtain ⟨a1, a2, a3, a4⟩ := rds_ok _ hk
              have hb : bytesB l1 = a :: c :: z := by
                have hz : z = bodyB l1 := by rw [List.append_nil] at a1; exact a1
                unfold bytesB
                rw [a2, ← hz]
                show two (a.toNat * 256 + c.toNat) ++ z = _
                rw [two_of]; rfl
              exact ⟨rfl, encE_of (by omega) a3 (by rw [hb]; omega), hb, a4⟩
            · rw [if_neg h4] at h; simp at h
        | [], h2 => exact absurd (by simp) h2
        | [_], h2 => exact absurd (by simp) h2
theorem rd_cut (x : It) (hm : mayB x = true) (j : Nat) (h : j < (oneB x).length) : rd ((oneB x).take j) = .error 30 := by
  obtain ⟨t, n, s⟩ := x
  match j with
  | 0 => rfl
  | j + 1 =>
    cases t with
    | true =>
      have hl : s.data.toList.length = s.size := by rw [Array.length_toList]; rfl
      have hm' : decide (n = 0) = true ∧ decide (s.size ≤ 65535) = true := by simpa only [mayB, if_true, Bool.and_eq_true] using hm
      have hs : s.size ≤ 65535 := of_decide_eq_true hm'.2
      have h' : j < 2 + s.size := by
        have : (oneB ⟨true, n, s⟩).length = 1 + (2 + s.size) := by show (36 :: (two s.size ++ s.data.toList)).length = _; rw [List.length_cons, List.length_append, two_length, hl]; omega
        omega
      show rd (36 :: (two s.size ++ s.data.toList).take j) = _
      rw [rd_text]
      match j, h' with
      | 0, _ => rfl
      | 1, _ => rfl
      | j + 2, h' =>
        show rdT (UInt8.ofNat (s.size / 256) :: UInt8.ofNat (s.size % 256) :: s.data.toList.take j) = _
        rw [rdT, byte_of, byte_of, if_pos (by rw [List.length_take, hl]; omega)]
    | false =>
      have h' : j < 8 := by
        have : (oneB ⟨false, n, s⟩).length = 9 := rfl
        omega
      show rd (35 :: (numB (nb n)).take j) = _
      rw [rd_num, rdN, if_pos (by rw [List.length_take, numB_length]; omega)]
theorem rds_cut (l : List It) (hm : allMay l = true) (hf : ∀ x ∈ l, fits x) : ∀ j, j < (bodyB l).length → ∃ p, rds l.length ((bodyB l).take j) = .error (p, 30) ∧ p ≤ j := by
  induction l with
  | nil => intro j h; exact absurd h (Nat.not_lt_zero _)
  | cons x l ih =>
    intro j h
    simp only [allMay, Bool.and_eq_true] at hm
    rw [bodyB, List.length_append] at h
    rw [List.length_cons, rds, bodyB]
    by_cases hj : j < (oneB x).length
    · rw [List.take_append_of_le_length (by omega), rd_cut x hm.1 j hj]
      exact ⟨j, by simp; omega, Nat.le_refl _⟩
    · rw [List.take_append, List.take_of_length_le (by omega), rd_one x hm.1 (hf x List.mem_cons_self)]
      obtain ⟨p, h1, h2⟩ := ih hm.2 (fun y hy => hf y (List.mem_cons_of_mem _ hy)) (j - (oneB x).length) (by omega)
      simp only []
      rw [h1]
      exact ⟨p, rfl, by omega⟩
/-- a beginning that is not all of a list's bytes -/
theorem dec_cut (l : List It) (h : encE l = 0) (hf : ∀ x ∈ l, fits x) (c : Nat) (hc : c < (bytesB l).length) : ∃ p, decB ((bytesB l).take c) = ([], p, 30) ∧ p ≤ c := by
  obtain ⟨h1, h2, h3⟩ := encE_zero h
  have hl := bytesB_length l
  have htl : ((bytesB l).take c).length = c := by rw [List.length_take]; omega
  unfold decB
  rw [if_neg (by omega)]
  by_cases hc2 : c < 2
  · rw [if_pos (by omega)]; exact ⟨0, rfl, by omega⟩
  · rw [if_neg (by omega)]
    obtain ⟨d, rfl⟩ : ∃ d, c = d + 2 := ⟨c - 2, by omega⟩
    have hm : manyB ((bytesB l).take (d + 2)) = l.length := two_many l.length (by omega) ((bodyB l).take d)
    have hd : ((bytesB l).take (d + 2)).drop 2 = (bodyB l).take d := rfl
    obtain ⟨p, h4, h5⟩ := rds_cut l h2 hf d (by omega)
    rw [hm, if_neg (by omega), hd, h4]
    exact ⟨_, rfl, by omega⟩
theorem allMay_append (a b : List It) : allMay (a ++ b) = (allMay a && allMay b) := by
  induction a with
  | nil => simp [allMay]
  | cons x a ih => simp [allMay, ih, Bool.and_assoc]
theorem bodyB_append (a b : List It) : bodyB (a ++ b) = bodyB a ++ bodyB b := by
  induction a with
  | nil => rfl
  | cons x a ih => rw [List.cons_append, bodyB, bodyB, ih, List.append_assoc]
theorem bytesB_append (a b : List It) : bytesB (a ++ b) = two (a.length + b.length) ++ (bodyB a ++ bodyB b) := by unfold bytesB; rw [bodyB_append, List.length_append]
theorem encE_three (l : List It) : encE l = 0 ∨ encE l = 2 ∨ encE l = 4 := by
  unfold encE
  split
  · exact .inr (.inl rfl)
  · split
    · exact .inr (.inr rfl)
    · split
      · exact .inr (.inl rfl)
      · exact .inl rfl
/-- two lists put together, each of which may be -/
theorem join_ok (a b : List It) (ha : encE a = 0) (hb : encE b = 0) :
    (encE (a ++ b) = 2 ∧ (1000 < a.length + b.length ∨ 65536 + 2 < (bytesB a).length + (bytesB b).length)) ∨ (encE (a ++ b) = 0 ∧ a.length + b.length ≤ 1000) := by
  obtain ⟨a1, a2, a3⟩ := encE_zero ha
  obtain ⟨b1, b2, b3⟩ := encE_zero hb
  have e1 : (a ++ b).length = a.length + b.length := List.length_append
  have e2 : allMay (a ++ b) = true := by rw [allMay_append, a2, b2]; rfl
  have e3 : (bytesB (a ++ b)).length + 2 = (bytesB a).length + (bytesB b).length := by
    rw [bytesB_length, bytesB_length, bytesB_length, bodyB_append, List.length_append]; omega
  by_cases h1 : 1000 < a.length + b.length
  · left
    refine ⟨?_, .inl h1⟩
    unfold encE
    rw [if_pos (by omega)]
  · by_cases h2 : 65536 < (bytesB (a ++ b)).length
    · left
      refine ⟨?_, .inr (by omega)⟩
      unfold encE
      rw [if_neg (by omega), if_neg (by rw [e2]; decide), if_pos h2]
    · exact .inr ⟨encE_of (by omega) e2 (by omega), by omega⟩
theorem join_bad (a b : List It) (h : encE a ≠ 0 ∨ encE b ≠ 0) : encE (a ++ b) ≠ 0 := by
  intro hz
  obtain ⟨h1, h2, h3⟩ := encE_zero hz
  rw [List.length_append] at h1
  rw [allMay_append, Bool.and_eq_true] at h2
  have e3 : (bytesB (a ++ b)).length + 2 = (bytesB a).length + (bytesB b).length := by
    rw [bytesB_length, bytesB_length, bytesB_length, bodyB_append, List.length_append]; omega
  have la := bytesB_length a
  have lb := bytesB_length b
  rcases h with h | h
  · exact h (encE_of (by omega) h2.1 (by omega))
  · exact h (encE_of (by omega) h2.2 (by omega))
/-- the chapter's example, and a number below 0 -/
def exList : List It := [⟨false, 1, ⟨#[]⟩⟩, ⟨true, 0, ⟨#[97, 98]⟩⟩]
theorem ex_enc : encE exList = 0 ∧ bytesB exList = [0, 2, 35, 0, 0, 0, 0, 0, 0, 0, 1, 36, 0, 2, 97, 98] := by decide +kernel
def exOne : List It := [⟨false, -1, ⟨#[]⟩⟩]
theorem ex_one : encE exOne = 0 ∧ bytesB exOne = [0, 1, 35, 255, 255, 255, 255, 255, 255, 255, 255] := by decide +kernel
theorem ex_dec : decB [0, 1, 35, 255, 255, 255, 255, 255, 255, 255, 255] = (exOne, 0, 0) := by
  rw [← ex_one.2]
  exact dec_enc exOne ex_one.1 (fun x hx => by rw [List.mem_singleton.1 hx]; exact ⟨by decide, by decide⟩)
theorem dec_faults (b : List UInt8) (h : (decB b).2.2 ≠ 0) : (decB b).1 = [] := by
  unfold decB at h ⊢
  by_cases h1 : 65536 < b.length
  · rw [if_pos h1]
  · rw [if_neg h1] at h ⊢
    by_cases h2 : b.length < 2
    · rw [if_pos h2]
    · rw [if_neg h2] at h ⊢
      by_cases h3 : 1000 < manyB b
      · rw [if_pos h3]
      · rw [if_neg h3] at h ⊢
        cases hk : rds (manyB b) (b.drop 2) with
        | error e => rfl
        | ok q =>
          obtain ⟨l, r⟩ := q
          rw [hk] at h
          simp only [] at h ⊢
          by_cases h4 : r = []
          · rw [if_pos h4] at h; exact absurd rfl h
          · rw [if_neg h4]
end Go.Proofs.YtmbgcpmapaedcaaGreatDoor.Wi
