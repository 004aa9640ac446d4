/- Parts that may be are a tree; shown parts are read as just these; an expression is read as far as it goes; names, rising. | The contracts of num.Fits and of expr.isNumber, operationOf, conversionTo and operands. -/
import Derived.Test.YtldjiieckddhkaaGreatDoorShwE
import Derived.Test.YtldjiieckddhkaaGreatDoorEwW
namespace Go.Proofs.YtldjiieckddhkaaGreatDoor
/-- trees built of parts, the last one first -/
def build : List Pt → List Ex → Option (List Ex)
  | [], st => some st
  | p :: x, st =>
    if takes p = 0 then build x (.leaf p :: st)
    else if takes p = 1 then (match st with
      | a :: r => build x (.one p a :: r)
      | [] => none)
    else (match st with
      | b :: a :: r => build x (.two p a b :: r)
      | _ => none)
theorem build_depths : ∀ (x : List Pt) (st : List Ex), depths x (st.map dep) = (build x st).map (·.map dep)
  | [], st => rfl
  | p :: x, st => by
    unfold depths build
    split
    · exact build_depths x (.leaf p :: st)
    · split
      · cases st with
        | nil => rfl
        | cons a r => exact build_depths x (.one p a :: r)
      · match st with
        | [] => rfl
        | [a] => rfl
        | b :: a :: r => exact build_depths x (.two p a b :: r)
def flats : List Ex → List Pt
  | [] => []
  | e :: r => flats r ++ flat e
theorem takes_le (p : Pt) : takes p ≤ 2 := by
  unfold takes
  repeat' split
  all_goals omega
theorem build_flat : ∀ {x : List Pt} {st st' : List Ex}, build x st = some st' → flats st' = flats st ++ x
  | [], st, st', h => by
    have h' : some st = some st' := h
    injection h' with h
    rw [h, List.append_nil]
  | p :: x, st, st', h => by
    unfold build at h
    split at h
    · rw [build_flat h]
      show (flats st ++ [p]) ++ x = _
      simp
    · split at h
      · split at h
        · next a r =>
          rw [build_flat h]
          show (flats r ++ (flat a ++ [p])) ++ x = (flats r ++ flat a) ++ p :: x
          simp
        · cases h
      · split at h
        · next b a r =>
          rw [build_flat h]
          show (flats r ++ (flat a ++ (flat b ++ [p]))) ++ x = ((flats r ++ flat a) ++ flat b) ++ p :: x
          simp
        · cases h
theorem build_well : ∀ {x : List Pt} {st st' : List Ex}, build x st = some st' → (∀ p ∈ x, mayP p = true) → (∀ e ∈ st, well e) → ∀ e ∈ st', well e
  | [], st, st', h, _, hw => by
    have h' : some st = some st' := h
    injection h' with h
    rw [← h]; exact hw
  | p :: x, st, st', h, hm, hw => by
    have hp := hm p List.mem_cons_self
    have hx : ∀ q ∈ x, mayP q = true := fun q hq => hm q (List.mem_cons_of_mem p hq)
    unfold build at h
    split at h
    · next h0 =>
      exact build_well h hx (fun e he => by
        rcases List.mem_cons.1 he with rfl | he
        · exact ⟨h0, hp⟩
        · exact hw e he)
    · next h0 =>
      split at h
      · next h1 =>
        split at h
        · next a r =>
          exact build_well h hx (fun e he => by
            rcases List.mem_cons.1 he with rfl | he
            · exact ⟨h1, hp, hw a List.mem_cons_self⟩
            · exact hw e (List.mem_cons_of_mem a he))
        · cases h
      · next h1 =>
        split at h
        · next b a r =>
          have h2 : takes p = 2 := by have := takes_le p; omega
          exact build_well h hx (fun e he => by
            rcases List.mem_cons.1 he with rfl | he
            · exact ⟨h2, hp, hw a (List.mem_cons_of_mem b List.mem_cons_self), hw b List.mem_cons_self⟩
            · exact hw e (List.mem_cons_of_mem b (List.mem_cons_of_mem a he)))
        · cases h
def checkP (x : List Pt) : Int := if 500 < x.length then 2 else if x.all mayP = false then 60 else if depth x = 0 ∨ 24 < depth x then 60 else 0
/-- parts that may be are one tree -/
theorem check_tree {x : List Pt} (h : checkP x = 0) : ∃ e, well e ∧ flat e = x ∧ dep e = depth x ∧ dep e ≤ 24 ∧ x.length ≤ 500 := by
  unfold checkP at h
  split at h
  · cases h
  · next hl =>
    split at h
    · cases h
    · next ha =>
      split at h
      · cases h
      · next hd =>
        have hd' : depth x ≠ 0 ∧ depth x ≤ 24 := by omega
        have hb := build_depths x []
        have hm : ∀ p ∈ x, mayP p = true := fun p hp => by
          have := (List.all_eq_true.1 (by simpa using ha)) p hp
          exact this
        have he : depth x = match depths x [] with
          | some [d] => d
          | _ => 0 := rfl
        have hb' : depths x [] = (build x []).map (·.map dep) := hb
        rw [hb'] at he
        cases hbu : build x [] with
        | none => rw [hbu] at he; exact absurd he hd'.1
        | some st =>
          rw [hbu] at he
          match st, hbu, he with
          | [], hbu, he => exact absurd he hd'.1
          | [e], hbu, he =>
            have hf := build_flat hbu
            have hw := build_well hbu hm (fun e he => by cases he) e List.mem_cons_self
            have hf' : flat e = x := by simpa [flats] using hf
            have hde : depth x = dep e := he
            exact ⟨e, hw, hf', hde.symm, by omega, by omega⟩
          | a :: b :: r, hbu, he => exact absurd he hd'.1
theorem stops_nil : stops [] := fun t q e => by cases e
/-- shown parts are read as just these -/
theorem parse_show {x : List Pt} (h : checkP x = 0) : ∃ e, flat e = x ∧ well e ∧ dep e ≤ 24 ∧ parse (showE e false) = .ok (x, []) := by
  obtain ⟨e, hw, hf, hd, h24, h500⟩ := check_tree h
  refine ⟨e, hf, hw, h24, ?_⟩
  have hr := (shown hw).2 0 [] stops_nil (by omega)
  rw [List.append_nil, hf] at hr
  have hq := reads_rd hr (fuel (showE e false)) (by simp only [fuel, rank]; omega)
  unfold parse
  rw [hq]
  simp only []
  rw [if_neg (by omega)]
/-- an expression is read as far as it goes -/
theorem parse_stops {l r : List Tk} {x : List Pt} (h : parse l = .ok (x, r)) {s : List Tk} (hs : stops s) : ∃ p, l = p ++ r ∧ parse (p ++ s) = .ok (x, s) := by
  unfold parse at h
  split at h
  · cases h
  · cases h
  · next y r' hr =>
    split at h
    · cases h
    · next hl =>
      simp only [Except.ok.injEq, Prod.mk.injEq] at h
      obtain ⟨rfl, rfl⟩ := h
      obtain ⟨p, e, k⟩ := (rd_reads hr).swap
      refine ⟨p, e, ?_⟩
      have hq := reads_rd (k s (.inr hs)) (fuel (p ++ s)) (by simp only [fuel, rank]; omega)
      unfold parse
      rw [hq]
      simp only []
      rw [if_neg hl]
/-! names -/
def ltB : Bs → Bs → Bool
  | [], [] => false
  | [], _ :: _ => true
  | _ :: _, [] => false
  | a :: x, b :: y => if a < b then true else if b < a then false else ltB x y
theorem ltB_irr : ∀ a : Bs, ltB a a = false
  | [] => rfl
  | a :: x => by
    unfold ltB
    rw [if_neg (UInt8.lt_irrefl a), if_neg (UInt8.lt_irrefl a)]
    exact ltB_irr x
theorem ltB_tri : ∀ a b : Bs, ltB a b = false → ltB b a = false → a = b
  | [], [], _, _ => rfl
  | [], _ :: _, h, _ => by cases h
  | _ :: _, [], _, h => by cases h
  | a :: x, b :: y, h, h' => by
    unfold ltB at h h'
    split at h
    · cases h
    · next h1 =>
      split at h
      · next h2 => rw [if_pos h2] at h'; cases h'
      · next h2 =>
        rw [if_neg h2, if_neg h1] at h'
        have e : a = b := UInt8.le_antisymm (UInt8.not_lt.1 h2) (UInt8.not_lt.1 h1)
        rw [e, ltB_tri x y h h']
theorem ltB_trans : ∀ {a b c : Bs}, ltB a b = true → ltB b c = true → ltB a c = true
  | [], [], c, h, _ => by cases h
  | [], _ :: _, [], _, h => by cases h
  | [], _ :: _, _ :: _, _, _ => rfl
  | _ :: _, [], c, h, _ => by cases h
  | _ :: _, _ :: _, [], _, h => by cases h
  | a :: x, b :: y, c :: z, h, h' => by
    unfold ltB at h h' ⊢
    split at h
    · next h1 =>
      split at h'
      · next h2 => rw [if_pos (UInt8.lt_trans h1 h2)]
      · next h2 =>
        split at h'
        · cases h'
        · next h3 =>
          have e : b = c := UInt8.le_antisymm (UInt8.not_lt.1 h3) (UInt8.not_lt.1 h2)
          rw [← e, if_pos h1]
    · next h1 =>
      split at h
      · cases h
      · next h4 =>
        have e : a = b := UInt8.le_antisymm (UInt8.not_lt.1 h4) (UInt8.not_lt.1 h1)
        rw [e]
        split at h'
        · next h2 => rw [if_pos h2]
        · next h2 =>
          split at h'
          · cases h'
          · next h3 => rw [if_neg h2, if_neg h3]; exact ltB_trans h h'
/-- a name put where it belongs, if it is not there -/
def insN : List Bs → Bs → List Bs
  | [], s => [s]
  | a :: r, s => if ltB a s then a :: insN r s else if a = s then a :: r else s :: a :: r
def namesP (x : List Pt) : List Bs := x.foldl (fun out p => if p.s = [] then out else insN out p.s) []
theorem mem_ins : ∀ (l : List Bs) (s y : Bs), y ∈ insN l s ↔ y ∈ l ∨ y = s
  | [], s, y => by simp [insN]
  | a :: r, s, y => by
    unfold insN
    split
    · rw [List.mem_cons, List.mem_cons, mem_ins r s y, or_assoc]
    · split
      · next e => subst e; constructor
                  · exact .inl
                  · rintro (h | rfl)
                    · exact h
                    · exact List.mem_cons_self
      · rw [List.mem_cons]
        exact or_comm
theorem ins_sorted : ∀ (l : List Bs) (s : Bs), l.Pairwise (fun a b => ltB a b = true) → (insN l s).Pairwise (fun a b => ltB a b = true)
  | [], s, _ => List.pairwise_singleton _ _
  | a :: r, s, h => by
    obtain ⟨h1, h2⟩ := List.pairwise_cons.1 h
    unfold insN
    split
    · next hl =>
      refine List.pairwise_cons.2 ⟨fun b hb => ?_, ins_sorted r s h2⟩
      rcases (mem_ins r s b).1 hb with hb | rfl
      · exact h1 b hb
      · exact hl
    · next hl =>
      split
      · exact h
      · next hne =>
        have hs : ltB s a = true := by
          cases hx : ltB s a with
          | true => rfl
          | false => exact absurd (ltB_tri a s (by simpa using hl) hx) hne
        refine List.pairwise_cons.2 ⟨fun b hb => ?_, h⟩
        rcases List.mem_cons.1 hb with rfl | hb
        · exact hs
        · exact ltB_trans hs (h1 b hb)
theorem names_fold : ∀ (x : List Pt) (out : List Bs), out.Pairwise (fun a b => ltB a b = true) → (x.foldl (fun out p => if p.s = [] then out else insN out p.s) out).Pairwise (fun a b => ltB a b = true) ∧ ∀ y, y ∈ x.foldl (fun out p => if p.s = [] then out else insN out p.s) out ↔ y ∈ out ∨ ∃ p ∈ x, p.s = y ∧ p.s ≠ []
  | [], out, h => ⟨h, fun y => by simp⟩
  | p :: x, out, h => by
    rw [List.foldl_cons]
    by_cases hp : p.s = []
    · rw [if_pos hp]
      obtain ⟨a, b⟩ := names_fold x out h
      refine ⟨a, fun y => ?_⟩
      rw [b y]
      constructor
      · rintro (h | ⟨q, hq, h⟩)
        · exact .inl h
        · exact .inr ⟨q, List.mem_cons_of_mem p hq, h⟩
      · rintro (h | ⟨q, hq, h⟩)
        · exact .inl h
        · rcases List.mem_cons.1 hq with rfl | hq
          · exact absurd hp h.2
          · exact .inr ⟨q, hq, h⟩
    · rw [if_neg hp]
      obtain ⟨a, b⟩ := names_fold x (insN out p.s) (ins_sorted out p.s h)
      refine ⟨a, fun y => ?_⟩
      rw [b y, mem_ins]
      constructor
      · rintro ((h | rfl) | ⟨q, hq, h⟩)
        · exact .inl h
        · exact .inr ⟨p, List.mem_cons_self, rfl, hp⟩
        · exact .inr ⟨q, List.mem_cons_of_mem p hq, h⟩
      · rintro (h | ⟨q, hq, h⟩)
        · exact .inl (.inl h)
        · rcases List.mem_cons.1 hq with rfl | hq
          · exact .inl (.inr h.1.symm)
          · exact .inr ⟨q, hq, h⟩
theorem names_sorted (x : List Pt) : (namesP x).Pairwise (fun a b => ltB a b = true) := (names_fold x [] List.Pairwise.nil).1
theorem mem_names (x : List Pt) (y : Bs) : y ∈ namesP x ↔ ∃ p ∈ x, p.s = y ∧ p.s ≠ [] := by
  unfold namesP
  rw [(names_fold x [] List.Pairwise.nil).2 y]
  simp
/-- two expressions put together by an operation: the names of both -/
theorem names_two (a b : List Pt) (n : Int) (y : Bs) : y ∈ namesP (a ++ (b ++ [opP n])) ↔ y ∈ namesP a ∨ y ∈ namesP b := by
  rw [mem_names, mem_names, mem_names]
  constructor
  · rintro ⟨p, hp, h⟩
    rcases List.mem_append.1 hp with hp | hp
    · exact .inl ⟨p, hp, h⟩
    · rcases List.mem_append.1 hp with hp | hp
      · exact .inr ⟨p, hp, h⟩
      · rw [List.mem_singleton.1 hp] at h; exact absurd rfl h.2
  · rintro (⟨p, hp, h⟩ | ⟨p, hp, h⟩)
    · exact ⟨p, List.mem_append.2 (.inl hp), h⟩
    · exact ⟨p, List.mem_append.2 (.inr (List.mem_append.2 (.inl hp))), h⟩
end Go.Proofs.YtldjiieckddhkaaGreatDoor
namespace Go.Proofs.YtldjiieckddhkaaGreatDoor
open Go.RowKit
def tyB (t : Int) : Bool := decide (1 ≤ t) && decide (t ≤ 4)
set_option maxRecDepth 100000 in
theorem isType_any (t : Int) (w : World) : Calls Tryz.prog 32 #[.int .i64 t] w fun e w' => e = .returned (.bool (tyB t)) ∧ w' = w := by
  have E := hide (show tyB t = (decide (1 ≤ t) && decide (t ≤ 4)) from rfl)
  by_cases h1 : 1 ≤ t
  · by_cases h2 : t ≤ 4
    · rw [E.out, decide_eq_true h1, decide_eq_true h2]
      clear E
      go_enter Tryz.func32, Tryz.ntmps32
      go_wp2
      go_ret
      exact ⟨rfl, rfl⟩
    · rw [E.out, decide_eq_true h1, decide_eq_false h2]
      clear E
      go_enter Tryz.func32, Tryz.ntmps32
      go_wp2
      go_ret
      exact ⟨rfl, rfl⟩
  · rw [E.out, decide_eq_false h1]
    clear E
    go_enter Tryz.func32, Tryz.ntmps32
    go_wp2
    go_ret
    exact ⟨rfl, rfl⟩
set_option maxRecDepth 100000 in
theorem fits_all (t n : Int) (w : World) (hg : TabAt w 0 spanTab) : Calls Tryz.prog 19 #[.int .i64 t, .int .i64 n] w fun e w' => e = .returned (.bool (fit6 t n)) ∧ w' = w := by
  have g0 := hg 2 _ rfl
  have g1 := hg 3 _ rfl
  have g2 := hg 4 _ rfl
  have g3 := hg 5 _ rfl
  have g4 := hg 6 _ rfl
  have g5 := hg 7 _ rfl
  have g6 := hg 8 _ rfl
  have g7 := hg 9 _ rfl
  clear hg
  have c := isType_any t
  by_cases ht : t = 1 ∨ t = 2 ∨ t = 3 ∨ t = 4
  · have E1 := hide (show fit6 1 n = (decide (0 ≤ n) && decide (n ≤ 1)) by
      show (decide (n = 0) || decide (n = 1)) = _
      rw [Bool.eq_iff_iff]; simp; omega)
    have E2 := hide (show fit6 2 n = (decide (-32768 ≤ n) && decide (n ≤ 32767)) from rfl)
    have E3 := hide (show fit6 3 n = (decide (-2147483648 ≤ n) && decide (n ≤ 2147483647)) from rfl)
    have E4 := hide (show fit6 4 n = (decide (-2147483648 ≤ n) && decide (n ≤ 2147483647)) from rfl)
    rcases ht with rfl | rfl | rfl | rfl
    all_goals
      go_enter Tryz.func19, Tryz.ntmps19
      go_wp2_with fail
      refine (c _).mono ?_
      rintro e w1 ⟨rfl, rfl⟩
      go_wp2
    all_goals
      go_ret
      refine ⟨ret_bool ?_, rfl⟩
      first
        | (rw [E1.out, Bool.eq_iff_iff]; simp; omega)
        | (rw [E2.out, Bool.eq_iff_iff]; simp; omega)
        | (rw [E3.out, Bool.eq_iff_iff]; simp; omega)
        | (rw [E4.out, Bool.eq_iff_iff]; simp; omega)
  · have E : Hid (fit6 t n = false) := by
      show _ = _
      unfold fit6
      rw [if_neg (by omega), if_neg (by omega), if_neg (by omega)]
    rw [show tyB t = false from by unfold tyB; rw [Bool.and_eq_false_iff]; simp; omega] at c
    go_enter Tryz.func19, Tryz.ntmps19
    go_wp2_with fail
    refine (c _).mono ?_
    rintro e w1 ⟨rfl, rfl⟩
    go_wp2
    go_ret
    exact ⟨ret_bool E.out.symm, rfl⟩
/-- may a number be? -/
def numB (t n : Int) : Bool := if t = 0 then decide (-2147483648 ≤ n) && decide (n ≤ 2147483648) else fit6 t n
set_option maxRecDepth 100000 in
theorem isNumber_any (t n : Int) (w : World) (hg : TabAt w 0 spanTab) : Calls Tryz.prog 104 #[.int .i64 t, .int .i64 n] w fun e w' => e = .returned (.bool (numB t n)) ∧ w' = w := by
  by_cases ht : t = 0
  · subst ht
    have E : Hid (numB 0 n = (decide (-2147483648 ≤ n) && decide (n ≤ 2147483648))) := rfl
    clear hg
    by_cases h1 : (-2147483648 : Int) ≤ n
    · go_enter Tryz.func104, Tryz.ntmps104
      go_wp2
      go_ret
      exact ⟨ret_bool (by rw [E.out, Bool.eq_iff_iff]; simp; try omega), rfl⟩
    · go_enter Tryz.func104, Tryz.ntmps104
      go_wp2
      go_ret
      exact ⟨ret_bool (by rw [E.out, Bool.eq_iff_iff]; simp; try omega), rfl⟩
  · have E : Hid (numB t n = fit6 t n) := by show _ = _; rw [numB, if_neg ht]
    have c := fits_all t n w hg
    clear hg
    go_enter Tryz.func104, Tryz.ntmps104
    go_wp2_with fail
    refine c.mono ?_
    rintro e w1 ⟨rfl, rfl⟩
    go_wp2
    go_ret
    exact ⟨ret_bool E.out.symm, rfl⟩
end Go.Proofs.YtldjiieckddhkaaGreatDoor
