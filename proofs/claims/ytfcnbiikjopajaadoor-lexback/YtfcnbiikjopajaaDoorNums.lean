/- A number is the same by whatever base it is written, with a _ between its digits or not. -/
import Derived.Test.YtfcnbiikjopajaaDoorBack
namespace Go.Proofs.YtfcnbiikjopajaaDoor
/-- pieces, a blank behind each -/
def blanks : List Bs → Bs
  | [] => []
  | s :: r => s ++ 32 :: blanks r
/-- each piece is one token, whole -/
inductive Each : List Bs → List Tk → Prop
  | nil : Each [] []
  | cons {s : Bs} {t : Tk} {ss : List Bs} {ts : List Tk} (h : oneTok s = some (t, [])) (r : Each ss ts) : Each (s :: ss) (t :: ts)
theorem lexes_pieces : ∀ {ss : List Bs} {ts : List Tk}, Each ss ts → ∃ ps, Lexes (blanks ss) ps ∧ ps.map (·.1) = ts ++ [endT]
  | _, _, .nil => ⟨[(endT, 0)], .fin rfl, rfl⟩
  | s :: ss, t :: ts, .cons h1 h => by
    obtain ⟨ps, hl, he⟩ := lexes_pieces h
    cases s with
    | nil => cases h1
    | cons c q =>
      obtain ⟨k1, k2⟩ := one_start h1
      have h2 := ext_one (d := 32) (by decide) (blanks ss) c q
      rw [h1] at h2
      refine ⟨_, .step (k2 _) h2 (hl.congr (by show skip (32 :: blanks ss) = _; rw [skip_cons, if_pos (by decide)])), ?_⟩
      simp only [List.map_cons, he]; rfl
def rep (base n : Nat) : Bs := repF chL base 40 n
def repP (base n : Nat) (parted : Bool) : Bs := if parted then partL (rep base n) else rep base n
theorem rep_all {base n : Nat} (hb : 2 ≤ base) (hb16 : base ≤ 16) (hn : n < 2147483648) : rep base n ≠ [] ∧ (∀ c ∈ rep base n, worth c < base) ∧ val base 0 (rep base n) = n := by
  have hp : n < base ^ 40 := by
    have h1 : (2 : Nat) ^ 40 ≤ base ^ 40 := Nat.pow_le_pow_left hb 40
    have h2 : (2 : Nat) ^ 40 = 1099511627776 := by decide
    omega
  obtain ⟨a, b, c⟩ := rep_facts (ch := chL) (base := base) hb (fun k hk => (worth_chL k (by omega)).1) 40 n hp (by decide)
  refine ⟨a, fun x hx => ?_, c⟩
  obtain ⟨k, hk, rfl⟩ := b x hx
  rw [(worth_chL k (by omega)).1]; exact hk
theorem digs_rep {base n most : Nat} (hb : 2 ≤ base) (hb16 : base ≤ 16) (hn : n < 2147483648) (hm : 2147483647 ≤ most) (parted : Bool) : digs base most false 0 (repP base n parted) = some (n, []) := by
  obtain ⟨a, b, c⟩ := rep_all hb hb16 hn
  cases parted with
  | false =>
    have := digs_run (most := most) (r := []) (by omega : 1 ≤ base) (rep base n) false 0 a b (by rw [c]; omega)
    rw [List.append_nil, c] at this
    exact this
  | true =>
    have := digs_part (most := most) (r := []) (by omega : 1 ≤ base) hb16 (rep base n) false 0 a b (by rw [c]; omega)
    rw [List.append_nil, c] at this
    exact this
theorem part_mem : ∀ {ds : Bs} {c : UInt8}, c ∈ partL ds → c ∈ ds ∨ c = 95
  | [], c, h => by cases h
  | [x], c, h => .inl h
  | x :: y :: r, c, h => by
    have h' : c ∈ x :: 95 :: partL (y :: r) := h
    rcases List.mem_cons.1 h' with rfl | h'
    · exact .inl List.mem_cons_self
    · rcases List.mem_cons.1 h' with rfl | h'
      · exact .inr rfl
      · exact (part_mem h').imp (List.mem_cons_of_mem x) id
theorem part_head (c : UInt8) (r : Bs) : ∃ q, partL (c :: r) = c :: q := by
  cases r with
  | nil => exact ⟨[], rfl⟩
  | cons a b => exact ⟨_, rfl⟩
theorem dec_dig {c : UInt8} (h : worth c < 10) : isDig c = true ∧ c ≠ 35 := all8 (P := fun c => worth c < 10 → isDig c = true ∧ c ≠ 35) (by decide +kernel) c h
theorem repP10 {n : Nat} (hn : n < 2147483648) (parted : Bool) : (∃ c q, repP 10 n parted = c :: q ∧ isDig c = true) ∧ ∀ c ∈ repP 10 n parted, c ≠ 35 := by
  obtain ⟨a, b, _⟩ := rep_all (base := 10) (by decide) (by decide) hn
  cases hr : rep 10 n with
  | nil => exact absurd hr a
  | cons c q =>
    have hc := dec_dig (b c (by rw [hr]; exact List.mem_cons_self))
    cases parted with
    | false => exact ⟨⟨c, q, hr, hc.1⟩, fun x hx => (dec_dig (b x hx)).2⟩
    | true =>
      obtain ⟨q', hq⟩ := part_head c q
      refine ⟨⟨c, q', by show partL (rep 10 n) = _; rw [hr, hq], hc.1⟩, fun x hx => ?_⟩
      rcases part_mem (show x ∈ partL (rep 10 n) from hx) with h | rfl
      · exact (dec_dig (b x h)).2
      · decide
theorem one_rep10 {n : Nat} (hn : n < 2147483648) (parted : Bool) : oneTok (repP 10 n parted) = some (numT n 0, []) := by
  obtain ⟨⟨c, q, hc, hd⟩, h35⟩ := repP10 hn parted
  have hdg := digs_rep (most := 2147483648) (base := 10) (by decide) (by decide) hn (by decide) parted
  have no35 : ∀ {k : Nat}, (35 : UInt8) ∉ (repP 10 n parted).take k := fun hm => h35 _ (List.mem_of_mem_take hm) rfl
  have hb : based (repP 10 n parted) = some ((n : Int), []) := by
    unfold based
    rw [if_neg (fun e => no35 (k := 2) (by rw [e]; decide)), if_neg (fun e => no35 (k := 2) (by rw [e]; decide)), if_neg (fun e => no35 (k := 3) (by rw [e]; decide)), hdg]; rfl
  rw [hc] at hb ⊢
  unfold oneTok
  simp only []
  rw [(dig_facts hd).1, hd, hb]; rfl
theorem one_rep2 {n : Nat} (hn : n < 2147483648) (parted : Bool) : oneTok ([50, 35] ++ repP 2 n parted) = some (numT n 0, []) := by
  have hdg := digs_rep (most := 4294967295) (base := 2) (by decide) (by decide) hn (by decide) parted
  have hb : based ([50, 35] ++ repP 2 n parted) = (digs 2 4294967295 false 0 (repP 2 n parted)).map fun x => (low32 x.1, x.2) := rfl
  show (based ([50, 35] ++ repP 2 n parted)).map (fun x => (numT x.1 0, x.2)) = _
  rw [hb, hdg]
  show some (numT (low32 n) 0, []) = _
  unfold low32; rw [if_neg (by omega)]
theorem one_rep8 {n : Nat} (hn : n < 2147483648) (parted : Bool) : oneTok ([56, 35] ++ repP 8 n parted) = some (numT n 0, []) := by
  have hdg := digs_rep (most := 4294967295) (base := 8) (by decide) (by decide) hn (by decide) parted
  have hb : based ([56, 35] ++ repP 8 n parted) = (digs 8 4294967295 false 0 (repP 8 n parted)).map fun x => (low32 x.1, x.2) := rfl
  show (based ([56, 35] ++ repP 8 n parted)).map (fun x => (numT x.1 0, x.2)) = _
  rw [hb, hdg]
  show some (numT (low32 n) 0, []) = _
  unfold low32; rw [if_neg (by omega)]
theorem one_rep16 {n : Nat} (hn : n < 2147483648) (parted : Bool) : oneTok ([49, 54, 35] ++ repP 16 n parted) = some (numT n 0, []) := by
  have hdg := digs_rep (most := 4294967295) (base := 16) (by decide) (by decide) hn (by decide) parted
  have hb : based ([49, 54, 35] ++ repP 16 n parted) = (digs 16 4294967295 false 0 (repP 16 n parted)).map fun x => (low32 x.1, x.2) := rfl
  show (based ([49, 54, 35] ++ repP 16 n parted)).map (fun x => (numT x.1 0, x.2)) = _
  rw [hb, hdg]
  show some (numT (low32 n) 0, []) = _
  unfold low32; rw [if_neg (by omega)]
theorem typedN_rep {ty : Int} {n : Nat} (hn : n < 2147483648) (parted : Bool) : typedN ty (repP 10 n parted) = if fitL ty n then some (numT n ty, []) else none := by
  obtain ⟨⟨c, q, hc, hd⟩, _⟩ := repP10 hn parted
  have hdg := digs_rep (most := 2147483648) (base := 10) (by decide) (by decide) hn (by decide) parted
  unfold typedN
  rw [if_neg (by rw [hc]; intro h; exact (dig_facts hd).2.2.1 (Option.some.inj h)), hdg]
theorem one_repD {n : Nat} (hn : n < 2147483648) (parted : Bool) : oneTok ([68, 73, 78, 84, 35] ++ repP 10 n parted) = some (numT n 3, []) := by
  have h := typedN_rep (ty := 3) hn parted
  have hf : fitL 3 (n : Int) = true := by
    unfold fitL
    rw [if_neg (by decide), if_neg (by decide), decide_eq_true (by omega), decide_eq_true (by omega)]; rfl
  rw [hf, if_pos rfl] at h
  exact h
theorem one_repI {n : Nat} (hn : n < 2147483648) : oneTok ([73, 78, 84, 35] ++ repP 10 n false) = if n < 32768 then some (numT n 2, []) else none := by
  have h := typedN_rep (ty := 2) hn false
  have hf : fitL 2 (n : Int) = decide (n < 32768) := by
    unfold fitL
    rw [if_neg (by decide), if_pos rfl, decide_eq_true (show (-32768 : Int) ≤ n by omega), Bool.true_and]
    exact decide_eq_decide.2 (by omega)
  rw [hf] at h
  simp only [decide_eq_true_eq] at h
  exact h
/-- the law's text: ten numbers, a blank behind each -/
def numPieces (n : Nat) : List Bs :=
  [repP 10 n false, [50, 35] ++ repP 2 n false, [56, 35] ++ repP 8 n false, [49, 54, 35] ++ repP 16 n false, [68, 73, 78, 84, 35] ++ repP 10 n false,
   repP 10 n true, [50, 35] ++ repP 2 n true, [56, 35] ++ repP 8 n true, [49, 54, 35] ++ repP 16 n true, [68, 73, 78, 84, 35] ++ repP 10 n true]
def numToks (n : Nat) : List Tk := [numT n 0, numT n 0, numT n 0, numT n 0, numT n 3, numT n 0, numT n 0, numT n 0, numT n 0, numT n 3]
theorem lexes_nums {n : Nat} (hn : n < 2147483648) : ∃ ps, Lexes (blanks (numPieces n)) ps ∧ ps.map (·.1) = numToks n ++ [endT] :=
  lexes_pieces (.cons (one_rep10 hn false) (.cons (one_rep2 hn false) (.cons (one_rep8 hn false) (.cons (one_rep16 hn false) (.cons (one_repD hn false)
    (.cons (one_rep10 hn true) (.cons (one_rep2 hn true) (.cons (one_rep8 hn true) (.cons (one_rep16 hn true) (.cons (one_repD hn true) .nil))))))))))
/-- digits of a base: at most so many -/
theorem repF_len (ch : Nat → UInt8) (base : Nat) : ∀ (f n : Nat), (repF ch base f n).length ≤ f
  | 0, n => Nat.le_refl _
  | f + 1, n => by
    unfold repF
    split
    · simp
    · have := repF_len ch base f (n / base)
      simp; omega
theorem part_len : ∀ ds : Bs, (partL ds).length ≤ 2 * ds.length
  | [] => Nat.le_refl _
  | [x] => by show 1 ≤ 2 * 1; omega
  | x :: y :: r => by
    have h := part_len (y :: r)
    show (x :: 95 :: partL (y :: r)).length ≤ _
    simp only [List.length_cons] at h ⊢
    omega
theorem repP_len (base n : Nat) (parted : Bool) : (repP base n parted).length ≤ 80 := by
  have h := repF_len chL base 40 n
  cases parted with
  | false => show (rep base n).length ≤ 80; unfold rep; omega
  | true =>
    have := part_len (rep base n)
    show (partL (rep base n)).length ≤ 80
    unfold rep at *; omega
theorem nums_len (n : Nat) : (blanks (numPieces n)).length ≤ 65536 := by
  have h := fun b p => repP_len b n p
  simp only [numPieces, blanks, List.length_append, List.length_cons, List.length_nil]
  have := h 10 false; have := h 2 false; have := h 8 false; have := h 16 false; have := h 10 true; have := h 2 true; have := h 8 true; have := h 16 true
  omega
theorem toks_nums {n : Nat} (hn : n < 2147483648) : ∃ ps, toks (blanks (numPieces n)) = .ok ps ∧ ps.map (·.1) = numToks n ++ [endT] := by
  obtain ⟨ps, h1, h2⟩ := lexes_nums hn
  refine ⟨ps, lexes_toks h1 (nums_len n) ?_, h2⟩
  have := congrArg List.length h2
  simp only [List.length_map] at this
  rw [this]; show 11 ≤ 4096; decide
theorem toks_int {n : Nat} (hn : n < 2147483648) : if n < 32768 then ∃ ps, toks ([73, 78, 84, 35] ++ repP 10 n false) = .ok ps else toks ([73, 78, 84, 35] ++ repP 10 n false) = .error (([73, 78, 84, 35] ++ repP 10 n false).length, 50) := by
  have h := one_repI hn
  have hlen : ([73, 78, 84, 35] ++ repP 10 n false : Bs).length ≤ 65536 := by
    have := repP_len 10 n false
    simp; omega
  have hs : skip ([73, 78, 84, 35] ++ repP 10 n false) = .ok ([73, 78, 84, 35] ++ repP 10 n false) := skip_start (by decide) (fun x => absurd x.1 (by decide)) (fun x => absurd x.1 (by decide)) (by decide)
  split
  · next hl =>
    rw [if_pos hl] at h
    exact ⟨_, lexes_toks (.step hs h (.fin rfl)) hlen (by show 2 ≤ 4096; decide)⟩
  · next hl =>
    rw [if_neg hl] at h
    unfold toks
    rw [if_neg (by omega)]
    unfold toksF
    rw [hs]
    simp only []
    rw [if_neg (by decide)]
    show (match oneTok ([73, 78, 84, 35] ++ repP 10 n false) with | none => _ | some (t, r') => _) = _
    rw [h]; rfl
end Go.Proofs.YtfcnbiikjopajaaDoor
