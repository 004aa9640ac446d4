/- Tokens shown as a text, and back. -/
import Derived.Test.YtldjiieckddhkaaGreatDoorMg2
namespace Go.Proofs.YtldjiieckddhkaaGreatDoor
/-! the notes between two texts -/
theorem between1 (b : Bs) : skip (10 :: ([] ++ b)) = skip b := by simp [skip_cons, isBlk]
theorem between2 (b : Bs) : skip (10 :: ([40, 42, 32, 59, 32, 42, 41] ++ b)) = skip b := by simp [skip_cons, isBlk, pastNote]
theorem between3 (b : Bs) : skip (10 :: ([123, 32, 120, 32, 125] ++ b)) = skip b := by simp [skip_cons, isBlk, pastBrace]
theorem between4 (b : Bs) : skip (32 :: ([40, 42, 32, 97, 32, 47, 47, 32, 98, 32, 42, 41, 32] ++ b)) = skip b := by simp [skip_cons, isBlk, pastNote]
theorem between5 (b : Bs) : skip (10 :: ([47, 47, 32, 99, 32, 42, 41, 10] ++ b)) = skip b := by simp [skip_cons, isBlk, toLine]
theorem between6 (b : Bs) : skip (9 :: ([13, 10] ++ b)) = skip b := by simp [skip_cons, isBlk]
/-! digits -/
def chL (k : Nat) : UInt8 := if k < 10 then UInt8.ofNat (48 + k) else UInt8.ofNat (87 + k)
def chU (k : Nat) : UInt8 := if k < 10 then UInt8.ofNat (48 + k) else UInt8.ofNat (55 + k)
theorem worth_chL (k : Nat) (h : k < 16) : worth (chL k) = k ∧ (isDig (chL k) = true ∨ 10 ≤ k) ∧ chL k ≠ 95 := by
  have : ∀ k : Fin 16, worth (chL k.val) = k.val ∧ (isDig (chL k.val) = true ∨ 10 ≤ k.val) ∧ chL k.val ≠ 95 := by decide +kernel
  exact this ⟨k, h⟩
theorem worth_chU (k : Nat) (h : k < 16) : worth (chU k) = k := by
  have : ∀ k : Fin 16, worth (chU k.val) = k.val := by decide +kernel
  exact this ⟨k, h⟩
def val (base : Nat) (m : Nat) (ds : Bs) : Nat := ds.foldl (fun a c => a * base + worth c) m
theorem val_cons (base m : Nat) (c : UInt8) (ds : Bs) : val base m (c :: ds) = val base (m * base + worth c) ds := rfl
theorem val_app (base m : Nat) (a b : Bs) : val base m (a ++ b) = val base (val base m a) b := by unfold val; rw [List.foldl_append]
theorem val_le {base : Nat} (hb : 1 ≤ base) : ∀ (ds : Bs) (m : Nat), m ≤ val base m ds
  | [], m => Nat.le_refl _
  | c :: ds, m => by
    rw [val_cons]
    refine Nat.le_trans ?_ (val_le hb ds _)
    have : m * 1 ≤ m * base := Nat.mul_le_mul_left m hb
    omega
theorem digs_run {base most : Nat} (hb : 1 ≤ base) : ∀ (ds : Bs) (p : Bool) (m : Nat) (r : Bs), ds ≠ [] → (∀ c ∈ ds, worth c < base) → val base m ds ≤ most → digs base most p m (ds ++ r) = digs base most true (val base m ds) r
  | [], p, m, r, h, _, _ => absurd rfl h
  | c :: ds, p, m, r, _, hd, hv => by
    rw [val_cons] at hv ⊢
    have h1 := val_le hb ds (m * base + worth c)
    rw [List.cons_append]
    conv => lhs; unfold digs
    rw [if_pos (hd c List.mem_cons_self), if_neg (by omega)]
    cases ds with
    | nil => rfl
    | cons x y => exact digs_run hb (x :: y) true _ r (fun h => by cases h) (fun z hz => hd z (List.mem_cons_of_mem c hz)) hv
/-- a _ between each two digits -/
def partL : Bs → Bs
  | [] => []
  | c :: r => match r with
    | [] => [c]
    | _ :: _ => c :: 95 :: partL r
theorem worth_under : worth 95 = 99 := by decide
theorem digs_part {base most : Nat} (hb : 1 ≤ base) (hb16 : base ≤ 16) : ∀ (ds : Bs) (p : Bool) (m : Nat) (r : Bs), ds ≠ [] → (∀ c ∈ ds, worth c < base) → val base m ds ≤ most → digs base most p m (partL ds ++ r) = digs base most true (val base m ds) r
  | [], p, m, r, h, _, _ => absurd rfl h
  | [c], p, m, r, _, hd, hv => digs_run hb [c] p m r (fun h => by cases h) hd hv
  | c :: x :: y, p, m, r, _, hd, hv => by
    rw [val_cons] at hv ⊢
    have h1 := val_le hb (x :: y) (m * base + worth c)
    have hx : worth x < base := hd x (List.mem_cons_of_mem c List.mem_cons_self)
    have hp : headW base (partL (x :: y) ++ r) = true := by
      have : ∃ q, partL (x :: y) = x :: q := by
        cases y with
        | nil => exact ⟨[], rfl⟩
        | cons a b => exact ⟨_, rfl⟩
      obtain ⟨q, hq⟩ := this
      rw [hq]
      exact decide_eq_true hx
    show digs base most p m (c :: 95 :: (partL (x :: y) ++ r)) = _
    conv => lhs; unfold digs
    rw [if_pos (hd c List.mem_cons_self), if_neg (by omega)]
    conv => lhs; unfold digs
    rw [if_neg (by rw [worth_under]; omega), if_pos ⟨rfl, rfl, hp⟩]
    exact digs_part hb hb16 (x :: y) false _ r (fun h => by cases h) (fun z hz => hd z (List.mem_cons_of_mem c hz)) hv
theorem digs_end (base most n : Nat) : digs base most true n [] = some (n, []) := rfl
/-- a number's digits in a base -/
def repF (ch : Nat → UInt8) (base : Nat) : Nat → Nat → Bs
  | 0, _ => []
  | f + 1, n => if n / base = 0 then [ch (n % base)] else repF ch base f (n / base) ++ [ch (n % base)]
theorem rep_facts {ch : Nat → UInt8} {base : Nat} (hb : 2 ≤ base) (hc : ∀ k, k < base → worth (ch k) = k) : ∀ (f n : Nat), n < base ^ f → 0 < f → repF ch base f n ≠ [] ∧ (∀ c ∈ repF ch base f n, ∃ k, k < base ∧ c = ch k) ∧ val base 0 (repF ch base f n) = n
  | 0, n, _, h => absurd h (by omega)
  | f + 1, n, hn, _ => by
    have hm : n % base < base := Nat.mod_lt _ (by omega)
    unfold repF
    split
    · next h0 =>
      refine ⟨fun h => (by cases h), fun c hc => ⟨n % base, hm, List.mem_singleton.1 hc⟩, ?_⟩
      show 0 * base + worth (ch (n % base)) = n
      rw [hc _ hm]
      have := Nat.div_add_mod n base
      rw [h0] at this; omega
    · next h0 =>
      have hf : 0 < f := by
        rcases Nat.eq_zero_or_pos f with rfl | h
        · exact absurd (Nat.div_eq_of_lt (by simpa using hn)) h0
        · exact h
      have hlt : n / base < base ^ f := by
        rw [Nat.pow_succ] at hn
        exact Nat.div_lt_of_lt_mul (by rw [Nat.mul_comm]; exact hn)
      obtain ⟨a, b, c⟩ := rep_facts hb hc f (n / base) hlt hf
      refine ⟨by simp, fun x hx => ?_, ?_⟩
      · rcases List.mem_append.1 hx with hx | hx
        · exact b x hx
        · exact ⟨n % base, hm, List.mem_singleton.1 hx⟩
      · rw [val_app, c]
        show n / base * base + worth (ch (n % base)) = n
        rw [hc _ hm, Nat.mul_comm]
        exact Nat.div_add_mod n base
def dec (n : Nat) : Bs := repF chL 10 20 n
theorem dec_facts {n : Nat} (h : n ≤ 2147483648) : dec n ≠ [] ∧ (∀ c ∈ dec n, isDig c = true) ∧ (∀ c ∈ dec n, worth c < 10) ∧ val 10 0 (dec n) = n := by
  have hp : (10 : Nat) ^ 20 = 100000000000000000000 := by decide
  obtain ⟨a, b, c⟩ := rep_facts (ch := chL) (base := 10) (by decide) (fun k hk => (worth_chL k (by omega)).1) 20 n (by rw [hp]; omega) (by decide)
  refine ⟨a, fun x hx => ?_, fun x hx => ?_, c⟩
  · obtain ⟨k, hk, rfl⟩ := b x hx
    rcases (worth_chL k (by omega)).2.1 with h | h
    · exact h
    · omega
  · obtain ⟨k, hk, rfl⟩ := b x hx
    rw [(worth_chL k (by omega)).1]; exact hk
def hex8 (n : Nat) : Bs := [chU (n / 268435456 % 16), chU (n / 16777216 % 16), chU (n / 1048576 % 16), chU (n / 65536 % 16), chU (n / 4096 % 16), chU (n / 256 % 16), chU (n / 16 % 16), chU (n % 16)]
theorem hex8_facts {n : Nat} (h : n < 4294967296) : (∀ c ∈ hex8 n, worth c < 16) ∧ val 16 0 (hex8 n) = n := by
  have w := fun (k : Nat) => worth_chU (k % 16) (Nat.mod_lt _ (by decide))
  constructor
  · intro c hc
    simp only [hex8, List.mem_cons, List.not_mem_nil, or_false] at hc
    rcases hc with rfl | rfl | rfl | rfl | rfl | rfl | rfl | rfl <;> rw [w] <;> exact Nat.mod_lt _ (by decide)
  · show ((((((((0 * 16 + worth (chU (n / 268435456 % 16))) * 16 + worth (chU (n / 16777216 % 16))) * 16 + worth (chU (n / 1048576 % 16))) * 16 + worth (chU (n / 65536 % 16))) * 16 + worth (chU (n / 4096 % 16))) * 16 + worth (chU (n / 256 % 16))) * 16 + worth (chU (n / 16 % 16))) * 16 + worth (chU (n % 16))) = n
    rw [w, w, w, w, w, w, w, w]
    omega
/-! a token's text -/
def tyName (ty : Int) : Bs := if ty = 1 then [66, 79, 79, 76] else if ty = 2 then [73, 78, 84] else [68, 73, 78, 84]
def signedL (n : Int) : Bs := if n < 0 then 45 :: dec n.natAbs else dec n.natAbs
def showT (t : Tk) : Option Bs :=
  if t.kind = 2 ∧ t.s = [] then
    (if t.ty = 0 then
      (if t.n < 0 then (if -2147483648 ≤ t.n then some ([49, 54, 35] ++ hex8 (t.n + 4294967296).toNat) else none)
       else if t.n ≤ 2147483648 then some (dec t.n.natAbs) else none)
     else if t.ty = 4 then (if 0 ≤ t.n ∧ t.n < 2147483648 then some ([84, 35] ++ (dec t.n.natAbs ++ [109, 115])) else none)
     else if t.ty = 1 ∨ t.ty = 2 ∨ t.ty = 3 then (if fitL t.ty t.n then some (tyName t.ty ++ (35 :: signedL t.n)) else none)
     else none)
  else if (t.kind = 1 ∨ t.kind = 3) ∧ t.n = 0 ∧ t.ty = 0 ∧ t.s ≠ [] ∧ t.s.length ≤ 24 then
    match oneTok t.s with
    | some (x, []) => if x.kind = t.kind ∧ x.s = t.s then some t.s else none
    | _ => none
  else none
theorem digs_dec {n : Nat} (h : n ≤ 2147483648) : digs 10 2147483648 false 0 (dec n) = some (n, []) := by
  obtain ⟨a, _, c, d⟩ := dec_facts h
  have := digs_run (most := 2147483648) (r := []) (by decide) (dec n) false 0 (base := 10) a c (by rw [d]; exact h)
  rw [List.append_nil, d] at this
  exact this
theorem dec_cons {n : Nat} (h : n ≤ 2147483648) : ∃ c r, dec n = c :: r ∧ isDig c = true ∧ ∀ x ∈ r, isDig x = true := by
  obtain ⟨a, b, _, _⟩ := dec_facts h
  cases hd : dec n with
  | nil => exact absurd hd a
  | cons c r => exact ⟨c, r, rfl, b c (by rw [hd]; exact List.mem_cons_self), fun x hx => b x (by rw [hd]; exact List.mem_cons_of_mem c hx)⟩
theorem dig_facts {c : UInt8} (h : isDig c = true) : isLet c = false ∧ c ≠ 35 ∧ c ≠ 45 ∧ c ≠ 95 ∧ isBlk c = false ∧ c ≠ 40 ∧ c ≠ 47 ∧ c ≠ 123 ∧ worth c = c.toNat - 48 ∧ isWord c = true :=
  all8 (P := fun c => isDig c = true → isLet c = false ∧ c ≠ 35 ∧ c ≠ 45 ∧ c ≠ 95 ∧ isBlk c = false ∧ c ≠ 40 ∧ c ≠ 47 ∧ c ≠ 123 ∧ worth c = c.toNat - 48 ∧ isWord c = true) (by decide +kernel) c h
theorem let_facts {c : UInt8} (h : isLet c = true) : isDig c = false ∧ isBlk c = false ∧ c ≠ 40 ∧ c ≠ 47 ∧ c ≠ 123 ∧ isWord c = true :=
  all8 (P := fun c => isLet c = true → isDig c = false ∧ isBlk c = false ∧ c ≠ 40 ∧ c ≠ 47 ∧ c ≠ 123 ∧ isWord c = true) (by decide +kernel) c h
/-- a run of decimal digits has no base ahead of it -/
theorem based_dec {l : Bs} (h : ∀ x ∈ l, isDig x = true) : based l = (digs 10 2147483648 false 0 l).map fun x => ((x.1 : Int), x.2) := by
  have no35 : ∀ {k : Nat}, (35 : UInt8) ∉ l.take k := fun hm => absurd (h _ (List.mem_of_mem_take hm)) (by decide)
  unfold based
  rw [if_neg (fun e => no35 (k := 2) (by rw [e]; decide)), if_neg (fun e => no35 (k := 2) (by rw [e]; decide)), if_neg (fun e => no35 (k := 3) (by rw [e]; decide))]
theorem one_dec {n : Nat} (h : n ≤ 2147483648) : oneTok (dec n) = some (numT n 0, []) := by
  obtain ⟨c, r, hc, hd, hr⟩ := dec_cons h
  have hb := based_dec (l := dec n) (dec_facts h).2.1
  rw [digs_dec h] at hb
  rw [hc] at hb ⊢
  unfold oneTok
  simp only []
  rw [(dig_facts hd).1, hd, hb]; rfl
theorem one_hex {n : Nat} (h1 : 2147483648 ≤ n) (h2 : n < 4294967296) : oneTok ([49, 54, 35] ++ hex8 n) = some (numT ((n : Int) - 4294967296) 0, []) := by
  obtain ⟨a, b⟩ := hex8_facts h2
  have := digs_run (most := 4294967295) (r := []) (by decide) (hex8 n) false 0 (base := 16) (by unfold hex8; exact fun h => by cases h) a (by rw [b]; omega)
  rw [List.append_nil, b] at this
  show (based ([49, 54, 35] ++ hex8 n)).map (fun x => (numT x.1 0, x.2)) = _
  have hb : based ([49, 54, 35] ++ hex8 n) = (digs 16 4294967295 false 0 (hex8 n)).map fun x => (low32 x.1, x.2) := rfl
  rw [hb, this]
  show some (numT (low32 n) 0, []) = _
  unfold low32
  rw [if_pos h1]
theorem run10_run : ∀ (ds : Bs) (m : Nat) (r : Bs), (∀ c ∈ ds, isDig c = true) → val 10 m ds ≤ 2147483648 → run10 m (ds ++ r) = run10 (val 10 m ds) r
  | [], m, r, _, _ => rfl
  | c :: ds, m, r, hd, hv => by
    have hc := hd c List.mem_cons_self
    have hw := (dig_facts hc).2.2.2.2.2.2.2.2.1
    rw [val_cons] at hv ⊢
    have h1 := val_le (base := 10) (by decide) ds (m * 10 + worth c)
    rw [List.cons_append]
    conv => lhs; unfold run10
    rw [if_pos hc, ← hw, if_neg (by omega)]
    exact run10_run ds _ r (fun x hx => hd x (List.mem_cons_of_mem c hx)) hv
theorem one_time {n : Nat} (h : n < 2147483648) : oneTok ([84, 35] ++ (dec n ++ [109, 115])) = some (numT n 4, []) := by
  obtain ⟨a, b, c, d⟩ := dec_facts (n := n) (by omega)
  have hr := run10_run (dec n) 0 [109, 115] b (by rw [d]; omega)
  rw [d] at hr
  have hr2 : run10 n [109, 115] = some (n, [109, 115]) := by unfold run10; rfl
  rw [hr2] at hr
  have ht : timeL 6 0 0 (dec n ++ [109, 115]) = some (n, []) := by
    obtain ⟨c0, r0, hc, hd, _⟩ := dec_cons (n := n) (by omega)
    rw [hc, List.cons_append] at hr ⊢
    unfold timeL
    simp only []
    rw [if_pos hd, hr]
    simp only []
    have hu : unitL [109, 115] = some (4, []) := by decide
    rw [hu]
    simp only []
    rw [if_neg (by show ¬ (4 < 0 ∨ 2147483648 ≤ 0 + n * 1); omega)]
    show timeL 5 5 (0 + n * 1) [] = _
    rw [Nat.zero_add, Nat.mul_one]; rfl
  have e : oneTok ([84, 35] ++ (dec n ++ [109, 115])) = typedL [84] (dec n ++ [109, 115]) := rfl
  rw [e]
  show (timeL 6 0 0 (dec n ++ [109, 115])).map (fun x => (numT x.1 4, x.2)) = _
  rw [ht]; rfl
theorem typedN_signed {ty n : Int} (hf : fitL ty n = true) (hr : -2147483648 ≤ n ∧ n ≤ 2147483647) : typedN ty (signedL n) = some (numT n ty, []) := by
  have hd := digs_dec (n := n.natAbs) (by omega)
  unfold typedN signedL
  split
  · next h0 =>
    rw [if_pos (show (45 :: dec n.natAbs : Bs).head? = some 45 from rfl)]
    show (match digs 10 2147483648 false 0 (dec n.natAbs) with | none => none | some (n, r) => _) = _
    rw [hd]
    simp only []
    have e : -(n.natAbs : Int) = n := by omega
    rw [e, hf]; rfl
  · next h0 =>
    obtain ⟨c, r, hc, hdig, _⟩ := dec_cons (n := n.natAbs) (by omega)
    rw [if_neg (by rw [hc]; intro h; exact (dig_facts hdig).2.2.1 (Option.some.inj h)), hd]
    simp only []
    have e : (n.natAbs : Int) = n := by omega
    rw [e, hf]; rfl
theorem fit_range5 {ty n : Int} (h : fitL ty n = true) : -2147483648 ≤ n ∧ n ≤ 2147483647 := by
  unfold fitL at h
  split at h
  · rw [Bool.or_eq_true] at h
    rcases h with h | h
    · have := of_decide_eq_true h; omega
    · have := of_decide_eq_true h; omega
  · split at h
    · rw [Bool.and_eq_true] at h
      have h1 := of_decide_eq_true h.1
      have h2 := of_decide_eq_true h.2
      omega
    · rw [Bool.and_eq_true] at h
      exact ⟨of_decide_eq_true h.1, of_decide_eq_true h.2⟩
theorem one_typed {ty n : Int} (ht : ty = 1 ∨ ty = 2 ∨ ty = 3) (hf : fitL ty n = true) : oneTok (tyName ty ++ (35 :: signedL n)) = some (numT n ty, []) := by
  have h := typedN_signed hf (fit_range5 hf)
  rcases ht with rfl | rfl | rfl
  · exact h
  · exact h
  · exact h
/-- the text of a token that can be shown is that token's, whole -/
theorem show_one {t : Tk} {s : Bs} (h : showT t = some s) : oneTok s = some (t, []) := by
  obtain ⟨kind, ts, n, ty⟩ := t
  unfold showT at h
  simp only [] at h
  split at h
  · next hk =>
    obtain ⟨rfl, rfl⟩ := hk
    split at h
    · next h0 =>
      subst h0
      split at h
      · split at h
        · next hn hl =>
          injection h with h
          subst h
          rw [one_hex (by omega) (by omega)]
          have e : ((n + 4294967296).toNat : Int) - 4294967296 = n := by omega
          rw [e]; rfl
        · cases h
      · split at h
        · next hn hl =>
          injection h with h
          subst h
          rw [one_dec (by omega)]
          have e : (n.natAbs : Int) = n := by omega
          rw [e]; rfl
        · cases h
    · split at h
      · next h4 =>
        subst h4
        split at h
        · next hn =>
          injection h with h
          subst h
          rw [one_time (by omega)]
          have e : (n.natAbs : Int) = n := by omega
          rw [e]; rfl
        · cases h
      · split at h
        · next ht =>
          split at h
          · next hf =>
            injection h with h
            subst h
            rw [one_typed ht hf]; rfl
          · cases h
        · cases h
  · split at h
    · next hk =>
      obtain ⟨hk, rfl, rfl, hs, _⟩ := hk
      split at h
      · next x h1 =>
        split at h
        · next hx =>
          injection h with h
          subst h
          rw [h1]
          -- the token that came is a word or a sign: no number, no type
          have key : ∀ {l r : Bs} {y : Tk}, oneTok l = some (y, r) → (y.kind = 1 ∨ y.kind = 3) → y.n = 0 ∧ y.ty = 0 := fun {l r y} ho hy => by
            cases l with
            | nil => cases ho
            | cons c q =>
              have num : ∀ {a b : Int}, y = numT a b → False := fun {a b} e => by
                rw [e] at hy
                rcases hy with hy | hy
                · exact absurd (show (2 : Int) = 1 from hy) (by decide)
                · exact absurd (show (2 : Int) = 3 from hy) (by decide)
              unfold oneTok at ho
              simp only [] at ho
              split at ho
              · split at ho
                · exfalso
                  unfold typedL at ho
                  split at ho
                  · obtain ⟨a, _, e⟩ := map_fst (g := fun n : Nat => numT (n : Int) 4) ho; exact num e
                  · have tN : ∀ {ty : Int} {l : Bs}, typedN ty l = some (y, r) → False := fun {ty l} hh => by
                      unfold typedN at hh
                      split at hh
                      · split at hh
                        · cases hh
                        · split at hh
                          · simp only [Option.some.injEq, Prod.mk.injEq] at hh; exact num hh.1.symm
                          · cases hh
                      · split at hh
                        · cases hh
                        · split at hh
                          · simp only [Option.some.injEq, Prod.mk.injEq] at hh; exact num hh.1.symm
                          · cases hh
                    repeat' split at ho
                    all_goals first
                      | exact tN ho
                      | cases ho
                · split at ho
                  · simp only [Option.some.injEq, Prod.mk.injEq] at ho
                    rw [← ho.1]; exact ⟨rfl, rfl⟩
                  · cases ho
              · split at ho
                · obtain ⟨a, _, e⟩ := map_fst (g := fun n : Int => numT n 0) ho; exact (num e).elim
                · unfold signL at ho
                  split at ho
                  · simp only [Option.some.injEq, Prod.mk.injEq] at ho
                    rw [← ho.1]; exact ⟨rfl, rfl⟩
                  · simp only [] at ho
                    split at ho
                    · simp only [Option.some.injEq, Prod.mk.injEq] at ho
                      rw [← ho.1]; exact ⟨rfl, rfl⟩
                    · cases ho
          obtain ⟨hx1, hx2⟩ := hx
          obtain ⟨k1, k2⟩ := key h1 (by rw [hx1]; exact hk)
          obtain ⟨xk, xs, xn, xt⟩ := x
          simp only [] at hx1 hx2 k1 k2
          subst hx1 hx2 k1 k2
          rfl
        · cases h
      · cases h
    · cases h
end Go.Proofs.YtldjiieckddhkaaGreatDoor
