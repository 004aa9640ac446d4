/- VerifyDead: the walk. -/
import Derived.Test.YtlckedionmgjjaaDoorMg20
import Derived.Test.YtlckedionmgjjaaDoorMg21
import Derived.Test.YtlckedionmgjjaaDoorCpJ
import Derived.Test.YtlckedionmgjjaaDoorVrW
namespace Go.Proofs.YtlckedionmgjjaaDoor
open Go.RowKit
theorem rows_apart {W : World} {b1 b2 e1 e2 s1 s2 n1 n2 : Nat} {v1 v2 : Value} {x1 x2 : List Value} (h1 : W.ownsRow b1 e1 s1 v1 n1 x1) (h2 : W.ownsRow b2 e2 s2 v2 n2 x2) (hne : e1 ≠ e2) : v1.ownBlock = none ∨ v1.ownBlock ≠ v2.ownBlock := by
  rcases h1.2 with ⟨rfl, _⟩ | ⟨g, cap, cur, rfl, hb, hg, r⟩
  · exact .inl rfl
  · refine .inr fun e => ?_
    rcases h2.2 with ⟨rfl, _⟩ | ⟨g', cap', cur', rfl, hb', hg', r'⟩
    · cases e
    · have e' : g = g' := Option.some.inj e
      subst e'
      rw [hg] at hg'
      injection hg' with hg'
      injection hg' with _ h _
      exact hne h
theorem errP_add {x : Img} {r : List Ins} {m : Vs} (h : walkP x = .inl m) (hc : (chkP (addI x r)).2 = 0) : errP (addI x r) = (0, 0) ∧ deepP (addI x r) = deepP x ∧ rchP (addI x r) = (rchL m ++ List.replicate r.length false, 0) := by
  have hw := walk_add h hc
  refine ⟨?_, ?_, ?_⟩
  · unfold errP; rw [hw]
  · unfold deepP; rw [hw, h]; rfl
  · unfold rchP; rw [hw]
    show (rchL (extS _ m), (0 : Int)) = _
    rw [rch_ext]
theorem add_snoc (x : Img) (r : List Ins) (i : Ins) : addI x (r ++ [i]) = ⟨(addI x r).name, (addI x r).ty, (addI x r).fi, (addI x r).ins, (addI x r).outs, (addI x r).cd ++ [i]⟩ := by
  unfold addI; rw [List.append_assoc]
/-- a copy of an image in memory -/
structure Cp (w : World) (B : Nat) (x : Img) (t f i o c : Value) : Prop where
  ty : w.ownsRow B 3 1 t x.ty.length (intC x.ty)
  fi : w.ownsRow B 2 1 f x.fi.length (intC x.fi)
  ins : w.ownsRow B 3 1 i x.ins.length (intC x.ins)
  outs : w.ownsRow B 3 1 o x.outs.length (intC x.outs)
  cd : w.ownsRow B 38 4 c x.cd.length (inC x.cd)
theorem ILst.of_ownsE {w : World} {base e : Nat} {v : Value} {l : List Int} (h : w.ownsRow base e 1 v l.length (intC l)) : ILst w v l := by
  rcases h.2 with ⟨hv, h0⟩ | ⟨g, cap, cur, hv, hb, hg, hn, hm, hc, ht⟩
  · obtain rfl := List.eq_nil_of_length_eq_zero h0
    subst hv
    exact ILst.nil w 0
  · subst hv
    refine ⟨_, g, 0, cap, rfl, fun _ => ⟨(Array.getElem?_eq_some_iff.1 hg).1, rfl⟩, fun i x hx => ?_⟩
    have hi : i < l.length := (List.getElem?_eq_some_iff.1 hx).1
    rw [Nat.zero_add, h.cellAt i (by omega), intC_get, hx]; rfl
theorem Cp.im {w : World} {B : Nat} {x : Img} {t f i o c nm : Value} (h : Cp w B x t f i o c) (hn : nm = .string ⟨x.name.toArray⟩) : Im w nm t f i o c x :=
  ⟨hn, ILst.of_ownsE h.ty, ILst.of_ownsE h.fi, ILst.of_ownsE h.ins, ILst.of_ownsE h.outs, ISt.of_owns h.cd⟩
theorem Cp.cap {w : World} {B : Nat} {x : Img} {t f i o c : Value} (h : Cp w B x t f i o c) : ∀ a n q, t = .slice a n q → n ≤ q := fun a n q e => by
  obtain ⟨a', q', e', h'⟩ := owns_slice h.ty
  rw [e'] at e
  injection e with _ e1 e2
  omega
theorem Cp.on {w w' : World} {B : Nat} {x : Img} {t f i o c : Value} (h : Cp w B x t f i o c) (hb : Below w.heap.size w w') : Cp w' B x t f i o c :=
  ⟨owns_on h.ty hb, owns_on h.fi hb, owns_on h.ins hb, owns_on h.outs hb, owns_on h.cd hb⟩
/-- behind an append to the copy's code -/
theorem Cp.app {w W w3 : World} {B : Nat} {x : Img} {t f i o c v : Value} {q : Ins} (h : Cp w B x t f i o c) (hb : Below w.heap.size w W) (hg : W.grownBy w3 c.ownBlock) (hv : w3.ownsRow B 38 4 v (x.cd.length + 1) (inC x.cd ++ [.int .i64 q.op, .int .i64 q.a, .int .i64 q.b, .int .i64 q.n])) :
    Cp w3 B ⟨x.name, x.ty, x.fi, x.ins, x.outs, x.cd ++ [q]⟩ t f i o v := by
  have k := h.on hb
  exact ⟨k.ty.kept hg (rows_apart k.ty k.cd (by decide)), k.fi.kept hg (rows_apart k.fi k.cd (by decide)), k.ins.kept hg (rows_apart k.ins k.cd (by decide)), k.outs.kept hg (rows_apart k.outs k.cd (by decide)), by
    show w3.ownsRow B 38 4 v (x.cd ++ [q]).length (inC (x.cd ++ [q]))
    rw [inC_snoc, List.length_append]; exact hv⟩
theorem own_lo {w w' : World} {e size n : Nat} {v : Value} {xs : List Value} (h : w'.ownsRow (w.heap.size + 2) e size v n xs) : w'.ownsRow w.heap.size e size v n xs := by
  refine ⟨h.1, ?_⟩
  rcases h.2 with h0 | ⟨g, cap, cur, hv, hg, r⟩
  · exact .inl h0
  · exact .inr ⟨g, cap, cur, hv, Nat.le_trans (Nat.le_add_right _ 2) hg, r⟩
theorem copy_cp (nm tv fv iv ov cv : Value) (x : Img) (w : World) (hx : Im w nm tv fv iv ov cv x) (hs : x.ty.length ≤ 1024 ∧ x.fi.length ≤ 1024 ∧ x.ins.length ≤ 1024 ∧ x.outs.length ≤ 1024 ∧ x.cd.length ≤ 4096) :
    Calls Tryd.prog 6 #[.agg #[nm, tv, fv, iv, ov, cv]] w fun e w' => ∃ t f i o c, e = .returned (.agg #[nm, t, f, i, o, c]) ∧ Cp w' w.heap.size x t f i o c ∧ Below w.heap.size w w' :=
  (copy_any nm tv fv iv ov cv x w hx (by omega) (by omega) (by omega) (by omega) (by omega)).mono fun _ _ ⟨t, f, i, o, c, h1, h2, h3, h4, h5, h6, h7⟩ => ⟨t, f, i, o, c, h1, ⟨own_lo h2, own_lo h3, own_lo h4, own_lo h5, own_lo h6⟩, h7⟩
theorem run_len {ty : List Int} {cd : List Ins} {n : Nat} (hn : cd.length = n) (hty : ∀ t ∈ ty, 1 ≤ t ∧ t ≤ 4) (hi : ∀ k, k < n → mayI ty n (insAt cd k) = true) : ∀ (c : Nat) (m m' : Vs), GoodS n m → runS ty cd c m = .inl m' → GoodS n m'
  | 0, m, m', hg, h => by obtain rfl := Sum.inl.inj h; exact hg
  | c + 1, m, m', hg, h => by
    cases hl : leastS m.wt with
    | none => rw [run_none hl] at h; obtain rfl := Sum.inl.inj h; exact hg
    | some j =>
      rw [run_some hl] at h
      have hj1 := (least_get _ _ hl).1
      have hjn : j < n := by have := (List.getElem?_eq_some_iff.1 hj1).1; rw [hg.wt] at this; exact this
      obtain ⟨og, _⟩ := off_good hg hj1
      cases hk : lookS ty cd (offS m j) j with
      | inr e => rw [hk] at h; cases h
      | inl m1 =>
        rw [hk] at h
        exact run_len hn hty hi c m1 m' (look_good hn og hjn hty (hi j hjn) hk).1 h
theorem rchL_len {x : Img} {m : Vs} (h0 : (chkP x).2 = 0) (hr : runS x.ty x.cd x.cd.length (startS x.cd.length) = .inl m) : (rchL m).length = x.cd.length := by
  have := run_len rfl (types_ok h0) (ins_may h0) _ _ _ (start_good _) hr
  unfold rchL; rw [List.length_map, this.rs]
theorem own_apart {W : World} {B e s n z T : Nat} {v : Value} {xs cs : List Value} (h : W.ownsRow B e s v n xs) (hz : Ob W z T cs) (hT : e ≠ T) : v.ownBlock = none ∨ v.ownBlock ≠ some z := by
  rcases h.2 with ⟨rfl, _⟩ | ⟨g, cap, cur, rfl, hb, hg, r⟩
  · exact .inl rfl
  · refine .inr fun e' => ?_
    have : g = z := Option.some.inj e'
    subst this
    unfold Ob at hz
    rw [hg] at hz
    injection hz with hz
    injection hz with _ h2 _
    exact hT h2
theorem Cp.but {w w' : World} {B z : Nat} {x : Img} {t f i o c : Value} {cs : List Value} (h : Cp w B x t f i o c) (hz : Ob w z 26 cs) (hb : But z w w') : Cp w' B x t f i o c :=
  ⟨h.ty.kept hb (own_apart h.ty hz (by decide)), h.fi.kept hb (own_apart h.fi hz (by decide)), h.ins.kept hb (own_apart h.ins hz (by decide)), h.outs.kept hb (own_apart h.outs hz (by decide)), h.cd.kept hb (own_apart h.cd hz (by decide))⟩
theorem ob_grown {W w3 : World} {b : Nat} {T : TypeId} {cs : List Value} {r : Option Nat} (h : Ob W b T cs) (hg : W.grownBy w3 r) (hn : some b ≠ r) : Ob w3 b T cs := (hg.block b h.lt hn).trans h
theorem Cp.shape {w : World} {B : Nat} {x : Img} {t f i o c : Value} (h : Cp w B x t f i o c) : ∃ a1 a2 a3 a4 a5 q1 q2 q3 q4 q5, t = .slice a1 x.ty.length q1 ∧ f = .slice a2 x.fi.length q2 ∧ i = .slice a3 x.ins.length q3 ∧ o = .slice a4 x.outs.length q4 ∧ c = .slice a5 x.cd.length q5 := by
  obtain ⟨a1, q1, h1, _⟩ := owns_slice h.ty
  obtain ⟨a2, q2, h2, _⟩ := owns_slice h.fi
  obtain ⟨a3, q3, h3, _⟩ := owns_slice h.ins
  obtain ⟨a4, q4, h4, _⟩ := owns_slice h.outs
  obtain ⟨a5, q5, h5, _⟩ := owns_slice h.cd
  exact ⟨_, _, _, _, _, _, _, _, _, _, h1, h2, h3, h4, h5⟩
/-- an image that may be is small -/
theorem small_of {x : Img} (h : (chkP x).2 = 0) : x.ty.length ≤ 1024 ∧ x.fi.length ≤ 1024 ∧ x.ins.length ≤ 1024 ∧ x.outs.length ≤ 1024 ∧ x.cd.length ≤ 4096 := by
  have := frame_facts (chk_ok h)
  exact ⟨this.ty, by rw [this.fi]; exact this.ty, this.ins, this.outs, this.c2⟩
theorem big_of {x : Img} (h : (chkP x).2 = 0) (q : Ins) : ImL ⟨x.name, x.ty, x.fi, x.ins, x.outs, x.cd ++ [q]⟩ := by
  obtain ⟨h1, h2, h3, h4, h5⟩ := small_of h
  exact ⟨by show x.ty.length ≤ _; omega, by show x.fi.length ≤ _; omega, by show x.ins.length ≤ _; omega, by show x.outs.length ≤ _; omega, by show (x.cd ++ [q]).length ≤ _; simp; omega⟩
theorem imL_of {x : Img} (h : (chkP x).2 = 0) : ImL x := by
  obtain ⟨h1, h2, h3, h4, h5⟩ := small_of h
  exact ⟨by omega, by omega, by omega, by omega, by omega⟩
set_option maxRecDepth 100000 in
set_option maxHeartbeats 3200000 in
theorem dead_any (nm tv fv iv ov cv lv : Value) (x : Img) (l : List Ins) (w : World) (hg : GlC w) (hz : Tz w) (hx : Im w nm tv fv iv ov cv x) (hcap : ∀ a n c, tv = .slice a n c → n ≤ c) (hl : ImL x) (hv : ISt w lv l) :
    Calls Tryd.prog 4 #[.agg #[nm, tv, fv, iv, ov, cv], lv] w fun e w' => e = .returned (.bool true) ∧ Below w.heap.size w w' := by
  have HB1 : Hid (∀ A, Below w.heap.size w (w.alloc A)) := fun A => (Below.refl _ _).alloc (Nat.le_refl _) _
  have X0 : Hid (Ob (w.alloc (.cells #[nm, tv, fv, iv, ov, cv] 26)) w.heap.size 26 [nm, tv, fv, iv, ov, cv]) := Ob.new w 26 _
  have m14 : Hid (∀ W, Below w.heap.size w W → Calls Tryd.prog 14 #[] W fun e w' => e = .returned (.bool true) ∧ Below W.heap.size W w') := fun W hb => works_any W (hg.on hb hg.lt) (hz.on hb hz.lt)
  have mV : Hid (∀ W a b c d e f X, Below w.heap.size w W → Im W a b c d e f X → (∀ p n q, b = .slice p n q → n ≤ q) → ImL X → Calls Tryd.prog 7 #[.agg #[a, b, c, d, e, f]] W fun e w' => e = .returned (.tuple #[.int .i64 (errP X).1, .int .i64 (errP X).2]) ∧ Below W.heap.size W w') := fun W a b c d e f X hb hI hc hL =>
    vcheck_any a b c d e f X W (hg.on hb hg.lt) (hz.on hb hz.lt) hI hc hL
  have mD : Hid (∀ W a b c d e f X, Below w.heap.size w W → Im W a b c d e f X → (∀ p n q, b = .slice p n q → n ≤ q) → ImL X → Calls Tryd.prog 9 #[.agg #[a, b, c, d, e, f]] W fun e w' => e = .returned (.tuple #[.int .i64 (deepP X).1, .int .i64 (deepP X).2]) ∧ Below W.heap.size W w') := fun W a b c d e f X hb hI hc hL =>
    vdeep_any a b c d e f X W (hg.on hb hg.lt) (hz.on hb hz.lt) hI hc hL
  have mR : Hid (∀ W a b c d e f X, Below w.heap.size w W → Im W a b c d e f X → (∀ p n q, b = .slice p n q → n ≤ q) → ImL X → Calls Tryd.prog 11 #[.agg #[a, b, c, d, e, f]] W fun e w' => ∃ v, e = .returned (.tuple #[v, .int .i64 (rchP X).2]) ∧ Below W.heap.size W w' ∧ (((rchP X).1 = [] ∧ v = .slice none 0 0) ∨ ∃ g, W.heap.size ≤ g ∧ v = .slice (some ⟨g, 0, none⟩) (rchP X).1.length (rchP X).1.length ∧ Ob w' g 4 ((rchP X).1.map Value.bool))) := fun W a b c d e f X hb hI hc hL =>
    vreached_any a b c d e f X W (hg.on hb hg.lt) (hz.on hb hz.lt) hI hc hL
  have mC : Hid (∀ W a b c d e f X, Below w.heap.size w W → Im W a b c d e f X → (∀ p n q, b = .slice p n q → n ≤ q) → ImL X → Calls Tryd.prog 15 #[.agg #[a, b, c, d, e, f]] W fun e w' => e = .returned (.tuple #[.int .i64 (chkP X).1, .int .i64 (chkP X).2]) ∧ Below W.heap.size W w') := fun W a b c d e f X hb hI hc hL =>
    check_any a b c d e f X W (hg.on hb hg.lt) hI hc hL
  have HX := hide hx
  have HC := hide hcap
  have HL := hide hl
  have HV := hide hv
  obtain ⟨S, hS⟩ : ∃ S : ByteArray, S = ⟨x.name.toArray⟩ := ⟨_, rfl⟩
  have hnm : nm = .string S := by rw [hS]; exact hx.name
  have HSN := hide hS
  subst hnm
  obtain ⟨ta, tc, rfl⟩ := hx.ty.shape
  obtain ⟨fa, fc, rfl⟩ := hx.fi.shape
  obtain ⟨ia, ic, rfl⟩ := hx.ins.shape
  obtain ⟨oa, oc, rfl⟩ := hx.outs.shape
  obtain ⟨ca, cc, rfl⟩ := hx.cd.shape
  obtain ⟨la, lc, rfl⟩ := hv.shape
  obtain ⟨ln, hln⟩ : ∃ n, n = l.length := ⟨_, rfl⟩
  obtain ⟨cn, hcn⟩ : ∃ n, n = x.cd.length := ⟨_, rfl⟩
  have HLN := hide hln
  have HCN := hide hcn
  rw [← hln, ← hcn]
  rw [← hcn] at X0
  have HX : Hid (Im w (.string S) (.slice ta x.ty.length tc) (.slice fa x.fi.length fc) (.slice ia x.ins.length ic) (.slice oa x.outs.length oc) (.slice ca cn cc) x) := by rw [hcn]; exact HX.out
  have HV : Hid (ISt w (.slice la ln lc) l) := by rw [hln]; exact HV.out
  generalize x.ty.length = tn at *
  generalize x.fi.length = fn at *
  generalize x.ins.length = in_ at *
  generalize x.outs.length = on_ at *
  cases hw : walkP x with
  | inr q =>
    have hq2 := walk_err hw
    have hE : errP x = q := errP_of hw
    have m7 : Hid (∀ W, Below w.heap.size w W → Calls Tryd.prog 7 #[.agg #[.string S, .slice ta tn tc, .slice fa fn fc, .slice ia in_ ic, .slice oa on_ oc, .slice ca cn cc]] W fun e w' => e = .returned (.tuple #[.int .i64 q.1, .int .i64 q.2]) ∧ Below W.heap.size W w') := fun W hb => by
      have := mV.out W _ _ _ _ _ _ x hb (HX.out.on hb) HC.out HL.out
      rw [hE] at this; exact this
    clear hg hz hx hcap hl hv hS hln hcn mV mD mR mC hw hE
    obtain ⟨q1, q2⟩ := q
    have hq2 : (q2 != 0) = true := hq2
    go_enter Tryd.func4, Tryd.ntmps4
    go_wp2_with (first | (go_at_call 14; refine (m14.out _ (HB1.out _)).mono ?_; rintro e w1 ⟨rfl, b1⟩; have X1 := hide (X0.out.on b1 X0.out.lt); have B1 := hide ((HB1.out _).trans (b1.mono (by simp))); clear b1; have p0 : w1.cell? ⟨w.heap.size, 0, none⟩ = some (.string S) := X1.out.cell 0 rfl; have p1 : w1.cell? ⟨w.heap.size, 1, none⟩ = some (.slice ta tn tc) := X1.out.cell 1 rfl; have p2 : w1.cell? ⟨w.heap.size, 2, none⟩ = some (.slice fa fn fc) := X1.out.cell 2 rfl; have p3 : w1.cell? ⟨w.heap.size, 3, none⟩ = some (.slice ia in_ ic) := X1.out.cell 3 rfl; have p4 : w1.cell? ⟨w.heap.size, 4, none⟩ = some (.slice oa on_ oc) := X1.out.cell 4 rfl; have p5 : w1.cell? ⟨w.heap.size, 5, none⟩ = some (.slice ca cn cc) := X1.out.cell 5 rfl) | (go_at_call 7; refine (m7.out _ B1.out).mono ?_; rintro e w2 ⟨rfl, b2⟩; have B2 := hide (B1.out.trans (b2.mono B1.out.size)); clear b2))
    go_ret
    exact ⟨rfl, B2.out⟩
  | inl m =>
    have hE : errP x = (0, 0) := errP_ok hw
    have h0 := (walk_good hw).1
    have hsm := small_of h0
    have m7 : Hid (∀ W, Below w.heap.size w W → Calls Tryd.prog 7 #[.agg #[.string S, .slice ta tn tc, .slice fa fn fc, .slice ia in_ ic, .slice oa on_ oc, .slice ca cn cc]] W fun e w' => e = .returned (.tuple #[.int .i64 0, .int .i64 0]) ∧ Below W.heap.size W w') := fun W hb => by
      have := mV.out W _ _ _ _ _ _ x hb (HX.out.on hb) HC.out HL.out
      rw [hE] at this; exact this
    have m6 : Hid (∀ W, Below w.heap.size w W → Calls Tryd.prog 6 #[.agg #[.string S, .slice ta tn tc, .slice fa fn fc, .slice ia in_ ic, .slice oa on_ oc, .slice ca cn cc]] W fun e w' => ∃ t f i o c, e = .returned (.agg #[.string S, t, f, i, o, c]) ∧ Cp w' W.heap.size x t f i o c ∧ Below W.heap.size W w') := fun W hb =>
      copy_cp _ _ _ _ _ _ x W (HX.out.on hb) hsm
    have HSM := hide hsm
    have H0 := hide h0
    have HW := hide hw
    by_cases hl1 : 100 < ln
    · have g1 : (100 : Int) < (ln : Int) := by omega
      clear hg hz hx hcap hl hv hS hln hcn mV mD mR mC hw hE h0 hsm hl1
      go_enter Tryd.func4, Tryd.ntmps4
      go_wp2_with (first | (go_at_call 14; refine (m14.out _ (HB1.out _)).mono ?_; rintro e w1 ⟨rfl, b1⟩; have X1 := hide (X0.out.on b1 X0.out.lt); have B1 := hide ((HB1.out _).trans (b1.mono (by simp))); clear b1; have p0 : w1.cell? ⟨w.heap.size, 0, none⟩ = some (.string S) := X1.out.cell 0 rfl; have p1 : w1.cell? ⟨w.heap.size, 1, none⟩ = some (.slice ta tn tc) := X1.out.cell 1 rfl; have p2 : w1.cell? ⟨w.heap.size, 2, none⟩ = some (.slice fa fn fc) := X1.out.cell 2 rfl; have p3 : w1.cell? ⟨w.heap.size, 3, none⟩ = some (.slice ia in_ ic) := X1.out.cell 3 rfl; have p4 : w1.cell? ⟨w.heap.size, 4, none⟩ = some (.slice oa on_ oc) := X1.out.cell 4 rfl; have p5 : w1.cell? ⟨w.heap.size, 5, none⟩ = some (.slice ca cn cc) := X1.out.cell 5 rfl) | (go_at_call 7; refine (m7.out _ B1.out).mono ?_; rintro e w2 ⟨rfl, b2⟩; have X2 := hide (X1.out.on b2 X1.out.lt); have B2 := hide (B1.out.trans (b2.mono B1.out.size)); clear b2; have r0 : w2.cell? ⟨w.heap.size, 0, none⟩ = some (.string S) := X2.out.cell 0 rfl; have r1 : w2.cell? ⟨w.heap.size, 1, none⟩ = some (.slice ta tn tc) := X2.out.cell 1 rfl; have r2 : w2.cell? ⟨w.heap.size, 2, none⟩ = some (.slice fa fn fc) := X2.out.cell 2 rfl; have r3 : w2.cell? ⟨w.heap.size, 3, none⟩ = some (.slice ia in_ ic) := X2.out.cell 3 rfl; have r4 : w2.cell? ⟨w.heap.size, 4, none⟩ = some (.slice oa on_ oc) := X2.out.cell 4 rfl; have r5 : w2.cell? ⟨w.heap.size, 5, none⟩ = some (.slice ca cn cc) := X2.out.cell 5 rfl))
      go_ret
      exact ⟨rfl, B2.out⟩
    · have g1 : ¬ (100 : Int) < (ln : Int) := by omega
      by_cases hl2 : 4096 < cn + ln
      · have g2 : (4096 : Int) < (cn : Int) + (ln : Int) := by omega
        have gw : IntKind.i64.wrap ((cn : Int) + (ln : Int)) = (cn : Int) + (ln : Int) := by have := hsm.2.2.2.2; rw [← hcn] at this; simp [IntKind.wrap, IntKind.bits, IntKind.signed]; omega
        clear hg hz hx hcap hl hv hS hln hcn mV mD mR mC hw hE h0 hsm hl1 hl2
        go_enter Tryd.func4, Tryd.ntmps4
        go_wp2_with (first | (go_at_call 14; refine (m14.out _ (HB1.out _)).mono ?_; rintro e w1 ⟨rfl, b1⟩; have X1 := hide (X0.out.on b1 X0.out.lt); have B1 := hide ((HB1.out _).trans (b1.mono (by simp))); clear b1; have p0 : w1.cell? ⟨w.heap.size, 0, none⟩ = some (.string S) := X1.out.cell 0 rfl; have p1 : w1.cell? ⟨w.heap.size, 1, none⟩ = some (.slice ta tn tc) := X1.out.cell 1 rfl; have p2 : w1.cell? ⟨w.heap.size, 2, none⟩ = some (.slice fa fn fc) := X1.out.cell 2 rfl; have p3 : w1.cell? ⟨w.heap.size, 3, none⟩ = some (.slice ia in_ ic) := X1.out.cell 3 rfl; have p4 : w1.cell? ⟨w.heap.size, 4, none⟩ = some (.slice oa on_ oc) := X1.out.cell 4 rfl; have p5 : w1.cell? ⟨w.heap.size, 5, none⟩ = some (.slice ca cn cc) := X1.out.cell 5 rfl) | (go_at_call 7; refine (m7.out _ B1.out).mono ?_; rintro e w2 ⟨rfl, b2⟩; have X2 := hide (X1.out.on b2 X1.out.lt); have B2 := hide (B1.out.trans (b2.mono B1.out.size)); clear b2; have r0 : w2.cell? ⟨w.heap.size, 0, none⟩ = some (.string S) := X2.out.cell 0 rfl; have r1 : w2.cell? ⟨w.heap.size, 1, none⟩ = some (.slice ta tn tc) := X2.out.cell 1 rfl; have r2 : w2.cell? ⟨w.heap.size, 2, none⟩ = some (.slice fa fn fc) := X2.out.cell 2 rfl; have r3 : w2.cell? ⟨w.heap.size, 3, none⟩ = some (.slice ia in_ ic) := X2.out.cell 3 rfl; have r4 : w2.cell? ⟨w.heap.size, 4, none⟩ = some (.slice oa on_ oc) := X2.out.cell 4 rfl; have r5 : w2.cell? ⟨w.heap.size, 5, none⟩ = some (.slice ca cn cc) := X2.out.cell 5 rfl))
        go_ret
        exact ⟨rfl, B2.out⟩
      · have g2 : ¬ (4096 : Int) < (cn : Int) + (ln : Int) := by omega
        have gw : IntKind.i64.wrap ((cn : Int) + (ln : Int)) = (cn : Int) + (ln : Int) := by have := hsm.2.2.2.2; rw [← hcn] at this; simp [IntKind.wrap, IntKind.bits, IntKind.signed]; omega
        have HG := hide hg
        have HZ := hide hz
        have ln0 : (0 : Int) ≤ (ln : Int) := by omega
        obtain ⟨i0', hi, hz0, hz1, hz2⟩ := info_parts inX
        clear hg hz hx hcap hl hv hS hln hcn hw hE h0 hsm hl1 hl2
        go_enter Tryd.func4, Tryd.ntmps4
        go_wp2_with (first | (go_at_call 14; refine (m14.out _ (HB1.out _)).mono ?_; rintro e w1 ⟨rfl, b1⟩; have X1 := hide (X0.out.on b1 X0.out.lt); have B1 := hide ((HB1.out _).trans (b1.mono (by simp))); clear b1; have p0 : w1.cell? ⟨w.heap.size, 0, none⟩ = some (.string S) := X1.out.cell 0 rfl; have p1 : w1.cell? ⟨w.heap.size, 1, none⟩ = some (.slice ta tn tc) := X1.out.cell 1 rfl; have p2 : w1.cell? ⟨w.heap.size, 2, none⟩ = some (.slice fa fn fc) := X1.out.cell 2 rfl; have p3 : w1.cell? ⟨w.heap.size, 3, none⟩ = some (.slice ia in_ ic) := X1.out.cell 3 rfl; have p4 : w1.cell? ⟨w.heap.size, 4, none⟩ = some (.slice oa on_ oc) := X1.out.cell 4 rfl; have p5 : w1.cell? ⟨w.heap.size, 5, none⟩ = some (.slice ca cn cc) := X1.out.cell 5 rfl) | (go_at_call 7; refine (m7.out _ B1.out).mono ?_; rintro e w2 ⟨rfl, b2⟩; have X2 := hide (X1.out.on b2 X1.out.lt); have B2 := hide (B1.out.trans (b2.mono B1.out.size)); clear b2; have r0 : w2.cell? ⟨w.heap.size, 0, none⟩ = some (.string S) := X2.out.cell 0 rfl; have r1 : w2.cell? ⟨w.heap.size, 1, none⟩ = some (.slice ta tn tc) := X2.out.cell 1 rfl; have r2 : w2.cell? ⟨w.heap.size, 2, none⟩ = some (.slice fa fn fc) := X2.out.cell 2 rfl; have r3 : w2.cell? ⟨w.heap.size, 3, none⟩ = some (.slice ia in_ ic) := X2.out.cell 3 rfl; have r4 : w2.cell? ⟨w.heap.size, 4, none⟩ = some (.slice oa on_ oc) := X2.out.cell 4 rfl; have r5 : w2.cell? ⟨w.heap.size, 5, none⟩ = some (.slice ca cn cc) := X2.out.cell 5 rfl) | (go_at_call 6; refine (m6.out _ B2.out).mono ?_; rintro e w3 ⟨t, f, i, o, c, rfl, cp, b3⟩; obtain ⟨a1, a2, a3, a4, a5, q1, q2, q3, q4, q5, rfl, rfl, rfl, rfl, rfl⟩ := cp.shape; have C3 := hide cp; have X3 := hide (X2.out.on b3 X2.out.lt); have B3 := hide (B2.out.trans (b3.mono B2.out.size)); clear b3 cp))
        have d1 : decide ((100 : Int) < (ln : Int)) = false := decide_eq_false (by omega)
        have d2 : decide ((4096 : Int) < (cn : Int) + (ln : Int)) = false := decide_eq_false (by omega)
        simp only [d1, d2, Bool.or_self]
        clear d1 d2
        have HG1 := hide g1
        have HG2 := hide g2
        have HGW := hide gw
        clear g1 g2 gw p0 p1 p2 p3 p4 p5 r0 r1 r2 r3 r4 r5
        obtain ⟨N1, hN1⟩ : ∃ N, N = w3.heap.size := ⟨_, rfl⟩
        have zN : w.heap.size < N1 := by rw [hN1]; exact X3.out.lt
        rw [← hN1]
        have HN1 := hide hN1
        clear hN1
        go_loopw [9, 10, 11, 12, 51] (fun _ _ _ _ i wr => ∃ (k : Nat) (r : List Ins) (b1 b2 b3 b4 b5 : Option Addr) (s1 s2 s3 s4 s5 : Nat), k ≤ ln ∧ i = .int .i64 (k : Int) ∧ Hid (r.length ≤ k ∧ (chkP (addI x r)).2 = 0 ∧ Im wr (.string S) (.slice b1 x.ty.length s1) (.slice b2 x.fi.length s2) (.slice b3 x.ins.length s3) (.slice b4 x.outs.length s4) (.slice b5 (x.cd.length + r.length) s5) (addI x r) ∧ x.ty.length ≤ s1 ∧ Ob wr N1 26 [.string S, .slice b1 x.ty.length s1, .slice b2 x.fi.length s2, .slice b3 x.ins.length s3, .slice b4 x.outs.length s4, .slice b5 (x.cd.length + r.length) s5] ∧ Ob wr w.heap.size 26 [.string S, .slice ta tn tc, .slice fa fn fc, .slice ia in_ ic, .slice oa on_ oc, .slice ca cn cc] ∧ Below w.heap.size w wr)) (fun _ _ _ _ i _ => ln - (intOf i).toNat)
        case atStart =>
          have hb : Below w3.heap.size w3 (w3.alloc (.cells #[.string S, .slice a1 x.ty.length q1, .slice a2 x.fi.length q2, .slice a3 x.ins.length q3, .slice a4 x.outs.length q4, .slice a5 x.cd.length q5] 26)) := (Below.refl _ _).alloc (Nat.le_refl _) _
          have ha : addI x [] = x := by unfold addI; rw [List.append_nil]
          exact ⟨0, [], a1, a2, a3, a4, a5, q1, q2, q3, q4, q5, by omega, rfl, by simp, by rw [ha]; exact H0.out, by rw [ha]; exact (C3.out.im (congrArg Value.string HSN.out)).on hb, C3.out.cap _ _ _ rfl, by rw [HN1.out]; exact Ob.new w3 26 _, X3.out.on hb X3.out.lt, B3.out.alloc B3.out.size _⟩
        case round =>
          obtain ⟨k, r, b1, b2, b3, b4, b5, s1, s2, s3, s4, s5, hk, rfl, hh⟩ := hrel
          obtain ⟨hr, hck, hI, hs1, hY, hXb, hB⟩ := hh.out
          have k0 : (0 : Int) ≤ (k : Int) := by omega
          have HR := hide hr
          have HCK := hide hck
          have HI := hide hI
          have HS1 := hide hs1
          have HY := hide hY
          have HXB := hide hXb
          have HBW := hide hB
          have y0 : wr.cell? ⟨N1, 0, none⟩ = some (.string S) := hY.cell 0 rfl
          have y1 : wr.cell? ⟨N1, 1, none⟩ = some (.slice b1 x.ty.length s1) := hY.cell 1 rfl
          have y2 : wr.cell? ⟨N1, 2, none⟩ = some (.slice b2 x.fi.length s2) := hY.cell 2 rfl
          have y3 : wr.cell? ⟨N1, 3, none⟩ = some (.slice b3 x.ins.length s3) := hY.cell 3 rfl
          have y4 : wr.cell? ⟨N1, 4, none⟩ = some (.slice b4 x.outs.length s4) := hY.cell 4 rfl
          have y5 : wr.cell? ⟨N1, 5, none⟩ = some (.slice b5 (x.cd.length + r.length) s5) := hY.cell 5 rfl
          have zY := hY.lt
          clear hh hr hck hI hs1 hY hXb hB
          by_cases hlt : k < ln
          · have j1 : (k : Int) < (ln : Int) := by omega
            obtain ⟨va, lb, loff, vcap, hve, hvA, hvI⟩ := HV.out.on HBW.out
            injection hve with e1 e2 e3
            obtain ⟨hlb, hva⟩ := hvA (by rw [← HLN.out]; omega)
            obtain ⟨p, hp⟩ : ∃ p, l[k]? = some p := ⟨_, List.getElem?_eq_getElem (by rw [← HLN.out]; exact hlt)⟩
            obtain ⟨c0, c1, c2, c3⟩ := hvI k p hp
            have hix : ∀ W, (Instr.indexAt 24 (.slice la ln lc) (.int .i64 (k : Int))).run Tryd.prog W = .ok (.pointer (some ⟨lb, loff + k * 4, none⟩)) W := fun W => by
              rw [e1, hva]
              clear e2
              go_simp
            clear hvA hvI e1 e2 e3 hva
            have m6y : Hid (∀ A, Calls Tryd.prog 6 #[.agg #[.string S, .slice b1 x.ty.length s1, .slice b2 x.fi.length s2, .slice b3 x.ins.length s3, .slice b4 x.outs.length s4, .slice b5 (x.cd.length + r.length) s5]] (wr.alloc A) fun e w' => ∃ t f i o c, e = .returned (.agg #[.string S, t, f, i, o, c]) ∧ Cp w' (wr.heap.size + 1) (addI x r) t f i o c ∧ Below (wr.heap.size + 1) (wr.alloc A) w') := fun A => by
              have := copy_cp _ _ _ _ _ _ (addI x r) (wr.alloc A) (HI.out.on ((Below.refl _ _).alloc (Nat.le_refl _) A)) (small_of HCK.out)
              simpa using this
            obtain ⟨p0, p1, p2, p3⟩ := p
            go_wp2_with fail
            refine (m6y.out _).mono ?_
            rintro e u2 ⟨t, f, i, o, c, rfl, cp, bc⟩
            obtain ⟨f1, f2, f3, f4, f5, t1, t2, t3, t4, t5, rfl, rfl, rfl, rfl, rfl⟩ := cp.shape
            have CP := hide cp
            have lcd : (addI x r).cd.length = x.cd.length + r.length := List.length_append
            have z2 : wr.heap.size + 1 ≤ u2.heap.size := by have := bc.size; simpa using this
            have hI1 : ∀ A, (wr.alloc A).heap.size = wr.heap.size + 1 := fun A => by simp
            have IB := hide ((Ob.new wr 38 [.int .i64 p0, .int .i64 p1, .int .i64 p2, .int .i64 p3]).on bc (by omega))
            have BW1 : Hid (Below wr.heap.size wr u2) := ((Below.refl wr.heap.size wr).alloc (Nat.le_refl _) _).trans (bc.mono (by omega))
            have i0 : ∀ A, (u2.alloc A).cell? ⟨wr.heap.size, 0, none⟩ = some (.int .i64 p0) := fun A => (World.cell?_alloc_lt _ _ ⟨wr.heap.size, 0, none⟩ IB.out.lt).trans (IB.out.cell 0 rfl)
            have i1 : ∀ A, (u2.alloc A).cell? ⟨wr.heap.size, 1, none⟩ = some (.int .i64 p1) := fun A => (World.cell?_alloc_lt _ _ ⟨wr.heap.size, 1, none⟩ IB.out.lt).trans (IB.out.cell 1 rfl)
            have i2 : ∀ A, (u2.alloc A).cell? ⟨wr.heap.size, 2, none⟩ = some (.int .i64 p2) := fun A => (World.cell?_alloc_lt _ _ ⟨wr.heap.size, 2, none⟩ IB.out.lt).trans (IB.out.cell 2 rfl)
            have i3 : ∀ A, (u2.alloc A).cell? ⟨wr.heap.size, 3, none⟩ = some (.int .i64 p3) := fun A => (World.cell?_alloc_lt _ _ ⟨wr.heap.size, 3, none⟩ IB.out.lt).trans (IB.out.cell 3 rfl)
            have OWC : Hid (u2.ownsRow (wr.heap.size + 1) 38 4 (.slice f5 (x.cd.length + r.length) t5) (x.cd.length + r.length) (inC (addI x r).cd)) := by
              show u2.ownsRow _ _ _ _ _ _
              rw [← lcd]; exact CP.out.cd
            have hobc : ∀ q, (Value.slice f5 (x.cd.length + r.length) t5).ownBlock = some q → wr.heap.size + 1 ≤ q ∧ q < u2.heap.size := fun q hq => OWC.out.lt q hq
            have lsm : x.cd.length + r.length ≤ 4096 := by have := (small_of HCK.out).2.2.2.2; rw [lcd] at this; exact this
            have LSM := hide lsm
            have zW : w.heap.size < wr.heap.size := HXB.out.lt
            clear bc c0 c1 c2 c3
            go_wp2_with (at_builtin; go_must (refine wpList_append_lies _ (by rfl) _ _ _ (by rfl) (wr.heap.size + 1) 38 i0' _ 4 32 Tryd.underlying24 hi hz0 hz1 hz2 rfl (by omega) (.slice f5 (x.cd.length + r.length) t5) (x.cd.length + r.length) _ (by rfl) ((OWC.out.alloc _).alloc _) ⟨u2.heap.size + 1, 0, none⟩ 1 1 [.int .i64 p0, .int .i64 p1, .int .i64 p2, .int .i64 p3] (by rfl) (by rfl) (World.news_of_block (cs := #[.int .i64 p0, .int .i64 p1, .int .i64 p2, .int .i64 p3]) (t := 38) (fr := (0, 0)) (Four.two_at u2 _ _)) (by simp [Value.oneCell']) (by omega) (by unfold maxLen; omega) (by omega) (by simp; omega) (u2.heap.size + 2) (by simp) ?_; intro gg cap' u5 hown5 hgrow hat hlt5; have ZB := hide (ob_grown (T := 26) (cs := [.string S, .slice f1 x.ty.length t1, .slice f2 x.fi.length t2, .slice f3 x.ins.length t3, .slice f4 x.outs.length t4, .slice f5 (x.cd.length + r.length) t5]) (b := u2.heap.size) ((Ob.new u2 26 _).on ((Below.refl _ _).alloc (Nat.le_refl _) _) (by simp)) hgrow (fun e => by have := hobc _ e.symm; omega)); have g0 : u5.cell? ⟨u2.heap.size, 0, none⟩ = some (.string S) := ZB.out.cell 0 rfl; have g1 : u5.cell? ⟨u2.heap.size, 1, none⟩ = some (.slice f1 x.ty.length t1) := ZB.out.cell 1 rfl; have g2 : u5.cell? ⟨u2.heap.size, 2, none⟩ = some (.slice f2 x.fi.length t2) := ZB.out.cell 2 rfl; have g3 : u5.cell? ⟨u2.heap.size, 3, none⟩ = some (.slice f3 x.ins.length t3) := ZB.out.cell 3 rfl; have g4 : u5.cell? ⟨u2.heap.size, 4, none⟩ = some (.slice f4 x.outs.length t4) := ZB.out.cell 4 rfl; have g5 : u5.cell? ⟨u2.heap.size, 5, none⟩ = some (.slice f5 (x.cd.length + r.length) t5) := ZB.out.cell 5 rfl; have gf := ZB.out.fr 5; have OW5 := hide hown5; have GR5 := hide hgrow; clear hown5 hgrow))
            have CPx : Cp u2 (wr.heap.size + 1) (addI x r) (.slice f1 x.ty.length t1) (.slice f2 x.fi.length t2) (.slice f3 x.ins.length t3) (.slice f4 x.outs.length t4) (.slice f5 (x.cd.length + r.length) t5) := by
              rw [← lcd]; exact CP.out
            have CP5 := CPx.app (q := ⟨p0, p1, p2, p3⟩) (((Below.refl u2.heap.size u2).alloc (Nat.le_refl _) _).alloc (by simp) _) GR5.out (by rw [lcd]; exact OW5.out)
            obtain ⟨u6, hu6⟩ : ∃ u6, u6 = u5.setCell ⟨u2.heap.size, 5, none⟩ (.slice (some ⟨gg, 0, none⟩) (x.cd.length + r.length + 1) cap') := ⟨_, rfl⟩
            rw [← hu6]
            have b56 : But u2.heap.size u5 u6 := by rw [hu6]; exact (But.refl _ _).set _ _
            have CP6 := hide (CP5.but ZB.out b56)
            have Z6 : Hid (Ob u6 u2.heap.size 26 [.string S, .slice f1 x.ty.length t1, .slice f2 x.fi.length t2, .slice f3 x.ins.length t3, .slice f4 x.outs.length t4, .slice (some ⟨gg, 0, none⟩) (x.cd.length + r.length + 1) cap']) := by
              show Ob _ _ _ _
              rw [hu6]; exact ZB.out.set 5 _
            have B5 : Below wr.heap.size wr u5 := ((BW1.out.alloc BW1.out.size _).alloc (by simp; omega) _).grown GR5.out (by simp; omega) (fun q hq => by have := hobc q hq; omega)
            have B6 : Hid (Below wr.heap.size wr u6) := by
              show Below _ _ _
              rw [hu6]; exact belowSet B5 (by omega) _ _
            obtain ⟨X2, hX2⟩ : ∃ X2 : Img, X2 = ⟨(addI x r).name, (addI x r).ty, (addI x r).fi, (addI x r).ins, (addI x r).outs, (addI x r).cd ++ [⟨p0, p1, p2, p3⟩]⟩ := ⟨_, rfl⟩
            have HX2 : Hid (X2 = addI x (r ++ [⟨p0, p1, p2, p3⟩])) := by show _ = _; rw [hX2, add_snoc]
            have CP6 : Hid (Cp u6 (wr.heap.size + 1) X2 (.slice f1 x.ty.length t1) (.slice f2 x.fi.length t2) (.slice f3 x.ins.length t3) (.slice f4 x.outs.length t4) (.slice (some ⟨gg, 0, none⟩) (x.cd.length + r.length + 1) cap')) := by
              show Cp _ _ _ _ _ _ _ _
              rw [hX2]; exact CP6.out
            have hnX : (Value.string S) = .string ⟨X2.name.toArray⟩ := by rw [hX2]; exact congrArg Value.string HSN.out
            have HNX := hide hnX
            have LX2 : Hid (ImL X2) := by show ImL _; rw [hX2]; exact big_of HCK.out _
            have m15 := hide (mC.out u6 _ _ _ _ _ _ X2 (HBW.out.trans (B6.out.mono HBW.out.size)) (CP6.out.im hnX) CP6.out.cap LX2.out)
            clear hu6 b56 CP5 CPx B5 hX2 hnX g0 g1 g2 g3 g4 g5 gf i0 i1 i2 i3 hat y0 y1 y2 y3 y4 y5
            refine m15.out.mono ?_
            rintro e u7 ⟨rfl, b7⟩
            have CP7 := hide (CP6.out.on b7)
            have Z7 := hide (Z6.out.on b7 Z6.out.lt)
            have B7 := hide (B6.out.trans (b7.mono B6.out.size))
            have Y7 := hide (HY.out.on B7.out HY.out.lt)
            have XB7 := hide (HXB.out.on B7.out HXB.out.lt)
            have BW7 := hide (HBW.out.trans (B7.out.mono HBW.out.size))
            have I7 := hide (HI.out.on B7.out)
            clear b7 m15
            by_cases hc : (chkP X2).2 = 0
            · have HC2 := hide hc
              have HRN : Hid ((r ++ [(⟨p0, p1, p2, p3⟩ : Ins)]).length ≤ k + 1) := by show _ ≤ _; have := HR.out; simp; omega
              have hle : x.cd.length + (r ++ [(⟨p0, p1, p2, p3⟩ : Ins)]).length = x.cd.length + r.length + 1 := by simp; omega
              have HLE := hide hle
              rw [hc]
              generalize (chkP X2).1 = cq at *
              clear hc hle
              have z0 : u7.cell? ⟨u2.heap.size, 0, none⟩ = some (.string S) := Z7.out.cell 0 rfl
              have z1 : u7.cell? ⟨u2.heap.size, 1, none⟩ = some (.slice f1 x.ty.length t1) := Z7.out.cell 1 rfl
              have z2' : u7.cell? ⟨u2.heap.size, 2, none⟩ = some (.slice f2 x.fi.length t2) := Z7.out.cell 2 rfl
              have z3 : u7.cell? ⟨u2.heap.size, 3, none⟩ = some (.slice f3 x.ins.length t3) := Z7.out.cell 3 rfl
              have z4 : u7.cell? ⟨u2.heap.size, 4, none⟩ = some (.slice f4 x.outs.length t4) := Z7.out.cell 4 rfl
              have z5 : u7.cell? ⟨u2.heap.size, 5, none⟩ = some (.slice (some ⟨gg, 0, none⟩) (x.cd.length + r.length + 1) cap') := Z7.out.cell 5 rfl
              have y0 : u7.cell? ⟨N1, 0, none⟩ = some (.string S) := Y7.out.cell 0 rfl
              have y1 : u7.cell? ⟨N1, 1, none⟩ = some (.slice b1 x.ty.length s1) := Y7.out.cell 1 rfl
              have y2 : u7.cell? ⟨N1, 2, none⟩ = some (.slice b2 x.fi.length s2) := Y7.out.cell 2 rfl
              have y3 : u7.cell? ⟨N1, 3, none⟩ = some (.slice b3 x.ins.length s3) := Y7.out.cell 3 rfl
              have y4 : u7.cell? ⟨N1, 4, none⟩ = some (.slice b4 x.outs.length s4) := Y7.out.cell 4 rfl
              have y5 : u7.cell? ⟨N1, 5, none⟩ = some (.slice b5 (x.cd.length + r.length) s5) := Y7.out.cell 5 rfl
              have fr := Y7.out.fr
              go_wp2_with fail
              go_roundw
              case rel =>
                have bN : But N1 u7 _ := ((((((But.refl N1 u7).set 0 (.string S)).set 1 (.slice f1 x.ty.length t1)).set 2 (.slice f2 x.fi.length t2)).set 3 (.slice f3 x.ins.length t3)).set 4 (.slice f4 x.outs.length t4)).set 5 (.slice (some ⟨gg, 0, none⟩) (x.cd.length + r.length + 1) cap')
                refine ⟨k + 1, r ++ [⟨p0, p1, p2, p3⟩], f1, f2, f3, f4, some ⟨gg, 0, none⟩, t1, t2, t3, t4, cap', by omega, by go_num, HRN.out, by rw [← HX2.out]; exact HC2.out, ?_, CP7.out.cap _ _ _ rfl, ?_, ?_, ?_⟩
                · rw [HLE.out, ← HX2.out]
                  exact (CP7.out.but Y7.out bN).im HNX.out
                · rw [HLE.out]
                  exact (((((Y7.out.set 0 (.string S)).set 1 (.slice f1 x.ty.length t1)).set 2 (.slice f2 x.fi.length t2)).set 3 (.slice f3 x.ins.length t3)).set 4 (.slice f4 x.outs.length t4)).set 5 (.slice (some ⟨gg, 0, none⟩) (x.cd.length + r.length + 1) cap')
                · exact bN.ob XB7.out (by omega)
                · exact belowSet (belowSet (belowSet (belowSet (belowSet (belowSet BW7.out (by omega) 0 _) (by omega) 1 _) (by omega) 2 _) (by omega) 3 _) (by omega) 4 _) (by omega) 5 _
              case measure => simp [intOf]; omega
            · have hcb : ((chkP X2).2 == 0) = false := by simpa using hc
              generalize (chkP X2).1 = cq at *
              generalize (chkP X2).2 = cp2 at *
              have HRN : Hid (r.length ≤ k + 1) := by show _ ≤ _; have := HR.out; omega
              clear hc
              go_wp2_with fail
              go_roundw
              case rel => exact ⟨k + 1, r, b1, b2, b3, b4, b5, s1, s2, s3, s4, s5, by omega, by go_num, HRN.out, HCK.out, I7.out, HS1.out, Y7.out, XB7.out, BW7.out⟩
              case measure => simp [intOf]; omega
          · have hkl : k = ln := by omega
            clear hkl
            obtain ⟨wo, hwo⟩ : ∃ x, x = wr := ⟨_, rfl⟩
            subst hwo
            obtain ⟨EE, ED, ER⟩ := errP_add HW.out HCK.out
            have eR : rchP x = (rchL m, 0) := by unfold rchP; rw [HW.out]
            have eD : (deepP x).2 = 0 := by unfold deepP; rw [HW.out]
            have capy : ∀ p n q, Value.slice b1 x.ty.length s1 = .slice p n q → n ≤ q := fun p n q e => by injection e with _ h1 h2; have := HS1.out; omega
            have LIY := imL_of HCK.out
            have n7 := hide (mV.out wo _ _ _ _ _ _ (addI x r) HBW.out HI.out capy LIY)
            rw [EE] at n7
            have n9x : Hid (∀ W, Below w.heap.size w W → Calls Tryd.prog 9 #[.agg #[.string S, .slice ta tn tc, .slice fa fn fc, .slice ia in_ ic, .slice oa on_ oc, .slice ca cn cc]] W fun e w' => e = .returned (.tuple #[.int .i64 (deepP x).1, .int .i64 0]) ∧ Below W.heap.size W w') := fun W hb => by
              have := mD.out W _ _ _ _ _ _ x hb (HX.out.on hb) HC.out HL.out
              rw [eD] at this; exact this
            have n9y : Hid (∀ W, Below wo.heap.size wo W → Calls Tryd.prog 9 #[.agg #[.string S, .slice b1 x.ty.length s1, .slice b2 x.fi.length s2, .slice b3 x.ins.length s3, .slice b4 x.outs.length s4, .slice b5 (x.cd.length + r.length) s5]] W fun e w' => e = .returned (.tuple #[.int .i64 (deepP x).1, .int .i64 0]) ∧ Below W.heap.size W w') := fun W hb => by
              have := mD.out W _ _ _ _ _ _ (addI x r) (HBW.out.trans (hb.mono HBW.out.size)) (HI.out.on hb) capy LIY
              rw [ED, eD] at this; exact this
            have lx0 : (rchL m).length = x.cd.length := by
              obtain ⟨h0', hr'⟩ := walk_good HW.out
              exact (rchL_len h0' hr')
            have lxp : 0 < (rchL m).length := by rw [lx0]; exact (frame_facts (chk_ok H0.out)).c1
            have n11x : Hid (∀ W, Below w.heap.size w W → Calls Tryd.prog 11 #[.agg #[.string S, .slice ta tn tc, .slice fa fn fc, .slice ia in_ ic, .slice oa on_ oc, .slice ca cn cc]] W fun e w' => ∃ g, e = .returned (.tuple #[.slice (some ⟨g, 0, none⟩) (rchL m).length (rchL m).length, .int .i64 0]) ∧ Ob w' g 4 ((rchL m).map Value.bool) ∧ Below W.heap.size W w') := fun W hb => by
              have := mR.out W _ _ _ _ _ _ x hb (HX.out.on hb) HC.out HL.out
              rw [eR] at this
              refine this.mono fun e w' h => ?_
              obtain ⟨v, h1, h2, h3⟩ := h
              rcases h3 with ⟨h3, _⟩ | ⟨g, _, h4, h5⟩
              · have h3 : rchL m = [] := h3
                rw [h3] at lxp; exact absurd lxp (by simp)
              · exact ⟨g, by rw [h1, h4], h5, h2⟩
            have n11y : Hid (∀ W, Below wo.heap.size wo W → Calls Tryd.prog 11 #[.agg #[.string S, .slice b1 x.ty.length s1, .slice b2 x.fi.length s2, .slice b3 x.ins.length s3, .slice b4 x.outs.length s4, .slice b5 (x.cd.length + r.length) s5]] W fun e w' => ∃ g, e = .returned (.tuple #[.slice (some ⟨g, 0, none⟩) (rchL m ++ List.replicate r.length false).length (rchL m ++ List.replicate r.length false).length, .int .i64 0]) ∧ Ob w' g 4 ((rchL m ++ List.replicate r.length false).map Value.bool) ∧ Below W.heap.size W w') := fun W hb => by
              have := mR.out W _ _ _ _ _ _ (addI x r) (HBW.out.trans (hb.mono HBW.out.size)) (HI.out.on hb) capy LIY
              rw [ER] at this
              refine this.mono fun e w' h => ?_
              obtain ⟨v, h1, h2, h3⟩ := h
              rcases h3 with ⟨h3, _⟩ | ⟨g, _, h4, h5⟩
              · have h3 := congrArg List.length h3
                simp only [List.length_append, List.length_nil] at h3
                omega
              · exact ⟨g, by rw [h1, h4], h5, h2⟩
            have LY : Hid ((rchL m ++ List.replicate r.length false).length = x.cd.length + r.length) := by show _ = _; rw [List.length_append, lx0, List.length_replicate]
            obtain ⟨RY, hRY⟩ : ∃ RY, RY = rchL m ++ List.replicate r.length false := ⟨_, rfl⟩
            have HRY := hide hRY
            rw [← hRY] at n11y LY
            have lsm : x.cd.length + r.length ≤ 4096 := by have := (small_of HCK.out).2.2.2.2; rw [show (addI x r).cd.length = x.cd.length + r.length from List.length_append] at this; exact this
            generalize (deepP x).1 = DP at *
            have Y0 := hide HY.out
            have XB0 := hide HXB.out
            have BR0 := hide (Below.refl wo.heap.size wo)
            have BW0 := hide HBW.out
            obtain ⟨ly, hly⟩ : ∃ n, n = RY.length := ⟨_, rfl⟩
            obtain ⟨lx, hlx⟩ : ∃ n, n = (rchL m).length := ⟨_, rfl⟩
            rw [← hly] at n11y LY
            rw [← hlx] at n11x
            have HLY := hide hly
            have HLX := hide hlx
            have lyn : (ly : Int) = ((x.cd.length + r.length : Nat) : Int) := by have := LY.out; omega
            have ly9 : (ly : Int) ≤ 4096 := by have := LY.out; omega
            have ly0 : (0 : Int) ≤ (ly : Int) := by omega
            have lx9 : (0 : Int) ≤ (lx : Int) := by omega
            have CDL : x.cd.length + r.length = ly := LY.out.symm
            have HCDL := hide CDL
            rw [CDL] at y5 n7 n9y n11y Y0
            have LYN := hide lyn
            clear EE ED ER eR eD capy LIY lx0 lxp hRY hly hlx lyn CDL lsm
            have j2 : ¬ (k : Int) < (ln : Int) := by omega
            go_wp2_with fail
            refine n7.out.mono ?_
            rintro e u1 ⟨rfl, bb1⟩
            have Y1 := hide (Y0.out.on bb1 Y0.out.lt)
            have XB1 := hide (XB0.out.on bb1 XB0.out.lt)
            have BR1 := hide (BR0.out.trans (bb1.mono BR0.out.size))
            have BW1 := hide (BW0.out.trans (bb1.mono BW0.out.size))
            clear bb1 y0 y1 y2 y3 y4 y5
            have cx0 : u1.cell? ⟨w.heap.size, 0, none⟩ = some (.string S) := XB1.out.cell 0 rfl
            have cx1 : u1.cell? ⟨w.heap.size, 1, none⟩ = some (.slice ta tn tc) := XB1.out.cell 1 rfl
            have cx2 : u1.cell? ⟨w.heap.size, 2, none⟩ = some (.slice fa fn fc) := XB1.out.cell 2 rfl
            have cx3 : u1.cell? ⟨w.heap.size, 3, none⟩ = some (.slice ia in_ ic) := XB1.out.cell 3 rfl
            have cx4 : u1.cell? ⟨w.heap.size, 4, none⟩ = some (.slice oa on_ oc) := XB1.out.cell 4 rfl
            have cx5 : u1.cell? ⟨w.heap.size, 5, none⟩ = some (.slice ca cn cc) := XB1.out.cell 5 rfl
            go_wp2_with fail
            refine (n9x.out _ BW1.out).mono ?_
            rintro e u2 ⟨rfl, bb2⟩
            have Y2 := hide (Y1.out.on bb2 Y1.out.lt)
            have XB2 := hide (XB1.out.on bb2 XB1.out.lt)
            have BR2 := hide (BR1.out.trans (bb2.mono BR1.out.size))
            have BW2 := hide (BW1.out.trans (bb2.mono BW1.out.size))
            clear cx0 cx1 cx2 cx3 cx4 cx5
            clear bb2
            have dy0 : u2.cell? ⟨N1, 0, none⟩ = some (.string S) := Y2.out.cell 0 rfl
            have dy1 : u2.cell? ⟨N1, 1, none⟩ = some (.slice b1 x.ty.length s1) := Y2.out.cell 1 rfl
            have dy2 : u2.cell? ⟨N1, 2, none⟩ = some (.slice b2 x.fi.length s2) := Y2.out.cell 2 rfl
            have dy3 : u2.cell? ⟨N1, 3, none⟩ = some (.slice b3 x.ins.length s3) := Y2.out.cell 3 rfl
            have dy4 : u2.cell? ⟨N1, 4, none⟩ = some (.slice b4 x.outs.length s4) := Y2.out.cell 4 rfl
            have dy5 : u2.cell? ⟨N1, 5, none⟩ = some (.slice b5 ly s5) := Y2.out.cell 5 rfl
            go_wp2_with fail
            refine (n9y.out _ BR2.out).mono ?_
            rintro e u3 ⟨rfl, bb3⟩
            have Y3 := hide (Y2.out.on bb3 Y2.out.lt)
            have XB3 := hide (XB2.out.on bb3 XB2.out.lt)
            have BR3 := hide (BR2.out.trans (bb3.mono BR2.out.size))
            have BW3 := hide (BW2.out.trans (bb3.mono BW2.out.size))
            clear dy0 dy1 dy2 dy3 dy4 dy5
            clear bb3
            have ey0 : u3.cell? ⟨N1, 0, none⟩ = some (.string S) := Y3.out.cell 0 rfl
            have ey1 : u3.cell? ⟨N1, 1, none⟩ = some (.slice b1 x.ty.length s1) := Y3.out.cell 1 rfl
            have ey2 : u3.cell? ⟨N1, 2, none⟩ = some (.slice b2 x.fi.length s2) := Y3.out.cell 2 rfl
            have ey3 : u3.cell? ⟨N1, 3, none⟩ = some (.slice b3 x.ins.length s3) := Y3.out.cell 3 rfl
            have ey4 : u3.cell? ⟨N1, 4, none⟩ = some (.slice b4 x.outs.length s4) := Y3.out.cell 4 rfl
            have ey5 : u3.cell? ⟨N1, 5, none⟩ = some (.slice b5 ly s5) := Y3.out.cell 5 rfl
            go_wp2_with fail
            refine (n11y.out _ BR3.out).mono ?_
            rintro e u4 ⟨gy, rfl, og, bb4⟩
            have Y4 := hide (Y3.out.on bb4 Y3.out.lt)
            have XB4 := hide (XB3.out.on bb4 XB3.out.lt)
            have BR4 := hide (BR3.out.trans (bb4.mono BR3.out.size))
            have BW4 := hide (BW3.out.trans (bb4.mono BW3.out.size))
            clear ey0 ey1 ey2 ey3 ey4 ey5
            clear bb4
            have OG4 := hide og
            clear og
            have fx0 : u4.cell? ⟨w.heap.size, 0, none⟩ = some (.string S) := XB4.out.cell 0 rfl
            have fx1 : u4.cell? ⟨w.heap.size, 1, none⟩ = some (.slice ta tn tc) := XB4.out.cell 1 rfl
            have fx2 : u4.cell? ⟨w.heap.size, 2, none⟩ = some (.slice fa fn fc) := XB4.out.cell 2 rfl
            have fx3 : u4.cell? ⟨w.heap.size, 3, none⟩ = some (.slice ia in_ ic) := XB4.out.cell 3 rfl
            have fx4 : u4.cell? ⟨w.heap.size, 4, none⟩ = some (.slice oa on_ oc) := XB4.out.cell 4 rfl
            have fx5 : u4.cell? ⟨w.heap.size, 5, none⟩ = some (.slice ca cn cc) := XB4.out.cell 5 rfl
            go_wp2_with fail
            refine (n11x.out _ BW4.out).mono ?_
            rintro e u5 ⟨gx, rfl, ox, bb5⟩
            have OG5 := hide (OG4.out.on bb5 OG4.out.lt)
            have Y5 := hide (Y4.out.on bb5 Y4.out.lt)
            have XB5 := hide (XB4.out.on bb5 XB4.out.lt)
            have BR5 := hide (BR4.out.trans (bb5.mono BR4.out.size))
            have BW5 := hide (BW4.out.trans (bb5.mono BW4.out.size))
            clear fx0 fx1 fx2 fx3 fx4 fx5
            clear bb5
            have OX5 := hide ox
            clear ox
            have hy0 : u5.cell? ⟨N1, 0, none⟩ = some (.string S) := Y5.out.cell 0 rfl
            have hy1 : u5.cell? ⟨N1, 1, none⟩ = some (.slice b1 x.ty.length s1) := Y5.out.cell 1 rfl
            have hy2 : u5.cell? ⟨N1, 2, none⟩ = some (.slice b2 x.fi.length s2) := Y5.out.cell 2 rfl
            have hy3 : u5.cell? ⟨N1, 3, none⟩ = some (.slice b3 x.ins.length s3) := Y5.out.cell 3 rfl
            have hy4 : u5.cell? ⟨N1, 4, none⟩ = some (.slice b4 x.outs.length s4) := Y5.out.cell 4 rfl
            have hy5 : u5.cell? ⟨N1, 5, none⟩ = some (.slice b5 ly s5) := Y5.out.cell 5 rfl
            have lne : ((ly : Int) != (ly : Int)) = false := by simp
            go_wp2_with fail
            clear hy0 hy1 hy2 hy3 hy4 hy5 lne
            go_loopw [4, 23, 127] (fun _ _ i wr => ∃ j : Nat, j ≤ ly ∧ i = .int .i64 (j : Int) ∧ Hid (∃ d, wr = u5.drewN d)) (fun _ _ i _ => ly - (intOf i).toNat)
            case atStart => exact ⟨0, by omega, rfl, 0, rfl⟩
            case round =>
              obtain ⟨j, hj, rfl, hh⟩ := hrel
              obtain ⟨d, rfl⟩ := hh.out
              clear hh
              have jj0 : (0 : Int) ≤ (j : Int) := by omega
              by_cases hlt2 : j < ly
              · have j3 : (j : Int) < (ly : Int) := by omega
                obtain ⟨bv, hbv⟩ : ∃ b, RY[j]? = some b := ⟨_, List.getElem?_eq_getElem (by rw [← HLY.out]; exact hlt2)⟩
                have cy : u5.cell? ⟨gy, j, none⟩ = some (.bool bv) := OG5.out.cell j (by rw [List.getElem?_map, hbv]; rfl)
                by_cases hx1 : j < lx
                · have j4 : (j : Int) < (lx : Int) := by omega
                  have cx : u5.cell? ⟨gx, j, none⟩ = some (.bool bv) := OX5.out.cell j (by
                    have h := hbv
                    rw [HRY.out, List.getElem?_append_left (by rw [← HLX.out]; exact hx1)] at h
                    rw [List.getElem?_map, h]; rfl)
                  have j5 : decide ((j : Int) < (lx : Int)) = true := decide_eq_true j4
                  have j6 : (bv != bv) = false := by cases bv <;> rfl
                  clear hbv
                  go_wp2_with fail
                  go_quiet (fail)
                  go_wp2
                  go_roundw
                  case rel => exact ⟨j + 1, by omega, by go_num, _, rfl⟩
                  case measure => simp [intOf]; omega
                · have j4 : ¬ (j : Int) < (lx : Int) := by omega
                  have hbf : bv = false := by
                    have h := hbv
                    rw [HRY.out, List.getElem?_append_right (by rw [← HLX.out]; omega)] at h
                    exact (List.eq_of_mem_replicate (List.mem_of_getElem? h))
                  subst hbf
                  have j5 : decide ((j : Int) < (lx : Int)) = false := decide_eq_false j4
                  clear hbv
                  go_wp2_with fail
                  go_quiet (fail)
                  go_wp2
                  go_roundw
                  case rel => exact ⟨j + 1, by omega, by go_num, _, rfl⟩
                  case measure => simp [intOf]; omega
              · have j3 : ¬ (j : Int) < (ly : Int) := by omega
                go_wp2
                go_ret
                exact ⟨rfl, below_drewN BW5.out _⟩
end Go.Proofs.YtlckedionmgjjaaDoor
