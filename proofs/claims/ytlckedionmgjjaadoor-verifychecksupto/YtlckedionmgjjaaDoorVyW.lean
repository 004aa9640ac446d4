/- VerifyChecks: the document's at. -/
import Derived.Test.YtlckedionmgjjaaDoorMg22
import Derived.Test.YtlckedionmgjjaaDoorMg17
import Derived.Test.YtlckedionmgjjaaDoorMg14
import Derived.Test.YtlckedionmgjjaaDoorCpI
namespace Go.Proofs.YtlckedionmgjjaaDoor
open Go.RowKit
theorem wpl_app3 {P : Program} {ops : Array Oper} {rest : List Oper} {o : Oper} {a : Act} {w : World} {Q : Exit → Act → World → Prop} (hg : o.guard = none) (s x : Operand) (t : TypeId) (ho : o.op = .call { callee := .builtin .append, args := #[s, x], argTypes := #[t, t] }) (v u v' : Value) (w' : World) (hs : a.eval s = v) (hx : a.eval x = u)
    (hr : (Builtin.append_ #[t, t] o.type #[v, u]).run P w = .ok v' w') (h : wpList P ops Q rest (a.put o.dst v') w') : wpList P ops Q (o :: rest) a w :=
  wpList_plain hg fun _ hK => wp_app s x t ho v u v' w' hs hx hr (hK _ _ h)
def AtQ (n g g1 g2 : Nat) (xs : List Value) (w : World) (R : Vs ⊕ (Int × Int)) (e : Ending) (w' : World) : Prop :=
  match R with
  | .inl m' => e = .returned (.tuple #[.int .i64 0, .int .i64 0]) ∧ LM n g g1 g2 xs m' w' ∧ Kp g g1 g2 w w'
  | .inr q => e = .returned (.tuple #[.int .i64 q.1, .int .i64 q.2]) ∧ Kp g g1 g2 w w'
theorem size26 : (Tryd.prog.info? 26).map (·.size) = some 6 := by kernel_rfl
theorem own_none3 (w : World) (base : Nat) (hb : base ≤ w.heap.size) : (w.alloc (.cells #[] 3)).ownsRow base 3 1 (.slice (some ⟨w.heap.size, 0, none⟩) 0 0) 0 [] :=
  World.ownsRow_lit (e := 3) (size := 1) w #[] 0 hb (by decide) rfl
/-- the two appends: what stays of a stack, and what is laid on it -/
theorem next_runs (w : World) (a : Option Addr) (d c : Nat) (l o : List Int) (v : Value) (hs : ILst w (.slice a d c) l) (hv : ILst w v o) (hl : l.length ≤ 64) (ho : o.length ≤ 2) :
    ∃ v1 x1 v2 x2, (Builtin.append_ #[22, 22] 22 #[.slice (some ⟨w.heap.size, 0, none⟩) 0 0, .slice a d c]).run Tryd.prog (w.alloc (.cells #[] 3)) = .ok v1 x1 ∧ (Builtin.append_ #[22, 22] 22 #[v1, v]).run Tryd.prog x1 = .ok v2 x2 ∧
      ILp (w.heap.size ≤ ·) x2 v2 (l ++ o) ∧ Below w.heap.size w x2 := by
  have b0 : Below w.heap.size w (w.alloc (.cells #[] 3)) := (Below.refl _ _).alloc (Nat.le_refl _) _
  obtain ⟨v1, x1, r1, o1, b1⟩ := copy_ints (w.alloc (.cells #[] 3)) w.heap.size 22 22 3 Tryd.underlying22 info3 w.heap.size (own_none3 w _ (Nat.le_refl _)) _ l (hs.on b0) (by omega) (by simp)
  have b01 := blw b0 b1
  obtain ⟨v2, x2, r2, o2, b2⟩ := run_append_ints x1 w.heap.size 22 l.length v1 (intC l) o1 v o (hv.on b01) (by omega) b01.size
  refine ⟨v1, x1, v2, x2, r1, r2, ?_, below_app b01 b01.size o1 b2⟩
  rw [← intC_append] at o2
  exact ILp.of_owns o2 (by simp)
theorem ILp.take {S : Nat → Prop} {w : World} {a : Option Addr} {n c d : Nat} {l : List Int} (h : ILp S w (.slice a n c) l) (hd : d ≤ l.length) : ILst w (.slice a d c) (l.take d) := by
  obtain ⟨a', b, off, cap, e, hc, hA, hI⟩ := h
  injection e with e1 e2 e3
  subst e1 e2 e3
  have hl : (l.take d).length = d := by rw [List.length_take]; omega
  refine ⟨a, b, off, c, by rw [hl], fun h => ⟨(hA (by omega)).1, (hA (by omega)).2.2⟩, fun i x hx => hI i x ?_⟩
  rw [List.getElem?_take] at hx
  split at hx
  · exact hx
  · cases hx
set_option maxRecDepth 100000 in
set_option maxHeartbeats 3200000 in
theorem at_any (n g g1 g2 k : Nat) (nm tv fv iv ov cv : Value) (ty : List Int) (cd : List Ins) (m : Vs) (s0 : Stk) (w : World) (h : LM n g g1 g2 [nm, tv, fv, iv, ov, cv] m w) (hn : cd.length = n) (hk : k < n) (ha : m.at k = some s0)
    (hC : ∀ W, Kp g g1 g2 w W → ISt W cv cd) (hT : ∀ W, Kp g g1 g2 w W → ILst W tv ty) (hty : ∀ t ∈ ty, 1 ≤ t ∧ t ≤ 4) (htl : ty.length ≤ 1024) (hi : mayI ty n (insAt cd k) = true) :
    Calls Tryd.prog 27 #[.pointer (some ⟨g, 0, none⟩), .int .i64 (k : Int)] w fun e w' => AtQ n g g1 g2 [nm, tv, fv, iv, ov, cv] w (lookS ty cd m k) e w' := by
  obtain ⟨i, hI⟩ : ∃ i, i = insAt cd k := ⟨_, rfl⟩
  have hik : cd[k]? = some i := by
    rw [hI]; unfold insAt
    rw [List.getD_eq_getElem?_getD, List.getElem?_eq_getElem (by omega)]; rfl
  have hs0 : OkS s0 := ⟨(h.good.ok k s0 ha).1, (h.good.ok k s0 ha).2⟩
  obtain ⟨ca, cb, coff, ccap, rfl, hcA, hcI⟩ := hC w (Kp.refl _ _ _ _)
  obtain ⟨hcb, rfl⟩ := hcA (by omega)
  obtain ⟨d0, d1, d2, d3⟩ := hcI k i hik
  have zg := h.ob.lt
  have hk9 := h.len
  have c5 : w.cell? ⟨g, 5, none⟩ = some (.slice (some ⟨cb, coff, none⟩) cd.length ccap) := h.ob.cell 5 rfl
  obtain ⟨W1, hW1⟩ : ∃ W1, W1 = w.alloc (.cells #[.int .i64 i.op, .int .i64 i.a, .int .i64 i.b, .int .i64 i.n] 38) := ⟨_, rfl⟩
  have HW1 := hide hW1
  have b1 : Below w.heap.size w W1 := by rw [hW1]; exact (Below.refl _ _).alloc (Nat.le_refl _) _
  have I1 : Ob W1 w.heap.size 38 [.int .i64 i.op, .int .i64 i.a, .int .i64 i.b, .int .i64 i.n] := by rw [hW1]; exact heap_alloc_new w _
  have M1 := h.on b1
  have K1 : Kp g g1 g2 w W1 := Kp.of_below b1
  obtain ⟨XS, hXS⟩ : ∃ XS : List Value, XS = [nm, tv, fv, iv, ov, .slice (some ⟨cb, coff, none⟩) cd.length ccap] ++ [.slice (some ⟨g1, 0, none⟩) n n, .slice (some ⟨g2, 0, none⟩) n n, .int .i64 (m.dp : Int)] := ⟨_, rfl⟩
  obtain ⟨YS, hYS⟩ : ∃ YS : List Value, YS = [.int .i64 i.op, .int .i64 i.a, .int .i64 i.b, .int .i64 i.n] := ⟨_, rfl⟩
  have HXS : Hid (∀ (j : Nat) (v : Value), [nm, tv, fv, iv, ov, .slice (some ⟨cb, coff, none⟩) cd.length ccap][j]? = some v → XS[0 + j]? = some v) := fun j v hv => by rw [Nat.zero_add, hXS]; exact (List.getElem?_append_left (List.getElem?_eq_some_iff.1 hv).1).trans hv
  have HYS : Hid (∀ (j : Nat) (v : Value), [Value.int .i64 i.op, .int .i64 i.a, .int .i64 i.b, .int .i64 i.n][j]? = some v → YS[0 + j]? = some v) := fun j v hv => by rw [Nat.zero_add, hYS]; exact hv
  have hSS : Ob W1 g 58 XS ∧ Ob W1 w.heap.size 38 YS := ⟨by rw [hXS]; exact M1.ob, by rw [hYS]; exact I1⟩
  have HSK : Hid (∀ W, Below W1.heap.size W1 W → Ob W g 58 XS ∧ Ob W w.heap.size 38 YS) := fun W hb => ⟨hSS.1.on hb hSS.1.lt, hSS.2.on hb hSS.2.lt⟩
  have m40 : Hid (Calls Tryd.prog 40 #[.agg #[nm, tv, fv, iv, ov, .slice (some ⟨cb, coff, none⟩) cd.length ccap], .agg #[.int .i64 i.op, .int .i64 i.a, .int .i64 i.b, .int .i64 i.n]] W1.drew fun e w' => ∃ u v, e = .returned (.tuple #[u, v]) ∧ ILst w' u (takesI ty i).1 ∧ ILst w' v (takesI ty i).2 ∧ Below W1.heap.size W1 w') :=
    (takesR_any nm tv fv iv ov _ ty i W1.drew (hT _ (K1.drewN 1)) htl (fun ho => by
      have := may_cell (n := i.n) (op := i.op) (a := i.a) (b := i.b) (by rw [hI]; exact hi) (by omega)
      unfold inB at this
      simp only [Bool.and_eq_true, decide_eq_true_eq] at this
      exact this)).mono fun _ _ ⟨u, v, h1, h2, h3, h4⟩ => ⟨u, v, h1, h2, h3, (Below.refl W1.heap.size W1).drew.trans h4⟩
  have hP : passR (takesI ty i) s0 = passS ty i s0 := pass_eq hs0.len hty (by rw [hI]; exact hi)
  have hG : goesI k i = (goesS k i).map (fun j : Nat => (j : Int)) := goes_eq (ty := ty) (n := n) (by rw [hI]; exact hi)
  have HGL : Hid (∀ j ∈ goesS k i, j ≤ n) := goes_le (ty := ty) (by rw [hI]; exact hi) hk
  have HOK : Hid (∀ t, passS ty i s0 = some t → OkS t) := fun t ht => pass_ok ht hs0 hty (by rw [hI]; exact hi)
  have hRR : lookS ty cd m k = match passR (takesI ty i) s0 with | none => .inr ((k : Int), 151) | some t => followS n k t (goesS k i) ⟨m.rs, m.wt, max m.dp t.length⟩ := by
    unfold lookS
    rw [ha, hn, ← hI, hP]; rfl
  rw [← hP] at HOK
  have hil : (takesI ty i).1.length ≤ 2 ∧ (takesI ty i).2.length ≤ 2 := by
    unfold takesI
    constructor <;> (repeat' split) <;> simp
  have HS0 : Hid (∀ W, Below W1.heap.size W1 W → LM n g g1 g2 [nm, tv, fv, iv, ov, .slice (some ⟨cb, coff, none⟩) cd.length ccap] m W ∧ Ob W w.heap.size 38 [.int .i64 i.op, .int .i64 i.a, .int .i64 i.b, .int .i64 i.n] ∧ Kp g g1 g2 w W ∧ ∃ sv, W.cell? ⟨g1, k, none⟩ = some sv ∧ ILp (off3 g g1 g2) W sv s0) := fun W hb => by
    have M := M1.on hb
    refine ⟨M, I1.on hb I1.lt, K1.trans (Kp.of_below hb), ?_⟩
    obtain ⟨vs, h1, h2, h3⟩ := M.sk
    have hkv : k < vs.length := by omega
    have hv : vs[k]? = some vs[k] := List.getElem?_eq_getElem hkv
    have h4 := h3 k _ hv
    rw [ha] at h4
    exact ⟨_, h2.cell k hv, h4⟩
  have k0 : (0 : Int) ≤ (k : Int) := by omega
  have k1 : (k : Int) < (n : Int) := by omega
  have k2 : (k : Int) < (cd.length : Int) := by omega
  have HNK : Hid (n ≤ 4096 ∧ k < n ∧ cd.length = n ∧ s0.length ≤ 64) := ⟨h.len, hk, hn, hs0.len⟩
  generalize lookS ty cd m k = R at *
  obtain ⟨p, hp⟩ : ∃ p, p = takesI ty i := ⟨_, rfl⟩
  rw [← hp] at m40 hRR hil HOK
  obtain ⟨pi, po⟩ := p
  have HRR := hide hRR
  have HG := hide hG
  obtain ⟨PQ, hPQ⟩ : ∃ PQ, PQ = AtQ n g g1 g2 [nm, tv, fv, iv, ov, .slice (some ⟨cb, coff, none⟩) cd.length ccap] w R := ⟨_, rfl⟩
  have HPQ := hide hPQ
  rw [← hPQ]
  obtain ⟨il1, il2⟩ := hil
  have IL1 : pi.length ≤ 2 := il1
  have IL2 : Hid (po.length ≤ 2) := il2
  have HKG := hide (And.intro h.ne zg)
  clear h hI hik hcI hcA hC hT ha hcb zg hn hk hi hty hs0 M1 K1 b1 I1 hW1 hRR hPQ hP hG hp il1 il2 htl hk9 hXS hYS
  go_enter Tryd.func27, Tryd.ntmps27
  go_wp2_with fail
  rw [← HW1.out]
  clear HW1 c5 d0 d1 d2 d3
  refine wp_region_held_drew (S := fun W => Ob W g 58 XS ∧ Ob W w.heap.size 38 YS) (by kernel_rfl) hSS (fun hSS => ?_)
  refine tkH 0 (.pointer (some ⟨g, 0, none⟩)) hSS ?_
  refine tkH 1 (.pointer (some ⟨g, 0, none⟩)) hSS ?_
  refine tkH 2 (.pointer (some ⟨g, 0, none⟩)) hSS ?_
  try simp only [Act.put, List.setIfInBounds_toArray, List.set_cons_zero, List.set_cons_succ]
  refine tkH 3 (.agg #[nm, tv, fv, iv, ov, .slice (some ⟨cb, coff, none⟩) cd.length ccap]) hSS ?_ (hy := yieldsIf_load_mid (by rfl) 26 (.tmp 26) rfl g 0 (by rfl) [nm, tv, fv, iv, ov, .slice (some ⟨cb, coff, none⟩) cd.length ccap] _ (fun W hW => hW.1.range 0 _ HXS.out) Tryd.underlying26 rfl size26)
  try simp only [Act.put, List.setIfInBounds_toArray, List.set_cons_zero, List.set_cons_succ]
  refine tkH 4 (.agg #[.int .i64 i.op, .int .i64 i.a, .int .i64 i.b, .int .i64 i.n]) hSS ?_ (hy := yieldsIf_load_mid (by rfl) 38 (.tmp 6) rfl w.heap.size 0 (by rfl) [.int .i64 i.op, .int .i64 i.a, .int .i64 i.b, .int .i64 i.n] _ (fun W hW => hW.2.range 0 _ HYS.out) Tryd.underlying38 rfl size38)
  try simp only [Act.put, List.setIfInBounds_toArray, List.set_cons_zero, List.set_cons_succ]
  refine rdH 5 (fun K hK => ?_)
  go_simp
  refine m40.out.mono ?_
  rintro e w2 ⟨u, v, rfl, hu, hv, b2⟩
  refine hK.out _ _ (HSK.out _ b2) (fun hSS => ?_)
  clear hK K
  try simp only [Act.put, List.setIfInBounds_toArray, List.set_cons_zero, List.set_cons_succ]
  refine tkH 6 (.tuple #[u, v]) hSS ?_
  try simp only [Act.put, List.setIfInBounds_toArray, List.set_cons_zero, List.set_cons_succ]
  refine tkH 7 u hSS ?_
  refine tkH 8 v hSS ?_
  try simp only [Act.put, List.setIfInBounds_toArray, List.set_cons_zero, List.set_cons_succ]
  refine tkH 9 u hSS ?_
  refine tkH 10 v hSS ?_
  try simp only [Act.put, List.setIfInBounds_toArray, List.set_cons_zero, List.set_cons_succ]
  refine wpAnyH_done (by kernel_rfl) ?_ _
  obtain ⟨M2, I2, K2, sv, hsv, hsl⟩ := HS0.out w2 b2
  have c6 : w2.cell? ⟨g, 6, none⟩ = some (.slice (some ⟨g1, 0, none⟩) n n) := M2.ob.cell 6 rfl
  obtain ⟨ua, ub, uoff, ucap, rfl, huA, huI⟩ := hu
  obtain ⟨sa, sb, soff, scap, rfl, hsc, hsA, hsI⟩ := hsl
  have HM2 := hide M2
  have HI2 := hide I2
  have HK2 := hide K2
  have HV := hide hv
  have HUA := hide huA
  have HUI := hide huI
  have HSL := hide (show ILp (off3 g g1 g2) w2 (.slice sa s0.length scap) s0 from ⟨sa, sb, soff, scap, rfl, hsc, hsA, hsI⟩)
  have HSA := hide hsA
  have HSI := hide hsI
  clear M2 I2 K2 hv huA huI hsA hsI hSS HSK m40 HS0 b2
  have IL64 : s0.length ≤ 64 := HNK.out.2.2.2
  by_cases hlt : s0.length < pi.length
  · have jlt : (s0.length : Int) - (pi.length : Int) < 0 := by omega
    have HE : Hid (R = .inr ((k : Int), 151)) := by
      show _ = _
      rw [HRR.out]
      unfold passR
      rw [if_pos hlt]
    generalize s0.length = sl at *
    generalize pi.length = il at *
    go_wp2
    rw [HPQ.out, HE.out]
    exact ⟨rfl, HK2.out⟩
  · obtain ⟨sl, hsl⟩ : ∃ sl, s0.length = sl := ⟨_, rfl⟩
    obtain ⟨il, hil⟩ : ∃ il, pi.length = il := ⟨_, rfl⟩
    obtain ⟨d, hd⟩ : ∃ d, sl = d + il := ⟨sl - il, by omega⟩
    rw [hsl] at hsv hsc IL64 HSL HSA hlt
    rw [hil] at HUA IL1 hlt ⊢
    have HSLn := hide hsl
    have HILn := hide hil
    have HD := hide hd
    have hdI : (sl : Int) - (il : Int) = (d : Int) := by omega
    have d64 : (d : Int) ≤ 64 := by omega
    have jlt : ¬ (d : Int) < 0 := by omega
    have il2I : (il : Int) ≤ 2 := by omega
    have sl64 : (sl : Int) ≤ 64 := by omega
    have H40 := HNK
    have m41 : Hid (∀ t W, Calls Tryd.prog 41 #[.int .i64 t] W fun e w' => e = .returned (.bool (t == 2 || t == 3)) ∧ w' = W) := whole_any
    clear hlt hsl hil hd IL64 IL1
    go_wp2
    go_loopw [11] (fun q wr => ∃ j : Nat, j ≤ il ∧ q = .int .i64 (j : Int) ∧ Hid ((∀ t, t < j → okT (pi.getD t 0) (s0.getD (d + t) 0) = true) ∧ ∃ dr, wr = w2.drewN dr)) (fun q _ => il - (intOf q).toNat)
    case atStart => exact ⟨0, by omega, rfl, fun t ht => absurd ht (by omega), 0, rfl⟩
    case round =>
      obtain ⟨j, hj, rfl, hh⟩ := hrel
      obtain ⟨hno, hwr⟩ := hh.out
      have HNO := hide hno
      have HWR := hide hwr
      have HC : Hid (∀ p v, w2.cell? p = some v → wr.cell? p = some v) := fun p v hp => by obtain ⟨dr, e⟩ := hwr; rw [e]; exact hp
      have HD1 : Hid (∀ q, ∃ dr, wr.drewN q = w2.drewN dr) := fun q => by obtain ⟨dr, e⟩ := hwr; exact ⟨dr + q, by rw [e]; simp only [World.drewN, Nat.add_assoc]⟩
      clear hh hno hwr
      have j0 : (0 : Int) ≤ (j : Int) := by omega
      by_cases hlt : j < il
      · have j1 : (j : Int) < (il : Int) := by omega
        obtain ⟨x, hx⟩ : ∃ x, pi[j]? = some x := ⟨_, List.getElem?_eq_getElem (by rw [HILn.out]; exact hlt)⟩
        obtain ⟨y, hy⟩ : ∃ y, s0[d + j]? = some y := ⟨_, List.getElem?_eq_getElem (by have := HSLn.out; have := HD.out; omega)⟩
        have cx := HC.out _ _ (HUI.out j x hx)
        have cy := HC.out _ _ (HSI.out (d + j) y hy)
        have gx : pi.getD j 0 = x := by rw [List.getD_eq_getElem?_getD, hx]; rfl
        have gy : s0.getD (d + j) 0 = y := by rw [List.getD_eq_getElem?_getD, hy]; rfl
        obtain ⟨_, eu⟩ := HUA.out (by omega)
        obtain ⟨_, _, es⟩ := HSA.out (by have := HD.out; omega)
        have ej : IntKind.i64.wrap ((d : Int) + (j : Int)) = (d : Int) + (j : Int) := by simp [IntKind.wrap, IntKind.bits, IntKind.signed]; omega
        have jd1 : (d : Int) + (j : Int) < (sl : Int) := by have := HD.out; omega
        have jd0 : (0 : Int) ≤ (d : Int) + (j : Int) := by omega
        have etn : ((d : Int) + (j : Int)).toNat = d + j := by omega
        rw [eu, es]
        have HXY : Hid (okT (pi.getD j 0) (s0.getD (d + j) 0) = okT x y) := by show _ = _; rw [gx, gy]
        clear gx gy
        by_cases hok : okT x y = true
        · have HNX : Hid (∀ t, t < j + 1 → okT (pi.getD t 0) (s0.getD (d + t) 0) = true) := fun t ht => by
            by_cases e : t = j
            · rw [e, HXY.out, hok]
            · exact HNO.out t (by omega)
          by_cases hm : x = -1
          · subst hm
            have hw : (y == 2 || y == 3) = true := hok
            clear hx hy hok
            go_wp2
            go_quiet (first | (go_at_call 41; exact Calls.quiet_of_same (m41.out _ _)))
            go_wp2
            go_roundw
            case rel => exact ⟨j + 1, by omega, by go_num, HNX.out, HD1.out _⟩
            case measure => simp [intOf]; omega
          · have hb1 : (x == -1) = false := by simpa using hm
            have hb2 : (x != -1) = true := by simpa using hm
            have hxy : x = y := by
              unfold okT at hok
              rw [if_neg hm] at hok
              simpa using hok
            subst hxy
            have hb3 : (x != x) = false := by simp
            clear hx hy hok
            go_wp2
            go_quiet (fail)
            go_wp2
            go_roundw
            case rel => exact ⟨j + 1, by omega, by go_num, HNX.out, HD1.out _⟩
            case measure => simp [intOf]; omega
        · have HE : Hid (R = .inr ((k : Int), 151)) := by
            show _ = _
            rw [HRR.out]
            unfold passR
            have hf : fitR pi s0 = false := by
              unfold fitR
              rw [← Bool.not_eq_true, List.all_eq_true]
              intro hall
              have := hall j (List.mem_range.2 (by have := HILn.out; omega))
              rw [show s0.length - pi.length = d by have := HILn.out; have := HSLn.out; have := HD.out; omega, HXY.out] at this
              exact hok this
            dsimp only
            rw [if_neg (by have := HILn.out; have := HSLn.out; have := HD.out; omega), hf, if_pos rfl]
          have HK3 : Hid (∀ q, Kp g g1 g2 w (wr.drewN q)) := fun q => by obtain ⟨dr, e⟩ := HD1.out q; rw [e]; exact HK2.out.drewN _
          by_cases hm : x = -1
          · subst hm
            have hw : (y == 2 || y == 3) = false := by
              unfold okT at hok
              simpa using hok
            clear hx hy hok
            go_wp2
            go_quiet (first | (go_at_call 41; exact Calls.quiet_of_same (m41.out _ _)))
            go_wp2
            rw [HPQ.out, HE.out]
            exact ⟨rfl, HK3.out _⟩
          · have hb1 : (x == -1) = false := by simpa using hm
            have hb2 : (x != -1) = true := by simpa using hm
            have hb3 : (x != y) = true := by
              unfold okT at hok
              rw [if_neg hm] at hok
              simpa using hok
            clear hx hy hok
            go_wp2
            go_quiet (fail)
            go_wp2
            rw [HPQ.out, HE.out]
            exact ⟨rfl, HK3.out _⟩
      · have j1 : ¬ (j : Int) < (il : Int) := by omega
        have hf : fitR pi s0 = true := by
          unfold fitR
          rw [List.all_eq_true]
          intro q hq
          rw [show s0.length - pi.length = d by have := HILn.out; have := HSLn.out; have := HD.out; omega]
          exact HNO.out q (by have := List.mem_range.1 hq; have := HILn.out; omega)
        obtain ⟨nx, hnx⟩ : ∃ nx : Stk, nx = s0.take d ++ po := ⟨_, rfl⟩
        have HE0 : Hid (R = if 64 < nx.length then .inr ((k : Int), 151) else followS n k nx (goesS k i) ⟨m.rs, m.wt, max m.dp nx.length⟩) := by
          show _ = _
          rw [HRR.out]
          unfold passR
          dsimp only
          rw [if_neg (by have := HILn.out; have := HSLn.out; have := HD.out; omega), hf, if_neg (by simp), show s0.length - pi.length = d by have := HILn.out; have := HSLn.out; have := HD.out; omega, ← hnx]
          by_cases hl : 64 < nx.length
          · rw [if_pos hl, if_pos hl]
          · rw [if_neg hl, if_neg hl]
        have HOX : Hid (¬ 64 < nx.length → OkS nx) := fun hl => HOK.out nx (by
          unfold passR
          dsimp only
          rw [if_neg (by have := HILn.out; have := HSLn.out; have := HD.out; omega), hf, if_neg (by simp), show s0.length - pi.length = d by have := HILn.out; have := HSLn.out; have := HD.out; omega, ← hnx, if_neg hl])
        have b3 : Below w2.heap.size w2 wr := by obtain ⟨dr, e⟩ := HD1.out 0; exact (show wr = w2.drewN dr from e) ▸ below_drewN (Below.refl _ _) dr
        obtain ⟨v1, x1, v2, x2, r1, r2, hp, b4⟩ := next_runs wr sa d scap (s0.take d) po v ((HSL.out.take (by have := HSLn.out; have := HD.out; omega)).on b3) (HV.out.on b3) (by rw [List.length_take]; have := H40.out.2.2.2; omega) IL2.out
        rw [← hnx] at hp
        have dsc : (d : Int) ≤ (scap : Int) := by have := HD.out; omega
        have d0 : (0 : Int) ≤ (d : Int) := by omega
        have b24 := blw b3 b4
        have M4 := hide (HM2.out.on b24)
        have I4 := hide (HI2.out.on b24 HI2.out.lt)
        have K4 := hide (HK2.out.trans (Kp.of_below b24))
        have P4 : Hid (ILp (off3 g g1 g2) x2 v2 nx) := hp.mono fun b hb => by
          obtain ⟨_, q2, _⟩ := M4.out.sk
          have z1 := HM2.out.ob.lt
          obtain ⟨vs, _, q3, _⟩ := HM2.out.sk
          have z2 := q3.lt
          have z3 := HM2.out.st.lt
          have z4 := b3.size
          exact ⟨by omega, by omega, by omega⟩
        obtain ⟨na, nb, noff, ncap, rfl, -, -, -⟩ := hp
        have HNX := hide hnx
        clear hnx b3 b4 b24 hf HNO HWR HD1 HRR HOK HSL HV
        obtain ⟨nl, hnl⟩ : ∃ nl, nx.length = nl := ⟨_, rfl⟩
        rw [hnl] at r2
        have HNL := hide hnl
        rw [hnl] at P4
        by_cases hl : 64 < nl
        · have hlI : (64 : Int) < (nl : Int) := by omega
          have HE : Hid (R = .inr ((k : Int), 151)) := by show _ = _; rw [HE0.out, if_pos (by rw [HNL.out]; exact hl)]
          clear HE0 HOX hnl
          go_wp2_with (first | (at_builtin; refine wpl_app3 rfl (.tmp 89) (.tmp 92) 22 rfl _ _ v1 x1 (by rfl) (by rfl) r1 ?_) | (at_builtin; refine wpl_app3 rfl (.tmp 93) (.tmp 94) 22 rfl _ _ _ x2 (by rfl) (by rfl) r2 ?_))
          rw [HPQ.out, HE.out]
          exact ⟨rfl, K4.out⟩
        · have hlI : ¬ (64 : Int) < (nl : Int) := by omega
          have nl0 : (0 : Int) ≤ (nl : Int) := by omega
          have OX := hide (HOX.out (by rw [HNL.out]; exact hl))
          have HE : Hid (R = followS n k nx (goesS k i) ⟨m.rs, m.wt, max m.dp nl⟩) := by show _ = _; rw [HE0.out, HNL.out, if_neg hl]
          have emax : ∀ (ts : Array TypeId) (u : TypeId) (W : World), (Builtin.max_ ts u #[.int .i64 (m.dp : Int), .int .i64 (nl : Int)]).run Tryd.prog W = .ok (.int .i64 ((max m.dp nl : Nat) : Int)) W := fun ts u W => by rw [run_max_int2]; exact congrArg (fun z => Result.ok (Value.int .i64 z) W) (by split <;> omega)
          have c8 : x2.cell? ⟨g, 8, none⟩ = some (.int .i64 (m.dp : Int)) := M4.out.ob.cell 8 rfl
          have f8 := M4.out.ob.fr 8
          obtain ⟨mx, hmx⟩ : ∃ mx, mx = max m.dp nl := ⟨_, rfl⟩
          rw [← hmx] at HE emax
          obtain ⟨x3, hx3⟩ : ∃ x3, x3 = x2.setCell ⟨g, 8, none⟩ (.int .i64 (mx : Int)) := ⟨_, rfl⟩
          have ng : w.heap.size ≠ g := by have := HKG.out.2; omega
          have bg : But g x2 x3 := by rw [hx3]; exact (But.refl g x2).set 8 _
          have k23 : Kp g g1 g2 x2 x3 := Kp.of_but bg (.inl rfl)
          have M5 : Hid (LM n g g1 g2 [nm, tv, fv, iv, ov, .slice (some ⟨cb, coff, none⟩) cd.length ccap] ⟨m.rs, m.wt, mx⟩ x3) := by rw [hx3]; exact M4.out.deep
          have I5 := bg.ob I4.out ng
          have K5 := hide (K4.out.trans k23)
          have P5 := hide (P4.out.kp k23)
          have q0 : x3.cell? ⟨w.heap.size, 0, none⟩ = some (.int .i64 i.op) := I5.cell 0 rfl
          have q1 : x3.cell? ⟨w.heap.size, 1, none⟩ = some (.int .i64 i.a) := I5.cell 1 rfl
          have q2 : x3.cell? ⟨w.heap.size, 2, none⟩ = some (.int .i64 i.b) := I5.cell 2 rfl
          have q3 : x3.cell? ⟨w.heap.size, 3, none⟩ = some (.int .i64 i.n) := I5.cell 3 rfl
          have m42 : Hid (Calls Tryd.prog 42 #[.int .i64 (k : Int), .agg #[.int .i64 i.op, .int .i64 i.a, .int .i64 i.b, .int .i64 i.n]] x3 fun e w' => ∃ v, e = .returned v ∧ ILp (off3 g g1 g2) w' v (goesI k i) ∧ LM n g g1 g2 [nm, tv, fv, iv, ov, .slice (some ⟨cb, coff, none⟩) cd.length ccap] ⟨m.rs, m.wt, mx⟩ w' ∧ Kp g g1 g2 w w' ∧ ILp (off3 g g1 g2) w' (.slice na nl ncap) nx) :=
            (goesF_any k i x3 (by have := HNK.out; omega)).mono fun _ _ ⟨v, a1, a2, a3⟩ => ⟨v, a1, a2.mono (fun b hb => by
              have z1 := M5.out.ob.lt
              obtain ⟨vs, _, z2, _⟩ := M5.out.sk
              have z2 := z2.lt
              have z3 := M5.out.st.lt
              exact ⟨by omega, by omega, by omega⟩), M5.out.on a3, K5.out.trans (Kp.of_below a3), P5.out.on a3⟩
          rw [hx3] at q0 q1 q2 q3 m42
          have y0 := I4.out.cell 0 rfl
          have y1 := I4.out.cell 1 rfl
          have y2 := I4.out.cell 2 rfl
          have y3 := I4.out.cell 3 rfl
          clear HE0 HOX hnl bg k23 I5 hmx K4 P4 M4 I4 M5 K5 P5 hx3
          go_wp2_with (first | (at_builtin; refine wpl_app3 rfl (.tmp 89) (.tmp 92) 22 rfl _ _ v1 x1 (by rfl) (by rfl) r1 ?_) | (at_builtin; refine wpl_app3 rfl (.tmp 93) (.tmp 94) 22 rfl _ _ _ x2 (by rfl) (by rfl) r2 ?_) | (go_at_call 42; refine m42.out.mono ?_; rintro e w5 ⟨tw, rfl, ht, hm5, hk5, hp5⟩))
          obtain ⟨T, hT⟩ : ∃ T, T = goesS k i := ⟨_, rfl⟩
          rw [HG.out, ← hT] at ht
          rw [← hT] at HE
          obtain ⟨ta, tb, toff, tcap, rfl, -, tA, tI⟩ := ht
          obtain ⟨tl, htl⟩ : ∃ tl, T.length = tl := ⟨_, rfl⟩
          rw [List.length_map, htl] at tA ⊢
          have HTL := hide htl
          have HTA := hide tA
          have HTN : Hid (∀ q ∈ T, q ≤ n) := by rw [hT]; exact HGL.out
          have tl2 : tl ≤ 2 := by
            rw [← htl, hT]
            unfold goesS
            (repeat' split) <;> simp
          have HTC : Hid (∀ W, Kp g g1 g2 w5 W → ∀ (j q : Nat), T[j]? = some q → W.cell? ⟨tb, toff + j, none⟩ = some (.int .i64 (q : Int))) := fun W hW j q hq => by
            have hj : j < tl := by rw [← htl]; exact (List.getElem?_eq_some_iff.1 hq).1
            obtain ⟨z1, z2, _⟩ := tA (by omega)
            exact (World.cell?_of_block (a := ⟨tb, toff + j, none⟩) (hW.block tb z1 z2.1 z2.2.1 z2.2.2)).trans (tI j _ (by rw [List.getElem?_map, hq]; rfl))
          have HPN : Hid (∀ W, Kp g g1 g2 w5 W → ILp (off3 g g1 g2) W (.slice na nl ncap) nx) := fun W hW => hp5.kp hW
          have HM5 := hide hm5
          have HK5 := hide hk5
          have HNE := hide hm5.ne
          clear tA tI hT htl hm5 hk5 hp5
          go_loopw [14] (fun q wr => ∃ (j : Nat) (mm : Vs), j ≤ tl ∧ q = .int .i64 (j : Int) ∧ Hid (followS n k nx (T.drop j) mm = R ∧ LM n g g1 g2 [nm, tv, fv, iv, ov, .slice (some ⟨cb, coff, none⟩) cd.length ccap] mm wr ∧ Kp g g1 g2 w5 wr)) (fun q _ => tl - (intOf q).toNat)
          case atStart => exact ⟨0, _, by omega, rfl, HE.out.symm, HM5.out, Kp.refl _ _ _ _⟩
          case round =>
            obtain ⟨j2, mm, hj2, rfl, hh2⟩ := hrel
            obtain ⟨hfo, hmm, hkk⟩ := hh2.out
            have HFO := hide hfo
            have HMM := hide hmm
            have HKK := hide hkk
            clear hh2 hfo hmm hkk
            have j20 : (0 : Int) ≤ (j2 : Int) := by omega
            by_cases hlt2 : j2 < tl
            · have j21 : (j2 : Int) < (tl : Int) := by omega
              obtain ⟨q, hq⟩ : ∃ q, T[j2]? = some q := ⟨_, List.getElem?_eq_getElem (by rw [HTL.out]; exact hlt2)⟩
              have hqn : q ≤ n := HTN.out q (List.mem_of_getElem? hq)
              have hdr : T.drop j2 = q :: T.drop (j2 + 1) := by
                rw [List.drop_eq_getElem_cons (by rw [HTL.out]; exact hlt2)]
                rw [List.getElem?_eq_getElem (by rw [HTL.out]; exact hlt2)] at hq
                rw [Option.some.inj hq]
              have HF2 : Hid (R = followS n k nx (q :: T.drop (j2 + 1)) mm) := by show _ = _; rw [← hdr]; exact HFO.out.symm
              obtain ⟨tlt, tne, rfl⟩ := HTA.out (by omega)
              have q0I : (0 : Int) ≤ (q : Int) := by omega
              have hcd := H40.out.2.2.1
              have HFACT : Hid (∀ W, (∃ d, W = wr.drewN d) → W.cell? ⟨tb, toff + j2, none⟩ = some (.int .i64 (q : Int)) ∧ W.cell? ⟨g, 5, none⟩ = some (.slice (some ⟨cb, coff, none⟩) cd.length ccap) ∧ W.cell? ⟨g, 6, none⟩ = some (.slice (some ⟨g1, 0, none⟩) n n) ∧ W.cell? ⟨g, 7, none⟩ = some (.slice (some ⟨g2, 0, none⟩) n n) ∧
                  (q < n → W.cell? ⟨g2, q, none⟩ = some (.int .i64 (stV mm q))) ∧ LM n g g1 g2 [nm, tv, fv, iv, ov, .slice (some ⟨cb, coff, none⟩) cd.length ccap] mm W ∧ Kp g g1 g2 w5 W) := fun W hW => by
                obtain ⟨d, rfl⟩ := hW
                have hm := HMM.out.on (below_drewN (Below.refl _ _) d)
                have hk := HKK.out.drewN d
                refine ⟨HTC.out _ hk j2 q hq, hm.ob.cell 5 rfl, hm.ob.cell 6 rfl, hm.ob.cell 7 rfl, fun hqn => hm.st.cell q ?_, hm, hk⟩
                rw [intC_get, stL_get _ hqn]; rfl
              have HKW : Hid (∀ W, Kp g g1 g2 w5 W → Kp g g1 g2 w W) := fun W h => HK5.out.trans h
              by_cases hqe : q = n
              · have jq : (cd.length : Int) ≤ (q : Int) := by omega
                have HE2 : Hid (R = .inr ((k : Int), 150)) := by
                  show _ = _
                  rw [HF2.out]
                  unfold followS
                  rw [if_pos hqe]
                obtain ⟨cx, c5, -, -, -, -, -⟩ := HFACT.out wr ⟨0, rfl⟩
                clear hq hdr hcd
                go_wp2
                go_quiet (fail)
                go_wp2
                rw [HPQ.out, HE2.out]
                exact ⟨rfl, HKW.out _ (HFACT.out _ ⟨_, rfl⟩).2.2.2.2.2.2⟩
              · have hqlt : q < n := by omega
                have jq : ¬ (cd.length : Int) ≤ (q : Int) := by omega
                have jqn : (q : Int) < (n : Int) := by omega
                have HF3 : Hid (R = match reachS mm q nx with | none => .inr ((q : Int), 151) | some m' => followS n k nx (T.drop (j2 + 1)) m') := by
                  show _ = _
                  rw [HF2.out]
                  show (if q = n then _ else _) = _
                  rw [if_neg hqe]
                  rfl
                obtain ⟨cx, c5, -, -, -, -, -⟩ := HFACT.out wr ⟨0, rfl⟩
                have HQ := hide hq
                clear hq hdr hcd
                go_wp2
                go_quiet (fail)
                go_wp2
                clear cx c5
                obtain ⟨wa, hwa⟩ : ∃ wa, wa = wr.drewN nq := ⟨_, rfl⟩
                rw [← hwa]
                have HDA : Hid (∃ d, wa = wr.drewN d) := ⟨_, hwa⟩
                clear hwa
                obtain ⟨cx, -, -, c7, cs0, -, -⟩ := HFACT.out wa HDA.out
                have cs := cs0 hqlt
                clear cs0
                by_cases hst : stV mm q = 0
                · have hat : mm.at q = none := st_zero (n := n) (by rw [stL_get _ hqlt, hst])
                  obtain ⟨m', hm'⟩ : ∃ m', reachS mm q nx = some m' := by unfold reachS; rw [hat]; exact ⟨_, rfl⟩
                  have HR2 : Hid (followS n k nx (T.drop (j2 + 1)) m' = R) := by show _ = _; rw [HF3.out, hm']
                  have HPUT : Hid (∀ W v, LM n g g1 g2 [nm, tv, fv, iv, ov, .slice (some ⟨cb, coff, none⟩) cd.length ccap] mm W → ILp (off3 g g1 g2) W v nx → LM n g g1 g2 [nm, tv, fv, iv, ov, .slice (some ⟨cb, coff, none⟩) cd.length ccap] m' ((W.setCell ⟨g2, q, none⟩ (.int .i64 1)).drew.setCell ⟨g1, q, none⟩ v)) := fun W v h1 h2 => h1.put hqlt OX.out hm' hat h2
                  rw [hst] at cs
                  clear hat hm' hst
                  go_wp2
                  go_quiet (fail)
                  go_wp2
                  clear cx c7 cs
                  obtain ⟨wb, hwb⟩ : ∃ wb, wb = wa.drewN nq := ⟨_, rfl⟩
                  rw [← hwb]
                  have HDB : Hid (∃ d, wb = wr.drewN d) := by obtain ⟨d, e⟩ := HDA.out; exact ⟨d + nq, by rw [hwb, e]; simp only [World.drewN, Nat.add_assoc]⟩
                  clear hwb
                  obtain ⟨cx, -, c6', c7, cs0, mb, kb⟩ := HFACT.out wb HDB.out
                  have cs := cs0 hqlt
                  clear cs0
                  have f2 := mb.st.fr q
                  obtain ⟨sv, s1, f1⟩ : ∃ sv, wb.cell? ⟨g1, q, none⟩ = some sv ∧ wb.frozen? ⟨g1, q, none⟩ = false := by
                    obtain ⟨vs, h1, h2, _⟩ := mb.sk
                    have hv : q < vs.length := by omega
                    exact ⟨_, h2.cell q (List.getElem?_eq_getElem hv), h2.fr q⟩
                  have HMB := hide mb
                  have HKB := hide kb
                  obtain ⟨e1, e2, e3⟩ := HNE.out
                  have e4 := tne.2.2
                  clear mb kb
                  go_region
                  obtain ⟨wc, hwc⟩ : ∃ wc, wc = (wb.setCell ⟨g2, q, none⟩ (.int .i64 1)).drew := ⟨_, rfl⟩
                  rw [← hwc]
                  have bc : But g2 wb wc := by rw [hwc]; exact ((But.refl g2 wb).set q _).drew
                  have kc : Kp g g1 g2 w5 wc := HKB.out.trans (Kp.of_but bc (.inr (.inr (.inl rfl))))
                  have KC := hide kc
                  have HM6 : Hid (LM n g g1 g2 [nm, tv, fv, iv, ov, .slice (some ⟨cb, coff, none⟩) cd.length ccap] m' (wc.setCell ⟨g1, q, none⟩ (.slice na nl ncap))) := by rw [hwc]; exact HPUT.out wb _ HMB.out (HPN.out _ HKB.out)
                  have cx' : wc.cell? ⟨tb, toff + j2, none⟩ = some (.int .i64 (q : Int)) := HTC.out _ kc j2 q HQ.out
                  have c6'' : wc.cell? ⟨g, 6, none⟩ = some (.slice (some ⟨g1, 0, none⟩) n n) := (bc.ob HMB.out.ob e2).cell 6 rfl
                  obtain ⟨sv', s1', f1'⟩ : ∃ sv, wc.cell? ⟨g1, q, none⟩ = some sv ∧ wc.frozen? ⟨g1, q, none⟩ = false := by
                    obtain ⟨vs, h1, h2, _⟩ := HMB.out.sk
                    have hv : q < vs.length := by omega
                    have h3 := bc.ob h2 e3
                    exact ⟨_, h3.cell q (List.getElem?_eq_getElem hv), h3.fr q⟩
                  clear hwc bc kc cx c6' c7 cs f2 s1 f1
                  go_wp2
                  go_region
                  go_wp2
                  go_roundw
                  case rel => exact ⟨j2 + 1, m', by omega, by go_num, HR2.out, HM6.out.drew, (kp_set KC.out (.inr (.inl rfl))).drewN 1⟩
                  case measure => simp [intOf]; omega
                · have hstb : (stV mm q == 0) = false := by simpa using hst
                  obtain ⟨s', hs'⟩ := st_pos hst
                  have hs64 : s'.length ≤ 64 := (HMM.out.good.ok q s' hs').1
                  have HF4 : Hid (R = if s' = nx then followS n k nx (T.drop (j2 + 1)) mm else .inr ((q : Int), 151)) := by
                    show _ = _
                    rw [HF3.out]
                    unfold reachS
                    rw [hs']
                    by_cases e : s' = nx
                    · dsimp only; rw [if_pos e, if_pos e]
                    · dsimp only; rw [if_neg e, if_neg e]
                  go_wp2
                  go_quiet (fail)
                  go_wp2
                  clear cx c7 cs
                  obtain ⟨wb, hwb⟩ : ∃ wb, wb = wa.drewN nq := ⟨_, rfl⟩
                  rw [← hwb]
                  have HDB : Hid (∃ d, wb = wr.drewN d) := by obtain ⟨d, e⟩ := HDA.out; exact ⟨d + nq, by rw [hwb, e]; simp only [World.drewN, Nat.add_assoc]⟩
                  clear hwb
                  obtain ⟨cx, -, c6', -, -, mb, kb⟩ := HFACT.out wb HDB.out
                  obtain ⟨sv, s1, s2⟩ : ∃ sv, wb.cell? ⟨g1, q, none⟩ = some sv ∧ ILp (off3 g g1 g2) wb sv s' := by
                    obtain ⟨vs, h1, h2, h3⟩ := mb.sk
                    have hv : q < vs.length := by omega
                    have hv2 : vs[q]? = some vs[q] := List.getElem?_eq_getElem hv
                    have h4 := h3 q _ hv2
                    rw [hs'] at h4
                    exact ⟨_, h2.cell q hv2, h4⟩
                  have m43 : Hid (∀ d, Calls Tryd.prog 43 #[sv, .slice na nl ncap] (wb.drewN d) fun e w' => e = .returned (.bool (decide (s' = nx))) ∧ ∃ d', w' = (wb.drewN d).drewN d') := fun d =>
                    sameR_any _ _ s' nx _ (s2.kp ((Kp.refl _ _ _ _).drewN d)).ilst (HPN.out _ (kb.drewN d)).ilst (by omega)
                  have HM7 : Hid (∀ d, LM n g g1 g2 [nm, tv, fv, iv, ov, .slice (some ⟨cb, coff, none⟩) cd.length ccap] mm (wb.drewN d) ∧ Kp g g1 g2 w5 (wb.drewN d)) := fun d => ⟨mb.on (below_drewN (Below.refl _ _) d), kb.drewN d⟩
                  clear mb kb s2 hs64 hst
                  by_cases e : s' = nx
                  · have de : decide (s' = nx) = true := decide_eq_true e
                    rw [de] at m43
                    have HF5 : Hid (followS n k nx (T.drop (j2 + 1)) mm = R) := by show _ = _; rw [HF4.out, if_pos e]
                    clear de e
                    go_quiet (first | (go_at_call 43; exact Calls.quiet_of (m43.out _)))
                    go_wp2
                    go_roundw
                    case rel => exact ⟨j2 + 1, mm, by omega, by go_num, HF5.out, (HM7.out _).1, (HM7.out _).2⟩
                    case measure => simp [intOf]; omega
                  · have de : decide (s' = nx) = false := decide_eq_false e
                    rw [de] at m43
                    have HF5 : Hid (R = .inr ((q : Int), 151)) := by show _ = _; rw [HF4.out, if_neg e]
                    clear de e
                    go_quiet (first | (go_at_call 43; exact Calls.quiet_of (m43.out _)))
                    go_wp2
                    rw [HPQ.out, HF5.out]
                    exact ⟨rfl, HKW.out _ (HM7.out _).2⟩
            · have hje : j2 = tl := by omega
              have HE2 : Hid (R = .inl mm) := by
                show _ = _
                rw [← HFO.out, List.drop_eq_nil_of_le (by rw [HTL.out]; omega)]; rfl
              have j21 : ¬ (j2 : Int) < (tl : Int) := by omega
              have HKW : Hid (Kp g g1 g2 w wr) := HK5.out.trans HKK.out
              go_wp2
              rw [HPQ.out, HE2.out]
              exact ⟨rfl, HMM.out, HKW.out⟩
end Go.Proofs.YtlckedionmgjjaaDoor
