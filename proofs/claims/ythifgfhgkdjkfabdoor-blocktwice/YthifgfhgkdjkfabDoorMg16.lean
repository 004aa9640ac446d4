/- block.Run, whole. | block.Run, where the kind or the first cells are refused; whole. | Calls one behind the other, plainly: what a step leaves fits; the first ones, then the others. -/
import Derived.Test.YthifgfhgkdjkfabDoorMg15
namespace Go.Proofs.YthifgfhgkdjkfabDoor
open Go.RowKit
/-- what calls answer -/
def RunQ (r : List Int × Int) (n : Nat) (e : Ending) (w' : World) : Prop :=
  (r.2 = 0 ∧ ∃ g cap, e = .returned (.tuple #[.slice (some ⟨g, 0, none⟩) n cap, .int .i64 0]) ∧ Rw w' g r.1) ∨ (r.2 ≠ 0 ∧ r.1 = [] ∧ e = .returned (.tuple #[.slice none 0 0, .int .i64 r.2]))
theorem at_copy {P : Program} {ops : Array Oper} {rest : List Oper} {a : Act} {w : World} {Q : Exit → Act → World → Prop} {pos : String} {after : Array Edge} {dst : Option Tmp} {args : Array Operand} {ts : Array TypeId} {ty : TypeId} {g : Option (Nat × Bool)}
    (h : wpList P ops Q ({ dst := dst, op := .call { callee := .builtin .copy, args := args, argTypes := ts }, type := ty, pos := pos, after := after, guard := g } :: rest) a w) : wpList P ops Q ({ dst := dst, op := .call { callee := .builtin .copy, args := args, argTypes := ts }, type := ty, pos := pos, after := after, guard := g } :: rest) a w := h
theorem may_err {fl : List (Int × Bool)} {c : List Int} {now : Int} (h : mayP fl c now ≠ 0) : mayP fl c now = 1 ∨ mayP fl c now = 4 := by
  unfold mayP at h ⊢
  by_cases a : c.length = fl.length
  · rw [if_pos a] at h ⊢
    cases b : fitL fl c
    · exact Or.inl rfl
    · rw [b] at h
      cases d : nowOk now
      · exact Or.inl rfl
      · rw [d] at h; exact absurd rfl h
  · rw [if_neg a]; exact Or.inr rfl
set_option maxRecDepth 100000 in
set_option maxHeartbeats 3200000 in
theorem run_ok (k : Int) (hk : 1 ≤ k ∧ k ≤ 10) (cv : Value) (c : List Int) (v : Value) (cl : List (Int × List Int)) (w : World) (hC : ILst w cv c) (hV : CLst w v cl) (hN : cl.length ≤ 35184372088832) (h0 : mayP (fldK k) c 0 = 0) (hg : Glo w) :
    Calls Tryd.prog 5 #[.int .i64 k, cv, v] w fun e w' => RunQ (runP k cl c) (fldK k).length e w' ∧ Below w.heap.size w w' := by
  have m20 := fields_ok k hk w
  have HG : Hid (∀ W, Below w.heap.size w W → Glo W) := fun W h => hg.below h hg.lt
  have h6 := fldK_len k
  have hcn : c.length = (fldK k).length := (may_zero.1 h0).1
  have HFP : Hid (0 < (fldK k).length) := by
    show _ < _
    obtain rfl | rfl | rfl | rfl | rfl | rfl | rfl | rfl | rfl | rfl : k = 1 ∨ k = 2 ∨ k = 3 ∨ k = 4 ∨ k = 5 ∨ k = 6 ∨ k = 7 ∨ k = 8 ∨ k = 9 ∨ k = 10 := by omega
    all_goals decide
  have mM : Hid (∀ W fv av a now, Below w.heap.size w W → FLst W fv (fldK k) → ILst W av a → Calls Tryd.prog 9 #[fv, av, .int .i64 now] W fun e w' => e = .returned (.int .i64 (mayP (fldK k) a now)) ∧ Below W.heap.size W w') := fun W fv av a now hb hf ha => mayBe_any fv (fldK k) av a now W hf ha (HG.out W hb) h6
  have mT : Hid (∀ W fv, FLst W fv (fldK k) → Calls Tryd.prog 10 #[fv] W fun e w' => e = .returned (.int .i64 ((setN (fldK k) : Nat) : Int)) ∧ w' = W) := fun W fv hf => settable_any fv _ W hf h6
  have mP : Hid (∀ W av a now, Below w.heap.size w W → ILst W av a → mayP (fldK k) a now = 0 → Calls Tryd.prog 12 #[.int .i64 k, av, .int .i64 now] W fun e w' => ∃ g, e = .returned (.slice (some ⟨g, 0, none⟩) (fldK k).length (fldK k).length) ∧ Rw w' g (stepL k a now) ∧ W.heap.size ≤ g ∧ Below W.heap.size W w') := fun W av a now hb ha hm => by
    refine (stepped_any k av a now W ha (HG.out W hb) (by unfold stepE; rw [(kindOk_iff k).2 hk]; exact hm)).mono ?_
    rintro e w' ⟨g, rfl, ho, hgg, hb'⟩
    rw [stepL_len' hk]
    exact ⟨g, rfl, Rw.of_ob ho, hgg, hb'⟩
  have HSL : Hid (∀ a now, (stepL k a now).length = (fldK k).length) := fun a now => stepL_len' hk a now
  have HRN : Hid (∀ now ins r c, runP k ((now, ins) :: r) c = if setN (fldK k) < ins.length then ([], 4) else if mayP (fldK k) (putL ins c) now = 0 then runP k r (stepL k (putL ins c) now) else ([], mayP (fldK k) (putL ins c) now)) := fun _ _ _ _ => rfl
  have HR0 : Hid (∀ c, runP k [] c = (c, 0)) := fun _ => rfl
  have hs6 := setN_le (fldK k)
  have HC := hide hC
  obtain ⟨ca, cb, coff, ccap, hcv, hcA, -⟩ := hC
  obtain ⟨va, vb, voff, vcap, hvv, hvA, hvI⟩ := hV
  have HVA := hide hvA
  have HVI := hide hvI
  obtain ⟨-, hca⟩ := hcA (by rw [hcn]; exact HFP.out)
  rw [hcn] at hcv
  have HCN := hide hcn
  clear hcA hvA hvI hg hk
  generalize fldK k = fl at *
  obtain ⟨n, hn⟩ : ∃ n, n = fl.length := ⟨_, rfl⟩
  obtain ⟨L, hL⟩ : ∃ L, L = cl.length := ⟨_, rfl⟩
  rw [← hn] at hcv h6 hs6 HFP mP HSL HCN
  rw [← hL] at hvv hN HVA
  rw [← hn]
  have HL := hide hL
  have HNN := hide hn
  subst hcv hvv hca
  obtain ⟨mo, hmo⟩ : ∃ mo, mo = setN fl := ⟨_, rfl⟩
  rw [← hmo] at mT HRN hs6
  have mC := clone_some ⟨cb, coff, none⟩ n ccap c HFP.out HCN.out.symm
  have HRR : Hid (∃ r, r = runP k cl c) := ⟨_, rfl⟩
  obtain ⟨r, hr⟩ := HRR.out
  rw [← hr]
  have HR := hide hr
  have HH0 := hide h0
  have n6 : (n : Int) ≤ 6 := by omega
  have n0 : (0 : Int) ≤ (n : Int) := by omega
  have L0 : (0 : Int) ≤ (L : Int) := by omega
  have L5 : (L : Int) ≤ 35184372088832 := by omega
  have mo0 : (0 : Int) ≤ (mo : Int) := by omega
  have mo6 : (mo : Int) ≤ 6 := by omega
  have HMO := hide hs6
  clear hn hL hmo hr HRR h0 hcn
  generalize hPost : RunQ r n = Post at *
  have HP := hide hPost
  clear hPost
  go_enter Tryd.func5, Tryd.ntmps5
  go_wp2_with (first | (go_at_call 8; refine m20.mono ?_; rintro e w1 ⟨⟨fv, rfl, hf⟩, b1⟩; have HF := hide hf; have B1 := hide b1; clear hf b1) | (go_at_call 9; refine (mM.out _ _ _ c 0 B1.out HF.out (HC.out.on B1.out)).mono ?_; rw [HH0.out]; rintro e w2 ⟨rfl, b2⟩; have B2 := hide b2; clear b2) | (go_at_call 10; refine (mT.out _ _ (HF.out.on B2.out)).mono ?_; rintro e w3 ⟨rfl, hw3⟩; subst hw3) | (go_at_call 11; refine (mC w3 ((HC.out.on B1.out).on B2.out) (by omega)).mono ?_; rintro e w4 ⟨g0, c0, rfl, r4, l4, b4⟩; have R4 := hide r4; have L4 := hide (Nat.le_trans B2.out.size l4); have B4 := hide (B2.out.trans (b4.mono B2.out.size)); clear r4 l4 b4))
  go_loopw [12, 36] (fun av i wr => ∃ (j g cp : Nat), j ≤ L ∧ i = .int .i64 (j : Int) ∧ av = .slice (some ⟨g, 0, none⟩) n cp ∧ Hid (∃ a, Rw wr g a ∧ a.length = n ∧ r = runP k (cl.drop j) a ∧ w1.heap.size ≤ g ∧ Below w1.heap.size w1 wr)) (fun _ i _ => L - (intOf i).toNat)
  case atStart => exact ⟨0, g0, c0, by omega, rfl, rfl, c, R4.out, HCN.out, HR.out, L4.out, B4.out⟩
  case round =>
    obtain ⟨j, g, cp, hj, rfl, rfl, hh⟩ := hrel
    obtain ⟨a, ra, la, hra, lg, hb⟩ := hh.out
    have RA := hide ra
    have LA := hide la
    have HRA := hide hra
    have LG := hide lg
    have HB := hide hb
    have HBW := hide (B1.out.trans (hb.mono B1.out.size))
    clear hh ra la hra lg hb
    by_cases hlt : j < L
    · have j1 : (j : Int) < (L : Int) := by omega
      have j0 : (0 : Int) ≤ (j : Int) := by omega
      obtain ⟨⟨now, ins⟩, hq⟩ : ∃ q, cl[j]? = some q := ⟨_, List.getElem?_eq_getElem (by rw [← HL.out]; exact hlt)⟩
      obtain ⟨hvb, rfl⟩ := HVA.out (by omega)
      obtain ⟨p0, sv, p1, hsv⟩ := HVI.out j _ hq
      have HIN := hide (hsv.on (HBW.out))
      have c0' := (HBW.out.cell (p := ⟨vb, voff + j * 2, none⟩) hvb).trans p0
      have c1' := (HBW.out.cell (p := ⟨vb, voff + j * 2 + 1, none⟩) hvb).trans p1
      have HD : Hid (cl.drop j = (now, ins) :: cl.drop (j + 1)) := by
        show _ = _
        obtain ⟨hjl, e⟩ := List.getElem?_eq_some_iff.1 hq
        rw [List.drop_eq_getElem_cons hjl, e]
      obtain ⟨sa, scap, hsv2⟩ := hsv.shape
      change sv = .slice sa ins.length scap at hsv2
      obtain ⟨m, hm⟩ : ∃ m, m = ins.length := ⟨_, rfl⟩
      rw [← hm] at hsv2
      subst hsv2
      have HM := hide hm
      have m0 : (0 : Int) ≤ (m : Int) := by omega
      simp only [] at c0'
      clear hq p0 p1 hsv hm
      have zg : g < wr.heap.size := RA.out.lt
      have HGN : Hid (wr.heap.size ≠ g) := (by show _ ≠ _; omega)
      by_cases hmm : mo < m
      · have i1 : (mo : Int) < (m : Int) := by omega
        have HE : Hid (r = ([], 4)) := by show _ = _; rw [HRA.out, HD.out, HRN.out, if_pos (by rw [← HM.out]; exact hmm)]
        go_wp2
        go_ret2
        refine ⟨?_, (HBW.out.alloc HBW.out.size _)⟩
        rw [← HP.out, HE.out]
        exact .inr ⟨by decide, rfl, rfl⟩
      · have i1 : ¬ (mo : Int) < (m : Int) := by omega
        have HMN : Hid (ins.length ≤ n) := by show _ ≤ _; rw [← HM.out]; have := HMO.out; omega
        have RB := hide (RA.out.on ((Below.refl wr.heap.size wr).alloc (Nat.le_refl _) (.cells #[.int .i64 now, .slice sa m scap] 40)) RA.out.lt)
        have IB := hide (HIN.out.on ((Below.refl wr.heap.size wr).alloc (Nat.le_refl _) (.cells #[.int .i64 now, .slice sa m scap] 40)))
        have OB := hide (Ob.new wr 40 #[.int .i64 now, .slice sa m scap])
        have HBA := hide (HB.out.alloc HB.out.size (.cells #[.int .i64 now, .slice sa m scap] 40))
        by_cases hE : mayP fl (putL ins a) now = 0
        · have HE := hide hE
          clear hE
          go_wp2_with (first | ((with_reducible refine at_copy ?_); refine wpList_copy_nums (by rfl) _ _ (by rfl) g n cp (.slice sa m scap) a ins (by rfl) (by rfl) RB.out LA.out IB.out HMN.out ?_; intro w5 r5 k5; have R5 := hide r5; have K5 := hide k5; have B5 := hide (HBA.out.trans (k5.below LG.out)); have BW5 := hide (B1.out.trans (B5.out.mono B1.out.size)); have x0 : w5.cell? ⟨wr.heap.size, 0, none⟩ = some (.int .i64 now) := (k5.cell HGN.out).trans (OB.out.cell 0 rfl); have O5 : Hid (Ob w5 wr.heap.size 40 #[.int .i64 now, .slice sa m scap]) := (k5.block wr.heap.size HGN.out).trans OB.out; clear r5 k5) | (go_at_call 9; refine (mM.out _ _ _ (putL ins a) now BW5.out (HF.out.on B5.out) (R5.out.ilst n cp (by rw [putL_len (by rw [LA.out]; exact HMN.out)]; exact LA.out.symm))).mono ?_; rw [HE.out]; rintro e w6 ⟨rfl, b6⟩; have B6 := hide (B5.out.trans (b6.mono B5.out.size)); have BW6 := hide (B1.out.trans (B6.out.mono B1.out.size)); have R6 := hide (R5.out.on b6 R5.out.lt); have x6 : w6.cell? ⟨wr.heap.size, 0, none⟩ = some (.int .i64 now) := (O5.out.on b6 O5.out.lt).cell 0 rfl; clear b6) | (go_at_call 12; refine (mP.out _ _ (putL ins a) now BW6.out (R6.out.ilst n cp (by rw [putL_len (by rw [LA.out]; exact HMN.out)]; exact LA.out.symm)) HE.out).mono ?_; rintro e w7 ⟨g7, rfl, r7, l7, b7⟩; have R7 := hide r7; have L7 := hide (Nat.le_trans B6.out.size l7); have B7 := hide (B6.out.trans (b7.mono B6.out.size)); clear r7 l7 b7))
          go_roundw
          case rel => exact ⟨j + 1, g7, n, by omega, by go_num, rfl, stepL k (putL ins a) now, R7.out, HSL.out _ _, by rw [HRA.out, HD.out, HRN.out, if_neg (by rw [← HM.out]; omega), if_pos HE.out], L7.out, B7.out⟩
          case measure => simp [intOf]; omega
        · have HRE : Hid (r = ([], mayP fl (putL ins a) now)) := by show _ = _; rw [HRA.out, HD.out, HRN.out, if_neg (by rw [← HM.out]; omega), if_neg hE]
          have hee := may_err hE
          have mM2 : Hid (∀ W fv av, Below w.heap.size w W → FLst W fv fl → ILst W av (putL ins a) → Calls Tryd.prog 9 #[fv, av, .int .i64 now] W fun e w' => e = .returned (.int .i64 (mayP fl (putL ins a) now)) ∧ Below W.heap.size W w') := fun W fv av hb hf ha => mM.out W fv av _ now hb hf ha
          generalize mayP fl (putL ins a) now = E at *
          clear hE
          rcases hee with rfl | rfl
          all_goals
            go_wp2_with (first | ((with_reducible refine at_copy ?_); refine wpList_copy_nums (by rfl) _ _ (by rfl) g n cp (.slice sa m scap) a ins (by rfl) (by rfl) RB.out LA.out IB.out HMN.out ?_; intro w5 r5 k5; have R5 := hide r5; have B5 := hide (HBA.out.trans (k5.below LG.out)); have BW5 := hide (B1.out.trans (B5.out.mono B1.out.size)); have x0 : w5.cell? ⟨wr.heap.size, 0, none⟩ = some (.int .i64 now) := (k5.cell HGN.out).trans (OB.out.cell 0 rfl); clear r5 k5) | (go_at_call 9; refine (mM2.out _ _ _ BW5.out (HF.out.on B5.out) (R5.out.ilst n cp (by rw [putL_len (by rw [LA.out]; exact HMN.out)]; exact LA.out.symm))).mono ?_; rintro e w6 ⟨rfl, b6⟩; have BW6 := hide (BW5.out.trans (b6.mono BW5.out.size)); clear b6))
            go_ret2
            refine ⟨?_, BW6.out⟩
            rw [← HP.out, HRE.out]
            exact .inr ⟨by decide, rfl, rfl⟩
    · have j1 : ¬ (j : Int) < (L : Int) := by omega
      have HE : Hid (r = (a, 0)) := by show _ = _; rw [HRA.out, List.drop_eq_nil_of_le (by rw [← HL.out]; omega), HR0.out]
      go_wp2
      go_ret2
      refine ⟨?_, HBW.out⟩
      rw [← HP.out, HE.out]
      exact .inl ⟨rfl, g, cp, rfl, RA.out⟩
end Go.Proofs.YthifgfhgkdjkfabDoor
namespace Go.Proofs.YthifgfhgkdjkfabDoor
open Go.RowKit
/-- what Run answers -/
def runA (k : Int) (c : List Int) (cl : List (Int × List Int)) : List Int × Int := if kindOk k then if mayP (fldK k) c 0 = 0 then runP k cl c else ([], mayP (fldK k) c 0) else ([], 92)
set_option maxRecDepth 100000 in
set_option maxHeartbeats 1600000 in
theorem run_any (k : Int) (cv : Value) (c : List Int) (v : Value) (cl : List (Int × List Int)) (w : World) (hC : ILst w cv c) (hV : CLst w v cl) (hN : cl.length ≤ 35184372088832) (hg : Glo w) :
    Calls Tryd.prog 5 #[.int .i64 k, cv, v] w fun e w' => RunQ (runA k c cl) (fldK k).length e w' ∧ Below w.heap.size w w' := by
  by_cases hk : 1 ≤ k ∧ k ≤ 10
  · by_cases h0 : mayP (fldK k) c 0 = 0
    · have e : runA k c cl = runP k cl c := by unfold runA; rw [(kindOk_iff k).2 hk, if_pos rfl, if_pos h0]
      rw [e]
      exact run_ok k hk cv c v cl w hC hV hN h0 hg
    · have e : runA k c cl = ([], mayP (fldK k) c 0) := by unfold runA; rw [(kindOk_iff k).2 hk, if_pos rfl, if_neg h0]
      rw [e]
      have m1 := fields_ok k hk w
      have m2 : Hid (∀ W fv, Below w.heap.size w W → FLst W fv (fldK k) → Calls Tryd.prog 9 #[fv, cv, .int .i64 0] W fun e w' => e = .returned (.int .i64 (mayP (fldK k) c 0)) ∧ Below W.heap.size W w') := fun W fv hb hf => mayBe_any fv (fldK k) cv c 0 W hf (hC.on hb) (hg.below hb hg.lt) (fldK_len k)
      have hr := may_err h0
      obtain ⟨va, vb, voff, vcap, rfl, -, -⟩ := hV
      clear hC hg h0 e hk hN
      generalize mayP (fldK k) c 0 = E at *
      rcases hr with rfl | rfl
      all_goals
        go_enter Tryd.func5, Tryd.ntmps5
        go_wp2_with (first | (go_at_call 8; refine m1.mono ?_; rintro e w1 ⟨⟨fv, rfl, hf⟩, b1⟩; have HF := hide hf; have B1 := hide b1; clear hf b1) | (go_at_call 9; refine (m2.out _ _ B1.out HF.out).mono ?_; rintro e w2 ⟨rfl, b2⟩; have B2 := hide (B1.out.trans (b2.mono B1.out.size)); clear b2))
        go_ret2
        exact ⟨.inr ⟨by decide, rfl, rfl⟩, B2.out⟩
  · have m1 := fields_no k hk w
    have e : runA k c cl = ([], 92) := by
      unfold runA
      cases a : kindOk k
      · rfl
      · exact absurd ((kindOk_iff k).1 a) hk
    rw [e]
    obtain ⟨va, vb, voff, vcap, rfl, -, -⟩ := hV
    clear hC hg e hk hN
    go_enter Tryd.func5, Tryd.ntmps5
    go_wp2_with (first | (go_at_call 8; refine m1.mono ?_; rintro e w1 ⟨rfl, rfl⟩))
    go_ret2
    exact ⟨.inr ⟨by decide, rfl, rfl⟩, Below.refl _ _⟩
end Go.Proofs.YthifgfhgkdjkfabDoor
namespace Go.Proofs.YthifgfhgkdjkfabDoor
open Go.RowKit
def F4 (n : Int) : Prop := -2147483648 ≤ n ∧ n ≤ 2147483647
def F2 (n : Int) : Prop := -32768 ≤ n ∧ n ≤ 32767
theorem f4_iff {n : Int} : fitB 4 n = true ↔ F4 n := by
  rw [fit_span]
  unfold F4
  simp [tyB]
theorem f3_iff {n : Int} : fitB 3 n = true ↔ F4 n := by
  rw [fit_span]
  unfold F4
  simp [tyB]
theorem f2_iff {n : Int} : fitB 2 n = true ↔ F2 n := by
  rw [fit_span]
  unfold F2
  simp [tyB]
theorem fit_flag (b : Bool) : fitB 1 (flagN b) = true := by cases b <;> rfl
theorem gone_fit (now s : Int) : F4 (goneN now s) := f4_iff.1 (fit_wr (by decide) _)
theorem min_f4 {a b : Int} (ha : F4 a) (hb : F4 b) : F4 (min a b) := by
  unfold F4 at *
  omega
structure TmF (t : Tm) : Prop where
  p : F4 t.p
  e : F4 t.e
  s : F4 t.s
theorem f4_zero : F4 0 := by unfold F4; omega
theorem ton_fit {now : Int} {t : Tm} (hn : F4 now) (h : TmF t) : TmF (tonT now t) := by
  unfold tonT
  split
  · exact ⟨h.p, min_f4 (gone_fit _ _) h.p, by show F4 (if _ then _ else _); split; exact h.s; exact hn⟩
  · exact ⟨h.p, f4_zero, h.s⟩
theorem tof_fit {now : Int} {t : Tm} (hn : F4 now) (h : TmF t) : TmF (tofT now t) := by
  unfold tofT
  split
  · exact ⟨h.p, f4_zero, h.s⟩
  · split
    · exact ⟨h.p, min_f4 (gone_fit _ _) h.p, by show F4 (if _ then _ else _); split; exact h.s; exact hn⟩
    · exact h
theorem tp_fit {now : Int} {t : Tm} (hn : F4 now) (h : TmF t) : TmF (tpT now t) := by
  have hA : TmF (tpA now t) := by
    unfold tpA
    split
    · exact ⟨h.p, h.e, hn⟩
    · exact h
  have hB : TmF (tpB now (tpA now t)) := by
    generalize tpA now t = u at *
    unfold tpB
    split
    · exact ⟨hA.p, min_f4 (gone_fit _ _) hA.p, hA.s⟩
    · exact hA
  unfold tpT
  generalize tpB now (tpA now t) = u at *
  unfold tpC
  split
  · exact ⟨hB.p, f4_zero, hB.s⟩
  · exact hB
theorem tm_fit {k : Int} (hk : k = 1 ∨ k = 2 ∨ k = 3) {t : Tm} (h : TmF t) : fitL (fldK k) t.ls = true := by
  unfold fldK
  rw [if_pos hk]
  unfold fitL Tm.ls
  simp [fit_flag, f4_iff.2 h.p, f4_iff.2 h.e, f4_iff.2 h.s]
theorem cn_fit {k : Int} (hk : k = 4 ∨ k = 5) {t : Cn} (hp : F2 t.p) (hv : F2 t.v) : fitL (fldK k) t.ls = true := by
  unfold fldK
  rw [if_neg (by omega), if_pos hk]
  unfold fitL Cn.ls
  simp [fit_flag, f2_iff.2 hp, f2_iff.2 hv]
theorem tr_fit {k : Int} (hk : k = 6 ∨ k = 7 ∨ k = 8 ∨ k = 9) (t : Tr) : fitL (fldK k) t.ls = true := by
  rcases hk with rfl | rfl | rfl | rfl <;> simp [fldK, fitL, Tr.ls, fit_flag]
theorem cd_fit {t : Cd} (hv : F4 t.v) (hl : F2 t.l) : fitL (fldK 10) t.ls = true := by
  simp [fldK, fitL, Cd.ls, fit_flag, f3_iff.2 hv, f2_iff.2 hl]
/-- what a step leaves fits -/
theorem step_fit {k : Int} (hk : 1 ≤ k ∧ k ≤ 10) {c : List Int} {now : Int} (hl : c.length = (fldK k).length) (hf : fitL (fldK k) c = true) (hn : nowOk now = true) : fitL (fldK k) (stepL k c now) = true := by
  have hN : F4 now := f4_iff.1 (now_fit hn)
  have hc : k = 1 ∨ k = 2 ∨ k = 3 ∨ k = 4 ∨ k = 5 ∨ k = 6 ∨ k = 7 ∨ k = 8 ∨ k = 9 ∨ k = 10 := by omega
  have tm : (k = 1 ∨ k = 2 ∨ k = 3) → TmF (tmL c) := fun h => by
    unfold fldK at hl hf
    rw [if_pos h] at hl hf
    obtain ⟨x0, x1, x2, x3, x4, x5, rfl⟩ := six_of hl
    simp [fitL] at hf
    exact ⟨f4_iff.1 hf.2.1, f4_iff.1 hf.2.2.2.1, f4_iff.1 hf.2.2.2.2.1⟩
  have cn : (k = 4 ∨ k = 5) → F2 (cnL c).p ∧ F2 (cnL c).v := fun h => by
    unfold fldK at hl hf
    rw [if_neg (by omega), if_pos h] at hl hf
    obtain ⟨x0, x1, x2, x3, x4, x5, rfl⟩ := six_of hl
    simp [fitL] at hf
    exact ⟨f2_iff.1 hf.2.2.1, f2_iff.1 hf.2.2.2.2.1⟩
  rcases hc with rfl | rfl | rfl | rfl | rfl | rfl | rfl | rfl | rfl | rfl
  · exact tm_fit (.inl rfl) (ton_fit hN (tm (.inl rfl)))
  · exact tm_fit (.inr (.inl rfl)) (tof_fit hN (tm (.inr (.inl rfl))))
  · exact tm_fit (.inr (.inr rfl)) (tp_fit hN (tm (.inr (.inr rfl))))
  · obtain ⟨h1, h2⟩ := cn (.inl rfl)
    refine cn_fit (.inl rfl) (t := ctuT (cnL c)) h1 ?_
    show F2 (ctuV (cnL c))
    unfold ctuV F2 at *
    split
    · omega
    · split
      · rename_i h
        simp only [Bool.and_eq_true, decide_eq_true_eq] at h
        omega
      · exact h2
  · obtain ⟨h1, h2⟩ := cn (.inr rfl)
    refine cn_fit (.inr rfl) (t := ctdT (cnL c)) h1 ?_
    show F2 (ctdV (cnL c))
    unfold ctdV F2 at *
    split
    · exact h1
    · split
      · rename_i h
        simp only [Bool.and_eq_true, decide_eq_true_eq] at h
        omega
      · exact h2
  · exact tr_fit (.inl rfl) (rT (trL c))
  · exact tr_fit (.inr (.inl rfl)) (fT (trL c))
  · exact tr_fit (.inr (.inr (.inl rfl))) (srT (trL c))
  · exact tr_fit (.inr (.inr (.inr rfl))) (rsT (trL c))
  · have hv : F4 (cdL c).v := by
      obtain ⟨x0, x1, x2, x3, x4, x5, rfl⟩ := six_of hl
      simp [fitL, fldK] at hf
      exact f3_iff.1 hf.2.2.2.1
    have hp := pn_lt (cdL c).a (cdL c).b
    show fitL (fldK 10) (cdT (cdL c)).ls = true
    refine cd_fit ?_ ?_
    · unfold cdT
      show F4 (if _ then _ else _ : Cd).v
      split
      · exact f4_zero
      · split
        · unfold folT
          split
          · exact hv
          · exact f3_iff.1 (fit_wr (by decide) _)
        · exact hv
    · unfold cdT
      show F2 ((pn (cdL c).a (cdL c).b : Int) + 1)
      unfold F2
      omega
theorem may_len {fl : List (Int × Bool)} {c : List Int} {now : Int} (h : mayP fl c now = 0) : c.length = fl.length := (may_zero.1 h).1
theorem runP_good {k : Int} (hk : 1 ≤ k ∧ k ≤ 10) : ∀ (cl : List (Int × List Int)) (c : List Int), mayP (fldK k) c 0 = 0 → (runP k cl c).2 = 0 → mayP (fldK k) (runP k cl c).1 0 = 0
  | [], c, h, _ => h
  | (now, ins) :: r, c, h, h2 => by
    rw [runP] at h2 ⊢
    by_cases a : setN (fldK k) < ins.length
    · rw [if_pos a] at h2; exact absurd h2 (by show ¬ (4 : Int) = 0; decide)
    · rw [if_neg a] at h2 ⊢
      by_cases b : mayP (fldK k) (putL ins c) now = 0
      · rw [if_pos b] at h2 ⊢
        obtain ⟨b1, b2, b3⟩ := may_zero.1 b
        exact runP_good hk r _ (may_zero.2 ⟨stepL_len' hk _ _, step_fit hk b1 b2 b3, by decide⟩) h2
      · rw [if_neg b] at h2
        exact absurd h2 b
theorem runP_app (k : Int) : ∀ (a b : List (Int × List Int)) (c : List Int), runP k (a ++ b) c = if (runP k a c).2 = 0 then runP k b (runP k a c).1 else ([], (runP k a c).2)
  | [], b, c => by rw [List.nil_append, runP, if_pos rfl]
  | (now, ins) :: r, b, c => by
    rw [List.cons_append, runP, runP]
    by_cases h : setN (fldK k) < ins.length
    · rw [if_pos h, if_pos h, if_neg (by show ¬ (4 : Int) = 0; decide)]
    · rw [if_neg h, if_neg h]
      by_cases h2 : mayP (fldK k) (putL ins c) now = 0
      · rw [if_pos h2, if_pos h2]
        exact runP_app k r b _
      · rw [if_neg h2, if_neg h2, if_neg h2]
/-- BlockTwice, plainly -/
theorem twice_no {k : Int} {c : List Int} {a b : List (Int × List Int)} (h : (runA k c a).2 ≠ 0) : runA k c (a ++ b) = ([], (runA k c a).2) := by
  unfold runA at h ⊢
  cases hk : kindOk k with
  | false => simp
  | true =>
    rw [hk] at h
    simp only [if_true] at h ⊢
    by_cases h0 : mayP (fldK k) c 0 = 0
    · rw [if_pos h0] at h ⊢
      rw [if_pos h0, runP_app, if_neg h]
    · rw [if_neg h0, if_neg h0]
theorem twice_yes {k : Int} {c : List Int} {a b : List (Int × List Int)} (h : (runA k c a).2 = 0) : runA k (runA k c a).1 b = runA k c (a ++ b) := by
  unfold runA at h ⊢
  cases hk : kindOk k with
  | false =>
    rw [hk] at h
    exact absurd h (by show ¬ (92 : Int) = 0; decide)
  | true =>
    have hki := (kindOk_iff k).1 hk
    rw [hk] at h
    simp only [if_true] at h ⊢
    by_cases h0 : mayP (fldK k) c 0 = 0
    · rw [if_pos h0] at h ⊢
      rw [if_pos h0, if_pos (runP_good hki a c h0 h), runP_app, if_pos h]
    · rw [if_neg h0] at h
      exact absurd h h0
theorem runA_len {k : Int} {c : List Int} {cl : List (Int × List Int)} (h : (runA k c cl).2 = 0) : (runA k c cl).1.length = (fldK k).length := by
  unfold runA at h ⊢
  cases hk : kindOk k with
  | false =>
    rw [hk] at h
    exact absurd h (by show ¬ (92 : Int) = 0; decide)
  | true =>
    rw [hk] at h
    simp only [if_true] at h ⊢
    by_cases h0 : mayP (fldK k) c 0 = 0
    · rw [if_pos h0] at h ⊢
      exact may_len (runP_good ((kindOk_iff k).1 hk) cl c h0 h)
    · rw [if_neg h0] at h
      exact absurd h h0
end Go.Proofs.YthifgfhgkdjkfabDoor
