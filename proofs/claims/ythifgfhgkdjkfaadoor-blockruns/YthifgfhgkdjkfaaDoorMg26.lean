/- The document's Step, whole. | The walk of BlockSteps. | A copy of numbers into a row of one's own. -/
import Derived.Test.YthifgfhgkdjkfaaDoorMg23
import Derived.Test.YthifgfhgkdjkfaaDoorEeX
import Derived.Test.YthifgfhgkdjkfaaDoorEfX
import Derived.Test.YthifgfhgkdjkfaaDoorMg16
namespace Go.Proofs.YthifgfhgkdjkfaaDoor
open Go.RowKit
theorem chk_of {k : Int} {c : List Int} {now : Int} (h : stepE k c now = 0) : chkE k c = 0 := by
  obtain ⟨hk, hl, hf, hn⟩ := stepE_zero.1 h
  unfold chkE
  rw [(kindOk_iff k).2 hk, if_pos rfl, if_pos hl, hf]; rfl
theorem rstep_ok (k : Int) (cv : Value) (c : List Int) (now : Int) (w : World) (hL : ILst w cv c) (h : stepE k c now = 0) : Calls Tryd.prog 11 #[.int .i64 k, cv, .int .i64 now] w fun e w' => ∃ g cap, e = .returned (.tuple #[.slice (some ⟨g, 0, none⟩) (stepL k c now).length cap, .int .i64 0]) ∧ Rw w' g (stepL k c now) ∧ w.heap.size ≤ g ∧ Below w.heap.size w w' := by
  obtain ⟨hk, hl, hf, hn⟩ := stepE_zero.1 h
  have hc := chk_of h
  obtain rfl | rfl | rfl | rfl | rfl | rfl | rfl | rfl | rfl | rfl : k = 1 ∨ k = 2 ∨ k = 3 ∨ k = 4 ∨ k = 5 ∨ k = 6 ∨ k = 7 ∨ k = 8 ∨ k = 9 ∨ k = 10 := by omega
  · obtain ⟨e1, e2⟩ := tm_of (by omega) hl hf
    have e : stepL 1 c now = (tonT now (tmL c)).ls := by unfold stepL; rw [if_pos rfl]
    rw [e]
    rw [e1] at hL hc
    exact (rstep_1 cv (tmL c) now w hL hc hn e2).mono fun e w' ⟨g, cap, h1, h2, h3, h4, h5⟩ => ⟨g, cap, h1, h2, h3, h5⟩
  · obtain ⟨e1, e2⟩ := tm_of (by omega) hl hf
    have e : stepL 2 c now = (tofT now (tmL c)).ls := by unfold stepL; rw [if_neg (by decide), if_pos rfl]
    rw [e]
    rw [e1] at hL hc
    exact (rstep_2 cv (tmL c) now w hL hc hn e2).mono fun e w' ⟨g, cap, h1, h2, h3, h4, h5⟩ => ⟨g, cap, h1, h2, h3, h5⟩
  · obtain ⟨e1, e2⟩ := tm_of (by omega) hl hf
    have e : stepL 3 c now = (tpT now (tmL c)).ls := by unfold stepL; rw [if_neg (by decide), if_neg (by decide), if_pos rfl]
    rw [e]
    rw [e1] at hL hc
    exact (rstep_3 cv (tmL c) now w hL hc hn e2).mono fun e w' ⟨g, cap, h1, h2, h3, h4, h5⟩ => ⟨g, cap, h1, h2, h3, h5⟩
  · obtain ⟨e1, e2⟩ := cn_of (by omega) hl hf
    have e : stepL 4 c now = (ctuT (cnL c)).ls := by unfold stepL; rw [if_neg (by decide), if_neg (by decide), if_neg (by decide), if_pos rfl]
    rw [e]
    rw [e1] at hL hc
    exact (rstep_4 cv (cnL c) now w hL hc hn e2).mono fun e w' ⟨g, cap, h1, h2, h3, h4, h5⟩ => ⟨g, cap, h1, h2, h3, h5⟩
  · obtain ⟨e1, e2⟩ := cn_of (by omega) hl hf
    have e : stepL 5 c now = (ctdT (cnL c)).ls := by unfold stepL; rw [if_neg (by decide), if_neg (by decide), if_neg (by decide), if_neg (by decide), if_pos rfl]
    rw [e]
    rw [e1] at hL hc
    exact (rstep_5 cv (cnL c) now w hL hc hn e2).mono fun e w' ⟨g, cap, h1, h2, h3, h4, h5⟩ => ⟨g, cap, h1, h2, h3, h5⟩
  · obtain ⟨a, b, d, e1, e2⟩ := tr_of (by omega) hl hf
    have e : stepL 6 c now = (rT ⟨a, b, d⟩).ls := by unfold stepL; rw [if_neg (by decide), if_neg (by decide), if_neg (by decide), if_neg (by decide), if_neg (by decide), if_pos rfl, e2]
    rw [e]
    rw [e1] at hL hc
    exact (rstep_6 cv a b d now w hL hc hn).mono fun e w' ⟨g, cap, h1, h2, h3, h4, h5⟩ => ⟨g, cap, h1, h2, h3, h5⟩
  · obtain ⟨a, b, d, e1, e2⟩ := tr_of (by omega) hl hf
    have e : stepL 7 c now = (fT ⟨a, b, d⟩).ls := by unfold stepL; rw [if_neg (by decide), if_neg (by decide), if_neg (by decide), if_neg (by decide), if_neg (by decide), if_neg (by decide), if_pos rfl, e2]
    rw [e]
    rw [e1] at hL hc
    exact (rstep_7 cv a b d now w hL hc hn).mono fun e w' ⟨g, cap, h1, h2, h3, h4, h5⟩ => ⟨g, cap, h1, h2, h3, h5⟩
  · obtain ⟨a, b, d, e1, e2⟩ := tr_of (by omega) hl hf
    have e : stepL 8 c now = (srT ⟨a, b, d⟩).ls := by unfold stepL; rw [if_neg (by decide), if_neg (by decide), if_neg (by decide), if_neg (by decide), if_neg (by decide), if_neg (by decide), if_neg (by decide), if_pos rfl, e2]
    rw [e]
    rw [e1] at hL hc
    exact (rstep_8 cv a b d now w hL hc hn).mono fun e w' ⟨g, cap, h1, h2, h3, h4, h5⟩ => ⟨g, cap, h1, h2, h3, h5⟩
  · obtain ⟨a, b, d, e1, e2⟩ := tr_of (by omega) hl hf
    have e : stepL 9 c now = (rsT ⟨a, b, d⟩).ls := by unfold stepL; rw [if_neg (by decide), if_neg (by decide), if_neg (by decide), if_neg (by decide), if_neg (by decide), if_neg (by decide), if_neg (by decide), if_neg (by decide), if_pos rfl, e2]
    rw [e]
    rw [e1] at hL hc
    exact (rstep_9 cv a b d now w hL hc hn).mono fun e w' ⟨g, cap, h1, h2, h3, h4, h5⟩ => ⟨g, cap, h1, h2, h3, h5⟩
  · obtain ⟨e1, e2⟩ := cd_of hl hf
    have e : stepL 10 c now = (cdT (cdL c)).ls := by unfold stepL; rw [if_neg (by decide), if_neg (by decide), if_neg (by decide), if_neg (by decide), if_neg (by decide), if_neg (by decide), if_neg (by decide), if_neg (by decide), if_neg (by decide)]
    rw [e]
    rw [e1] at hL hc
    exact (rstep_10 cv (cdL c) now w hL hc hn e2).mono fun e w' ⟨g, cap, h1, h2, h3, h4, h5⟩ => ⟨g, cap, h1, h2, h3, h5⟩
theorem now_no {now : Int} (h : nowOk now = false) (h0 : ¬ now < 0) : fitB 4 now = false := by
  unfold nowOk at h
  rw [fit_span]
  simp [tyB] at h ⊢
  intro _
  have := h (by omega)
  omega
set_option maxRecDepth 100000 in
set_option maxHeartbeats 1600000 in
theorem rstep_no (k : Int) (cv : Value) (c : List Int) (now : Int) (w : World) (hL : ILst w cv c) (h : stepE k c now ≠ 0) : Calls Tryd.prog 11 #[.int .i64 k, cv, .int .i64 now] w fun e w' => e = .returned (.tuple #[.slice none 0 0, .int .i64 (stepE k c now)]) ∧ Below w.heap.size w w' := by
  have m1 := rcheck_any k cv c w hL
  rw [chk_step] at h ⊢
  have hr : chkE k c = 0 ∨ chkE k c = 1 ∨ chkE k c = 4 ∨ chkE k c = 92 := by
    unfold chkE
    cases kindOk k
    · exact .inr (.inr (.inr rfl))
    · simp only [if_true]
      split
      · cases fitL (fldK k) c
        · exact .inr (.inl rfl)
        · exact .inl rfl
      · exact .inr (.inr (.inl rfl))
  clear hL
  generalize chkE k c = E at *
  rcases hr with rfl | rfl | rfl | rfl
  · cases hn : nowOk now
    · have mF := fun W => fitsR_any 4 now W
      have hno := now_no hn
      clear h
      by_cases h0 : now < 0
      · clear mF hno
        go_enter Tryd.func11, Tryd.ntmps11
        go_wp2_with (first | (go_at_call 23; refine m1.mono ?_; rintro e w1 ⟨rfl, b1⟩; have B1 := hide b1; clear b1))
        go_ret2
        exact ⟨rfl, B1.out⟩
      · rw [hno h0] at mF
        clear hno hn
        go_enter Tryd.func11, Tryd.ntmps11
        go_wp2_with (first | (go_at_call 23; refine m1.mono ?_; rintro e w1 ⟨rfl, b1⟩; have B1 := hide b1; clear b1) | (go_at_call 24; refine (mF _).mono ?_; rintro e w2 ⟨rfl, rfl⟩))
        go_ret2
        exact ⟨rfl, B1.out⟩
    · rw [hn] at h; exact absurd rfl h
  all_goals
    clear h
    go_enter Tryd.func11, Tryd.ntmps11
    go_wp2_with (first | (go_at_call 23; refine m1.mono ?_; rintro e w1 ⟨rfl, b1⟩; have B1 := hide b1; clear b1))
    go_ret2
    exact ⟨rfl, B1.out⟩
end Go.Proofs.YthifgfhgkdjkfaaDoor
namespace Go.Proofs.YthifgfhgkdjkfaaDoor
open Go.RowKit
theorem stepL_len (k : Int) (c : List Int) (now : Int) : (stepL k c now).length ≤ 6 := by
  unfold stepL
  repeat' split
  all_goals exact (by simp [Tm.ls, Cn.ls, Tr.ls, Cd.ls])
theorem Rw.front {w : World} {g : Nat} {l m : List Int} (h : Rw w g (l ++ m)) (cap : Nat) : ILst w (.slice (some ⟨g, 0, none⟩) l.length cap) l := by
  refine ⟨_, g, 0, cap, rfl, fun _ => ⟨h.lt, rfl⟩, fun i x hx => ?_⟩
  rw [Nat.zero_add]
  exact h.cell i (by rw [List.getElem?_append_left (List.getElem?_eq_some_iff.1 hx).1]; exact hx)
set_option maxRecDepth 100000 in
set_option maxHeartbeats 3200000 in
theorem steps_row (k : Int) (cv : Value) (l : List Int) (now : Int) (w : World) (hL : ILst w cv l) (hlen : l.length * 8 ≤ 140737488351232) (hg : Glo w) :
    Calls Tryd.prog 3 #[.int .i64 k, cv, .int .i64 now] w fun e w' => e = .returned (.bool true) ∧ Below w.heap.size w w' := by
  have HG : Hid (∀ W, Below w.heap.size w W → Glo W) := fun W h => hg.below h hg.lt
  have HL := hide hL
  have m9 := lend_any cv l w hL hlen
  have mw : Hid (∀ W, Below w.heap.size w W → Calls Tryd.prog 15 #[] W fun e w' => e = .returned (.bool true) ∧ Below W.heap.size W w') := fun W h => works_any W (HG.out W h)
  have mK : Hid (∀ W g cap, Below w.heap.size w W → Rw W g (l ++ [-77]) → l.length + 1 ≤ cap → Calls Tryd.prog 14 #[.slice (some ⟨g, 0, none⟩) l.length cap, cv] W fun e w' => e = .returned (.bool true) ∧ Below W.heap.size W w') := fun W g cap hb hr hc => kept_any g cap cv l W (HL.out.on hb) hlen hr hc
  by_cases h : stepE k l now = 0
  · have mS : Hid (∀ W g cap, Below w.heap.size w W → Rw W g (l ++ [-77]) → Calls Tryd.prog 10 #[.int .i64 k, .slice (some ⟨g, 0, none⟩) l.length cap, .int .i64 now] W fun e w' => ∃ g2, e = .returned (.tuple #[.slice (some ⟨g2, 0, none⟩) (stepL k l now).length (stepL k l now).length, .int .i64 0]) ∧ Ob w' g2 2 (intC (stepL k l now)).toArray ∧ W.heap.size ≤ g2 ∧ Below W.heap.size W w') := fun W g cap hb hr => step12_ok k _ l now W (hr.front cap) (HG.out W hb) h
    have mR : Hid (∀ W, Below w.heap.size w W → Calls Tryd.prog 11 #[.int .i64 k, cv, .int .i64 now] W fun e w' => ∃ g cap, e = .returned (.tuple #[.slice (some ⟨g, 0, none⟩) (stepL k l now).length cap, .int .i64 0]) ∧ Rw w' g (stepL k l now) ∧ W.heap.size ≤ g ∧ Below W.heap.size W w') := fun W hb => rstep_ok k cv l now W (HL.out.on hb) h
    have h6 := stepL_len k l now
    generalize stepL k l now = m at *
    have mQ : Hid (∀ W g2 g3 cap, Ob W g2 2 (intC m).toArray → Rw W g3 m → Calls Tryd.prog 12 #[.slice (some ⟨g2, 0, none⟩) m.length m.length, .slice (some ⟨g3, 0, none⟩) m.length cap] W fun e w' => e = .returned (.bool true) ∧ Below W.heap.size W w') := fun W g2 g3 cap ho hr => sameNums_one _ _ m W (ILst.of_ob ho _ _ rfl) (hr.ilst _ cap rfl) (by omega)
    have mP : Hid (∀ W g2, Ob W g2 2 (intC m).toArray → Calls Tryd.prog 13 #[.slice (some ⟨g2, 0, none⟩) m.length m.length, .int .i64 (-99)] W fun e w' => e = .returned (.tuple #[]) ∧ Below g2 W w') := fun W g2 ho => spoil_some g2 m.length (-99) _ W ho (by simp [intC_length]) h6
    obtain ⟨ca, cb, coff, ccap, rfl, -, -⟩ := hL
    clear hg h hlen h6
    generalize l.length = n at *
    generalize m.length = M at *
    go_enter Tryd.func3, Tryd.ntmps3
    go_wp2_with (first | (go_at_call 9; refine m9.mono ?_; rintro e w1 ⟨g, cap, rfl, c1, r1, l1, b1⟩; have C1 := hide c1; have R1 := hide r1; have L1 := hide l1; have B1 := hide b1; clear c1 r1 l1 b1) | (go_at_call 10; refine (mS.out _ g cap B1.out R1.out).mono ?_; rintro e w2 ⟨g2, rfl, o2, l2, b2⟩; have O2 := hide o2; have L2 := hide l2; have B2 := hide b2; have BB2 := hide (B1.out.trans (b2.mono B1.out.size)); clear o2 l2 b2) | (go_at_call 11; refine (mR.out _ BB2.out).mono ?_; rintro e w3 ⟨g3, cap3, rfl, r3, l3, b3⟩; have R3 := hide r3; have B3 := hide b3; have BB3 := hide (BB2.out.trans (b3.mono BB2.out.size)); have O3 := hide (O2.out.on b3 O2.out.lt); clear r3 l3 b3) | (go_at_call 12; refine (mQ.out _ g2 g3 cap3 O3.out R3.out).mono ?_; rintro e w4 ⟨rfl, b4⟩; have B4 := hide b4; have BB4 := hide (BB3.out.trans (b4.mono BB3.out.size)); have O4 := hide (O3.out.on b4 O3.out.lt); have R4 := hide (((R1.out.on B2.out R1.out.lt).on B3.out (R1.out.on B2.out R1.out.lt).lt).on b4 ((R1.out.on B2.out R1.out.lt).on B3.out (R1.out.on B2.out R1.out.lt).lt).lt); clear b4) | (go_at_call 13; refine (mP.out _ g2 O4.out).mono ?_; rintro e w5 ⟨rfl, b5⟩; have BB5 := hide (BB4.out.trans (b5.mono (Nat.le_trans B1.out.size L2.out))); have R5 := hide (R4.out.on b5 (Nat.lt_of_lt_of_le R1.out.lt L2.out)); clear b5) | (go_at_call 14; refine (mK.out _ g cap BB5.out R5.out C1.out).mono ?_; rintro e w6 ⟨rfl, b6⟩; have BB6 := hide (BB5.out.trans (b6.mono BB5.out.size)); clear b6) | (go_at_call 15; refine (mw.out _ BB6.out).mono ?_; rintro e w7 ⟨rfl, b7⟩; have BB7 := hide (BB6.out.trans (b7.mono BB6.out.size)); clear b7))
    go_ret
    exact ⟨rfl, BB7.out⟩
  · have mS : Hid (∀ W g cap, Below w.heap.size w W → Rw W g (l ++ [-77]) → Calls Tryd.prog 10 #[.int .i64 k, .slice (some ⟨g, 0, none⟩) l.length cap, .int .i64 now] W fun e w' => e = .returned (.tuple #[.slice none 0 0, .int .i64 (stepE k l now)]) ∧ Below W.heap.size W w') := fun W g cap hb hr => step12_no k _ l now W (hr.front cap) (HG.out W hb) h
    have mR : Hid (∀ W, Below w.heap.size w W → Calls Tryd.prog 11 #[.int .i64 k, cv, .int .i64 now] W fun e w' => e = .returned (.tuple #[.slice none 0 0, .int .i64 (stepE k l now)]) ∧ Below W.heap.size W w') := fun W hb => rstep_no k cv l now W (HL.out.on hb) h
    generalize stepE k l now = E at *
    have mQ : Hid (∀ W, Calls Tryd.prog 12 #[.slice none 0 0, .slice none 0 0] W fun e w' => e = .returned (.bool true) ∧ Below W.heap.size W w') := fun W => sameNums_one _ _ [] W (ILst.nil _ _) (ILst.nil _ _) (by simp)
    have mP := spoil_none (-99)
    obtain ⟨ca, cb, coff, ccap, rfl, -, -⟩ := hL
    clear hg h hlen
    generalize l.length = n at *
    go_enter Tryd.func3, Tryd.ntmps3
    go_wp2_with (first | (go_at_call 9; refine m9.mono ?_; rintro e w1 ⟨g, cap, rfl, c1, r1, l1, b1⟩; have C1 := hide c1; have R1 := hide r1; have L1 := hide l1; have B1 := hide b1; clear c1 r1 l1 b1) | (go_at_call 10; refine (mS.out _ g cap B1.out R1.out).mono ?_; rintro e w2 ⟨rfl, b2⟩; have B2 := hide b2; have BB2 := hide (B1.out.trans (b2.mono B1.out.size)); clear b2) | (go_at_call 11; refine (mR.out _ BB2.out).mono ?_; rintro e w3 ⟨rfl, b3⟩; have B3 := hide b3; have BB3 := hide (BB2.out.trans (b3.mono BB2.out.size)); clear b3) | (go_at_call 12; refine (mQ.out _).mono ?_; rintro e w4 ⟨rfl, b4⟩; have BB4 := hide (BB3.out.trans (b4.mono BB3.out.size)); have R4 := hide (((R1.out.on B2.out R1.out.lt).on B3.out (R1.out.on B2.out R1.out.lt).lt).on b4 ((R1.out.on B2.out R1.out.lt).on B3.out (R1.out.on B2.out R1.out.lt).lt).lt); clear b4) | (go_at_call 13; refine (mP _).mono ?_; rintro e w5 ⟨rfl, hw5⟩; subst hw5) | (go_at_call 14; refine (mK.out _ g cap BB4.out R4.out C1.out).mono ?_; rintro e w6 ⟨rfl, b6⟩; have BB6 := hide (BB4.out.trans (b6.mono BB4.out.size)); clear b6) | (go_at_call 15; refine (mw.out _ BB6.out).mono ?_; rintro e w7 ⟨rfl, b7⟩; have BB7 := hide (BB6.out.trans (b7.mono BB6.out.size)); clear b7))
    go_ret
    exact ⟨rfl, BB7.out⟩
end Go.Proofs.YthifgfhgkdjkfaaDoor
namespace Go.Proofs.YthifgfhgkdjkfaaDoor
open Go.RowKit
/-- all blocks but one stay -/
structure But (g : Nat) (w w' : World) : Prop where
  os : w'.os = w.os
  tape : w'.tape = w.tape
  output : w'.output = w.output
  size : w'.heap.size = w.heap.size
  block : ∀ b, b ≠ g → w'.heap[b]? = w.heap[b]?
theorem But.below {g B : Nat} {w w' : World} (h : But g w w') (hB : B ≤ g) : Below B w w' := ⟨h.os, h.tape, h.output, Nat.le_of_eq h.size.symm, fun k hk => h.block k (by omega)⟩
theorem But.cell {g b i : Nat} {w w' : World} (h : But g w w') (hb : b ≠ g) : w'.cell? ⟨b, i, none⟩ = w.cell? ⟨b, i, none⟩ := World.cell?_of_block (h.block b hb)
theorem hsz2 : (Tryd.prog.info? 2).map (·.size) = some 1 := by kernel_rfl
theorem wpList_copy_nums {w : World} {ops : Array Oper} {rest : List Oper} {o : Oper} {a : Act} {Q : Exit → Act → World → Prop} (hgd : o.guard = none) (d s : Operand)
    (ho : o.op = .call { callee := .builtin .copy, args := #[d, s], argTypes := #[22, 22] }) (g n cap : Nat) (sv : Value) (c ins : List Int) (hd : a.eval d = .slice (some ⟨g, 0, none⟩) n cap) (hs : a.eval s = sv)
    (hr : Rw w g c) (hc : c.length = n) (hI : ILst w sv ins) (hl : ins.length ≤ n)
    (h : ∀ w', Rw w' g (putL ins c) → But g w w' → wpList Tryd.prog ops Q rest (a.put o.dst (goInt ins.length)) w') : wpList Tryd.prog ops Q (o :: rest) a w := by
  obtain ⟨cur, hcur, htake⟩ := hr
  obtain ⟨sa, sb, soff, scap, rfl, hA, hI2⟩ := hI
  have hcs : c.length ≤ cur.size := by
    have := congrArg List.length htake
    rw [List.length_take, intC_length] at this
    rw [← Array.length_toList]
    omega
  by_cases h0 : ins.length = 0
  · have e0 : ins = [] := List.eq_nil_of_length_eq_zero h0
    refine wpList_copy_nothing hgd d s 22 22 ho 2 Tryd.underlying22 hsz2 _ _ n cap ins.length scap hd hs (by rw [h0]; simp) ?_
    have := h w (by rw [e0]; exact ⟨cur, hcur, htake⟩) ⟨rfl, rfl, rfl, rfl, fun _ _ => rfl⟩
    rw [h0] at this
    exact this
  · obtain ⟨hsb, rfl⟩ := hA (by omega)
    have hw := wpList_copy_own (P := Tryd.prog) (w := w) (ops := ops) (rest := rest) (Q := Q) hgd d s 22 22 ho 2 Tryd.underlying22 hsz2 g 0 n cap ⟨sb, soff, none⟩ ins.length scap hd hs cur 2 hcur (intC ins) (by rw [intC_length]; exact (Nat.min_eq_left hl).symm) (fun j v hv => by
      rw [intC_get] at hv
      cases hy : ins[j]? with
      | none => rw [hy] at hv; cases hv
      | some y =>
        rw [hy] at hv
        obtain rfl := Option.some.inj hv
        rw [addr_at]
        exact hI2 j y hy) (by rw [intC_length]; omega) (intC_one ins)
    refine hw ?_
    rw [intC_length]
    refine h _ ?_ ⟨rfl, rfl, rfl, by simp [World.setRow], fun b hb => setRow_other w g b _ hb⟩
    exact Rw.splice (cur := cur) (by omega) htake (by
      have := setRow_heap w g cur (cur.toList.take 0 ++ (intC ins ++ cur.toList.drop (0 + ins.length))).toArray 2 (0, 0) hcur
      unfold Go.splice
      rw [intC_length]
      exact this)
theorem stepL_len' {k : Int} (hk : 1 ≤ k ∧ k ≤ 10) (c : List Int) (now : Int) : (stepL k c now).length = (fldK k).length := by
  obtain rfl | rfl | rfl | rfl | rfl | rfl | rfl | rfl | rfl | rfl : k = 1 ∨ k = 2 ∨ k = 3 ∨ k = 4 ∨ k = 5 ∨ k = 6 ∨ k = 7 ∨ k = 8 ∨ k = 9 ∨ k = 10 := by omega
  all_goals rfl
end Go.Proofs.YthifgfhgkdjkfaaDoor
