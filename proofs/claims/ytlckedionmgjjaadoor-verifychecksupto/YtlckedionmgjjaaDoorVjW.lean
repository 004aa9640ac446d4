/- verify: lookAt. -/
import Derived.Test.YtlckedionmgjjaaDoorMg15
namespace Go.Proofs.YtlckedionmgjjaaDoor
open Go.RowKit
open Ex (at_load)
open Four (at_store)
def LookQ (n g g1 g2 : Nat) (xs : List Value) (w : World) (R : Vs ⊕ (Int × Int)) (e : Ending) (w' : World) : Prop :=
  match R with
  | .inl m' => e = .returned (.agg #[.int .i64 0, .int .i64 0]) ∧ WM n g g1 g2 xs m' w' ∧ Kp g g1 g2 w w'
  | .inr q => e = .returned (.agg #[.int .i64 q.1, .int .i64 q.2]) ∧ Kp g g1 g2 w w'
def zeroS : List Value := encS []
theorem info76 : (Tryd.prog.info? 76).map (fun i => (i.zero, i.size)) = some (some (.agg zeroS.toArray), 65) := by kernel_rfl
theorem zero76 (w : World) : (zeroValue 76).run Tryd.prog w = .ok (.agg zeroS.toArray) w := (zero_of_info info76).1 w
theorem Kp.but_new {g g1 g2 b : Nat} {w w1 W : World} (h : Kp g g1 g2 w w1) (hb : But b w1 W) (hs : w.heap.size ≤ b) : Kp g g1 g2 w W :=
  ⟨hb.os.trans h.os, hb.tape.trans h.tape, hb.output.trans h.output, Nat.le_trans h.size hb.size, fun k hk h1 h2 h3 => (hb.block k (Nat.lt_of_lt_of_le hk h.size) (fun e => by have := Option.some.inj e; omega)).trans (h.block k hk h1 h2 h3)⟩
theorem bind_ok {f : Stk → Option Stk} {o : Option Stk} {t : Stk} (h : o.bind f = some t) : ∃ u, o = some u ∧ f u = some t := by
  cases o with
  | none => cases h
  | some u => exact ⟨u, rfl, h⟩
theorem pass_ok {ty : List Int} {n : Nat} {i : Ins} {s t : Stk} (h : passS ty i s = some t) (hs : OkS s) (hty : ∀ t ∈ ty, 1 ≤ t ∧ t ≤ 4) (hi : mayI ty n i = true) : OkS t := by
  obtain ⟨op, a, c, m⟩ := i
  have ho : 1 ≤ op ∧ op ≤ 12 := may_op hi
  have : op = 1 ∨ op = 2 ∨ op = 3 ∨ op = 4 ∨ op = 5 ∨ op = 6 ∨ op = 7 ∨ op = 8 ∨ op = 9 ∨ op = 10 ∨ op = 11 ∨ op = 12 := by omega
  rcases this with rfl | rfl | rfl | rfl | rfl | rfl | rfl | rfl | rfl | rfl | rfl | rfl
  · exact leave_ok' (show leaveS a s = some t from h) (may_push hi) hs
  · obtain ⟨_, _, _, _, h1, h2⟩ := tyC_of hty (may_cell hi (by decide))
    exact leave_ok' (show leaveS (tyC ty a) s = some t from h) ⟨h1, h2⟩ hs
  · exact take_ok' (show takeS [tyC ty a] s = some t from h) hs
  · obtain ⟨_, _, _, _, h1, h2⟩ := tyC_of hty (may_cell hi (by decide))
    obtain ⟨u, q1, q2⟩ := bind_ok (show (takeS [2, 3] s).bind (leaveS (tyC ty a)) = some t from h)
    exact leave_ok' q2 ⟨h1, h2⟩ (take_ok' q1 hs)
  · obtain ⟨u, q1, q2⟩ := bind_ok (show (takeS [tyC ty a] s).bind (takeS [2, 3]) = some t from h)
    exact take_ok' q2 (take_ok' q1 hs)
  · obtain ⟨u, q1, q2⟩ := bind_ok (show ((takeS [c] s).bind (takeS [c])).bind (leaveS (Four.resN a c).1) = some t from h)
    obtain ⟨v, q3, q4⟩ := bind_ok q1
    exact leave_ok' q2 (may_two hi).2 (take_ok' q4 (take_ok' q3 hs))
  · obtain ⟨u, q1, q2⟩ := bind_ok (show (takeS [c] s).bind (leaveS c) = some t from h)
    exact leave_ok' q2 (may_one hi) (take_ok' q1 hs)
  · obtain ⟨u, q1, q2⟩ := bind_ok (show (takeS [a] s).bind (leaveS c) = some t from h)
    exact leave_ok' q2 (may_to hi).2 (take_ok' q1 hs)
  · obtain rfl := Option.some.inj (show some s = some t from h); exact hs
  · exact take_ok' (show takeS [1] s = some t from h) hs
  · obtain rfl := Option.some.inj (show some s = some t from h); exact hs
  · obtain rfl := Option.some.inj (show some s = some t from h); exact hs
theorem size38 : (Tryd.prog.info? 38).map (·.size) = some 4 := by kernel_rfl
theorem three_at (w : World) (A B C : Obj) : (((w.alloc A).alloc B).alloc C).heap[w.heap.size + 1 + 1]? = some C := by
  have := heap_alloc_new ((w.alloc A).alloc B) C
  simpa using this
theorem three_set (w : World) (A B : Obj) (c c' : Array Value) (t : TypeId) : (((w.alloc A).alloc B).alloc (.cells c t)).setRow (w.heap.size + 1 + 1) c' = ((w.alloc A).alloc B).alloc (.cells c' t) := by
  have := World.setRow_alloc_new ((w.alloc A).alloc B) c c' t
  simpa using this
set_option maxRecDepth 100000 in
set_option maxHeartbeats 3200000 in
theorem look_any (n g g1 g2 k : Nat) (nm tv fv iv ov cv : Value) (ty : List Int) (cd : List Ins) (m : Vs) (s0 : Stk) (w : World) (h : WM n g g1 g2 [nm, tv, fv, iv, ov, cv] m w) (hn : cd.length = n) (hk : k < n) (ha : m.at k = some s0)
    (hC : ∀ W, Kp g g1 g2 w W → ISt W cv cd) (hT : ∀ W, Kp g g1 g2 w W → ILst W tv ty) (hty : ∀ t ∈ ty, 1 ≤ t ∧ t ≤ 4) (hi : mayI ty n (insAt cd k) = true) :
    Calls Tryd.prog 35 #[.pointer (some ⟨g, 0, none⟩), .int .i64 (k : Int)] w fun e w' => LookQ n g g1 g2 [nm, tv, fv, iv, ov, cv] w (lookS ty cd m k) e w' := by
  have hx8 : ([nm, tv, fv, iv, ov, cv] ++ [Value.slice (some ⟨g1, 0, none⟩) n n, .slice (some ⟨g2, 0, none⟩) n n]).length = 8 := by simp
  obtain ⟨i, hI⟩ : ∃ i, i = insAt cd k := ⟨_, rfl⟩
  have hik : cd[k]? = some i := by
    rw [hI]; unfold insAt
    rw [List.getD_eq_getElem?_getD, List.getElem?_eq_getElem (by omega)]; rfl
  have hs0 : OkS s0 := ⟨(h.good.ok k s0 ha).1, (h.good.ok k s0 ha).2⟩
  obtain ⟨ca, cb, coff, ccap, rfl, hcA, hcI⟩ := hC w (Kp.refl _ _ _ _)
  obtain ⟨hcb, rfl⟩ := hcA (by omega)
  obtain ⟨d0, d1, d2, d3⟩ := hcI k i hik
  obtain ⟨ta, tc, rfl⟩ := (hT w (Kp.refl _ _ _ _)).shape
  have zg := h.ob.lt
  have c5 : ∀ A, (w.alloc A).cell? ⟨g, 5, none⟩ = some (.slice (some ⟨cb, coff, none⟩) cd.length ccap) := fun A => (World.cell?_alloc_lt _ _ ⟨g, 5, none⟩ zg).trans (h.ob.cell 5 (by rw [encW_x hx8 _ _ 5 (by omega)]; rfl))
  have c7 : ∀ A B, ((w.alloc A).alloc B).cell? ⟨g, 7, none⟩ = some (.slice (some ⟨g2, 0, none⟩) n n) := fun A B => (World.cell?_alloc_lt _ _ ⟨g, 7, none⟩ (by simp; omega)).trans ((World.cell?_alloc_lt _ _ ⟨g, 7, none⟩ zg).trans (h.ob.cell 7 (by rw [encW_x hx8 _ _ 7 (by omega)]; rfl)))
  have e0 : ∀ A, (w.alloc A).cell? ⟨cb, coff + k * 4, none⟩ = some (.int .i64 i.op) := fun A => (World.cell?_alloc_lt _ _ ⟨cb, _, none⟩ hcb).trans d0
  have e1 : ∀ A, (w.alloc A).cell? ⟨cb, coff + k * 4 + 1, none⟩ = some (.int .i64 i.a) := fun A => (World.cell?_alloc_lt _ _ ⟨cb, _, none⟩ hcb).trans d1
  have e2 : ∀ A, (w.alloc A).cell? ⟨cb, coff + k * 4 + 2, none⟩ = some (.int .i64 i.b) := fun A => (World.cell?_alloc_lt _ _ ⟨cb, _, none⟩ hcb).trans d2
  have e3 : ∀ A, (w.alloc A).cell? ⟨cb, coff + k * 4 + 3, none⟩ = some (.int .i64 i.n) := fun A => (World.cell?_alloc_lt _ _ ⟨cb, _, none⟩ hcb).trans d3
  have HR : Hid (∀ A B, ((w.alloc A).alloc B).rangeAt g2 (k * 65) (encS s0)) := fun A B => by
    have h1 : Ob ((w.alloc A).alloc B) g2 76 (ahdC n m.rs) := h.ahd.on (((Below.refl _ _).alloc (Nat.le_refl _) A).alloc (by simp) B) h.ahd.lt
    refine h1.range _ _ fun j v hv => ?_
    have hj : j < 65 := by have := (List.getElem?_eq_some_iff.1 hv).1; rwa [encS_length] at this
    rw [ahdC_get n _ k j hk hj, show m.rs.getD k none = some s0 from ha]; exact hv
  obtain ⟨W3, hW3⟩ : ∃ W3, W3 = ((w.alloc (.cells #[.int .i64 0, .int .i64 0] 45)).alloc (.cells #[.int .i64 i.op, .int .i64 i.a, .int .i64 i.b, .int .i64 i.n] 38)).alloc (.cells (encS s0).toArray 76) := ⟨_, rfl⟩
  have HW3 := hide hW3
  have b3 : Below w.heap.size w W3 := by rw [hW3]; exact (((Below.refl _ _).alloc (Nat.le_refl _) _).alloc (by simp) _).alloc (by simp; omega) _
  have sz3 : W3.heap.size = w.heap.size + 3 := by rw [hW3]; simp
  have S3 : Ob W3 (w.heap.size + 1 + 1) 76 (encS s0) := by rw [hW3]; exact three_at _ _ _ _
  have I3 : Ob W3 (w.heap.size + 1) 38 [.int .i64 i.op, .int .i64 i.a, .int .i64 i.b, .int .i64 i.n] := by
    rw [hW3]
    exact (heap_alloc_old _ _ (by simp)).trans (Four.two_at w _ _)
  have F3 : Ob W3 w.heap.size 45 [.int .i64 0, .int .i64 0] := by
    rw [hW3]
    exact (heap_alloc_old _ _ (by simp; omega)).trans ((heap_alloc_old _ _ (by simp)).trans (heap_alloc_new w _))
  have M3 := h.on b3
  have K3 : Kp g g1 g2 w W3 := Kp.of_below b3
  have zg1 := h.rch.lt
  have zg2 := h.ahd.lt
  have nN : w.heap.size ≠ g ∧ w.heap.size ≠ g1 ∧ w.heap.size ≠ g2 := by omega
  have nS : w.heap.size + 1 + 1 ≠ g ∧ w.heap.size + 1 + 1 ≠ g1 ∧ w.heap.size + 1 + 1 ≠ g2 := by omega
  have t1 : W3.cell? ⟨g, 1, none⟩ = some (.slice ta ty.length tc) := M3.ob.cell 1 (by rw [encW_x hx8 _ _ 1 (by omega)]; rfl)
  have hSS : W3.cell? ⟨g, 1, none⟩ = some (.slice ta ty.length tc) ∧ Ob W3 (w.heap.size + 1) 38 [.int .i64 i.op, .int .i64 i.a, .int .i64 i.b, .int .i64 i.n] := ⟨t1, I3⟩
  have HSK : Hid (∀ W, But (w.heap.size + 1 + 1) W3 W → W.cell? ⟨g, 1, none⟩ = some (.slice ta ty.length tc) ∧ Ob W (w.heap.size + 1) 38 [.int .i64 i.op, .int .i64 i.a, .int .i64 i.b, .int .i64 i.n]) := fun W hb => ⟨(hb.cell (p := ⟨g, 1, none⟩) M3.ob.lt (by show g ≠ _; omega)).trans t1, hb.ob I3 (by omega)⟩
  have m58 : Hid (Calls Tryd.prog 58 #[.pointer (some ⟨w.heap.size + 1 + 1, 0, none⟩), .slice ta ty.length tc, .agg #[.int .i64 i.op, .int .i64 i.a, .int .i64 i.b, .int .i64 i.n]] W3.drew fun e w' => e = .returned (.bool (passS ty i s0).isSome) ∧ (∀ s', passS ty i s0 = some s' → Ob w' (w.heap.size + 1 + 1) 76 (encS s')) ∧ But (w.heap.size + 1 + 1) W3 w') :=
    (pass_any (w.heap.size + 1 + 1) _ ty n i s0 W3.drew S3 hs0 (fun W hb => hT W (Kp.but_new K3 (((But.refl _ W3).drew).trans hb) (by omega))) hty (by rw [hI]; exact hi)).mono fun _ _ ⟨h1, h2, h3⟩ => ⟨h1, h2, ((But.refl _ W3).drew).trans h3⟩
  have hRR : lookS ty cd m k = match passS ty i s0 with | none => .inr ((k : Int), 151) | some t => followS n k t (goesS k i) ⟨m.rs, m.wt, max m.dp t.length⟩ := by
    unfold lookS
    rw [ha, hn, ← hI]; rfl
  have HI4 : Hid (∀ W, But (w.heap.size + 1 + 1) W3 W → Ob W w.heap.size 45 [.int .i64 0, .int .i64 0] ∧ WM n g g1 g2 [nm, .slice ta ty.length tc, fv, iv, ov, .slice (some ⟨cb, coff, none⟩) cd.length ccap] m W ∧ Kp g g1 g2 w W) := fun W hb => ⟨hb.ob F3 (by omega), M3.but hb nS, Kp.but_new K3 hb (by omega)⟩
  have HL := hide (encS_length s0)
  have HO := hide (encS_one s0)
  have k0 : (0 : Int) ≤ (k : Int) := by omega
  have k1 : (k : Int) < (n : Int) := by omega
  have k2 : (k : Int) < (cd.length : Int) := by omega
  have H := hide h
  have HI := hide hI
  obtain ⟨S, hS⟩ : ∃ S, S = encS s0 := ⟨_, rfl⟩
  rw [← hS] at HR HL HO HW3
  have HS := hide hS
  have hz := zero76
  have HZ : Hid (zeroS.toArray.size = 65) := by show _ = _; simp [zeroS, encS_length]
  have HOK : Hid (∀ t, passS ty i s0 = some t → OkS t) := fun t ht => pass_ok ht hs0 hty (by rw [hI]; exact hi)
  have HMI : Hid (mayI ty n i = true) := by show _ = _; rw [hI]; exact hi
  have HNK : Hid (n ≤ 4096 ∧ k < n ∧ cd.length = n) := ⟨h.len, hk, hn⟩
  generalize lookS ty cd m k = R at *
  obtain ⟨P, hP⟩ : ∃ P, P = passS ty i s0 := ⟨_, rfl⟩
  rw [← hP] at m58 hRR HOK
  have HRR := hide hRR
  obtain ⟨L, hL⟩ : ∃ L, L = cd.length := ⟨_, rfl⟩
  have HLn := hide hL
  rw [← hL] at c5 k2 HI4 HNK ⊢
  obtain ⟨T, hT'⟩ : ∃ T, T = ty.length := ⟨_, rfl⟩
  rw [← hT'] at hSS HSK m58 HI4 ⊢
  obtain ⟨PQ, hPQ⟩ : ∃ PQ, PQ = LookQ n g g1 g2 [nm, .slice ta T tc, fv, iv, ov, .slice (some ⟨cb, coff, none⟩) L ccap] w R := ⟨_, rfl⟩
  have HPQ := hide hPQ
  rw [← hPQ]
  have HNe := hide nN
  have HNs := hide nS
  cases P with
  | none =>
    have HE : Hid (R = .inr ((k : Int), 151)) := hRR
    clear h hx8 hI hik hcI hcA d0 d1 d2 d3 hC hT ha hS hcb zg hn hk hi hty hs0 zg1 zg2 nN nS t1 F3 I3 S3 M3 K3 b3 sz3 hW3 hRR hP hL hT' hPQ HRR
    go_enter Tryd.func35, Tryd.ntmps35
    go_wp2_with (first | ((with_reducible refine at_load (ty := 76) ?_); go_must (refine wpList_load_mid rfl 76 _ rfl g2 (k * 65) rfl S _ (HR.out _ _) Tryd.underlying76 rfl (by rw [size76, HL.out]) ?_)) | ((with_reducible refine at_store (ty := 76) ?_); go_must (refine wpList_store_rowTo rfl 76 _ _ rfl rfl _ S.toArray rfl rfl 76 zeroS.toArray (three_at _ _ _ _) (by rw [size76]; simp [HL.out]) (by rw [HZ.out]; simp [HL.out]) (all_oneCell_toArray HO.out) ?_; rw [three_set])))
    rw [← HW3.out]
    clear HW3 HR HS HL HO hz c5 c7 e0 e1 e2 e3
    refine wp_region_held_drew (S := fun W => W.cell? ⟨g, 1, none⟩ = some (.slice ta T tc) ∧ Ob W (w.heap.size + 1) 38 [.int .i64 i.op, .int .i64 i.a, .int .i64 i.b, .int .i64 i.n]) (by kernel_rfl) hSS (fun hSS => ?_)
    refine tkH 0 (.pointer (some ⟨g, 0, none⟩)) hSS ?_
    refine tkH 1 (.pointer (some ⟨g, 0, none⟩)) hSS ?_
    refine tkH 2 (.pointer (some ⟨g, 0, none⟩)) hSS ?_
    refine tkH 3 (.pointer (some ⟨g, 1, none⟩)) hSS ?_
    refine tkH 4 (.slice ta T tc) hSS ?_
    try simp only [Act.put, List.setIfInBounds_toArray, List.set_cons_zero, List.set_cons_succ]
    refine tkH 5 (.agg #[.int .i64 i.op, .int .i64 i.a, .int .i64 i.b, .int .i64 i.n]) hSS ?_ (hy := yieldsIf_load_mid (by rfl) 38 (.tmp 5) rfl (w.heap.size + 1) 0 (by rfl) [.int .i64 i.op, .int .i64 i.a, .int .i64 i.b, .int .i64 i.n] _ (fun W hW => hW.2.range 0 _ (fun j v hv => by rw [Nat.zero_add]; exact hv)) Tryd.underlying38 rfl size38)
    try simp only [Act.put, List.setIfInBounds_toArray, List.set_cons_zero, List.set_cons_succ]
    refine rdH 6 (fun K hK => ?_)
    go_simp
    refine m58.out.mono ?_
    rintro e w4 ⟨rfl, -, b4⟩
    refine hK.out _ _ (HSK.out _ b4) (fun hSS => ?_)
    clear hK K
    try simp only [Act.put, List.setIfInBounds_toArray, List.set_cons_zero, List.set_cons_succ]
    refine tkH 7 (.bool true) hSS ?_
    try simp only [Act.put, List.setIfInBounds_toArray, List.set_cons_zero, List.set_cons_succ]
    refine wpAnyH_done (by kernel_rfl) ?_ _
    obtain ⟨f4, -, kk4⟩ := HI4.out _ b4
    have q0 : w4.cell? ⟨w.heap.size, 0, none⟩ = some (.int .i64 0) := f4.cell 0 rfl
    have q1 : w4.cell? ⟨w.heap.size, 1, none⟩ = some (.int .i64 0) := f4.cell 1 rfl
    have r0 := f4.fr 0
    have r1 := f4.fr 1
    have KK4 := hide kk4
    have F4 := hide f4
    clear hSS b4 f4 kk4
    go_wp2
    refine bodyPost_ret (results_cell_row rfl _ _ w.heap.size 45 #[.int .i64 (k : Int), .int .i64 151] (0, 0) _ rfl ((F4.out.set 0 _).set 1 _) Tryd.underlying45 rfl (by kernel_rfl)) rfl ?_
    rw [HPQ.out, HE.out]
    exact ⟨rfl, kp_set (kp_set KK4.out (.inr (.inr (.inr (Nat.le_refl _))))) (.inr (.inr (.inr (Nat.le_refl _))))⟩
  | some t =>
    have HE : Hid (R = followS n k t (goesS k i) ⟨m.rs, m.wt, max m.dp t.length⟩) := hRR
    have OT := hide (HOK.out t rfl)
    have emax : ∀ (ts : Array TypeId) (u : TypeId) (W : World), (Builtin.max_ ts u #[.int .i64 (m.dp : Int), .int .i64 (t.length : Int)]).run Tryd.prog W = .ok (.int .i64 ((max m.dp t.length : Nat) : Int)) W := fun ts u W => by rw [run_max_int2]; exact congrArg (fun z => Result.ok (Value.int .i64 z) W) (by split <;> omega)
    have HX8 := hide hx8
    have HZG := hide (And.intro zg (And.intro zg1 zg2))
    clear h hx8 hI hik hcI hcA d0 d1 d2 d3 hC hT ha hS hcb zg hn hk hi hty hs0 zg1 zg2 nN nS t1 F3 I3 S3 M3 K3 b3 sz3 hW3 hRR hP hL hT' hPQ HRR
    go_enter Tryd.func35, Tryd.ntmps35
    go_wp2_with (first | ((with_reducible refine at_load (ty := 76) ?_); go_must (refine wpList_load_mid rfl 76 _ rfl g2 (k * 65) rfl S _ (HR.out _ _) Tryd.underlying76 rfl (by rw [size76, HL.out]) ?_)) | ((with_reducible refine at_store (ty := 76) ?_); go_must (refine wpList_store_rowTo rfl 76 _ _ rfl rfl _ S.toArray rfl rfl 76 zeroS.toArray (three_at _ _ _ _) (by rw [size76]; simp [HL.out]) (by rw [HZ.out]; simp [HL.out]) (all_oneCell_toArray HO.out) ?_; rw [three_set])))
    rw [← HW3.out]
    clear HW3 HR HS HL HO hz c5 c7 e0 e1 e2 e3
    refine wp_region_held_drew (S := fun W => W.cell? ⟨g, 1, none⟩ = some (.slice ta T tc) ∧ Ob W (w.heap.size + 1) 38 [.int .i64 i.op, .int .i64 i.a, .int .i64 i.b, .int .i64 i.n]) (by kernel_rfl) hSS (fun hSS => ?_)
    refine tkH 0 (.pointer (some ⟨g, 0, none⟩)) hSS ?_
    refine tkH 1 (.pointer (some ⟨g, 0, none⟩)) hSS ?_
    refine tkH 2 (.pointer (some ⟨g, 0, none⟩)) hSS ?_
    refine tkH 3 (.pointer (some ⟨g, 1, none⟩)) hSS ?_
    refine tkH 4 (.slice ta T tc) hSS ?_
    try simp only [Act.put, List.setIfInBounds_toArray, List.set_cons_zero, List.set_cons_succ]
    refine tkH 5 (.agg #[.int .i64 i.op, .int .i64 i.a, .int .i64 i.b, .int .i64 i.n]) hSS ?_ (hy := yieldsIf_load_mid (by rfl) 38 (.tmp 5) rfl (w.heap.size + 1) 0 (by rfl) [.int .i64 i.op, .int .i64 i.a, .int .i64 i.b, .int .i64 i.n] _ (fun W hW => hW.2.range 0 _ (fun j v hv => by rw [Nat.zero_add]; exact hv)) Tryd.underlying38 rfl size38)
    try simp only [Act.put, List.setIfInBounds_toArray, List.set_cons_zero, List.set_cons_succ]
    refine rdH 6 (fun K hK => ?_)
    go_simp
    refine m58.out.mono ?_
    rintro e w4 ⟨rfl, hs4, b4⟩
    refine hK.out _ _ (HSK.out _ b4) (fun hSS => ?_)
    clear hK K
    try simp only [Act.put, List.setIfInBounds_toArray, List.set_cons_zero, List.set_cons_succ]
    refine tkH 7 (.bool false) hSS ?_
    try simp only [Act.put, List.setIfInBounds_toArray, List.set_cons_zero, List.set_cons_succ]
    refine wpAnyH_done (by kernel_rfl) ?_ _
    obtain ⟨f4, mm4, kk4⟩ := HI4.out _ b4
    have i4 := hSS.2
    have s4 := hs4 t rfl
    have d4 : w4.cell? ⟨g, 72, none⟩ = some (.int .i64 (m.dp : Int)) := mm4.ob.cell 72 (encW_dp HX8.out _ _)
    have df4 := mm4.ob.fr 72
    have l4 : w4.cell? ⟨w.heap.size + 1 + 1, 64, none⟩ = some (.int .i64 (t.length : Int)) := s4.cell 64 (encS_top t)
    have KK4 := hide kk4
    have F4 := hide f4
    have MM4 := hide mm4
    have I4 := hide i4
    have S4 := hide s4
    clear hSS b4 f4 kk4 mm4 i4 s4 hs4 m58 HI4 HSK HOK
    generalize max m.dp t.length = D at *
    go_wp2
    go_region
    obtain ⟨w5, hw5⟩ : ∃ w5, w5 = (w4.setCell ⟨g, 72, none⟩ (.int .i64 (D : Int))).drew := ⟨_, rfl⟩
    rw [← hw5]
    have M5 : WM n g g1 g2 [nm, .slice ta T tc, fv, iv, ov, .slice (some ⟨cb, coff, none⟩) L ccap] ⟨m.rs, m.wt, D⟩ w5 := by
      rw [hw5]
      have h1 := MM4.out
      refine ⟨?_, heap_set_apart h1.rch (fun e => h1.ne.1 e.symm), heap_set_apart h1.ahd (fun e => h1.ne.2.1 e.symm), ⟨h1.good.rs, h1.good.wt, h1.good.wait, h1.good.ok⟩, h1.len, h1.n0, h1.xs, h1.lo, h1.ne⟩
      have := h1.ob.set 72 (.int .i64 (D : Int))
      rw [encW_deep (by rfl)] at this
      exact this
    have F5 : Ob w5 w.heap.size 45 [.int .i64 0, .int .i64 0] := by rw [hw5]; exact heap_set_apart F4.out HNe.out.1
    have I5 : Ob w5 (w.heap.size + 1) 38 [.int .i64 i.op, .int .i64 i.a, .int .i64 i.b, .int .i64 i.n] := by rw [hw5]; exact heap_set_apart I4.out (by have := HZG.out.1; omega)
    have S5 : Ob w5 (w.heap.size + 1 + 1) 76 (encS t) := by rw [hw5]; exact heap_set_apart S4.out HNs.out.1
    have K5 : Kp g g1 g2 w w5 := by rw [hw5]; exact (kp_set KK4.out (.inl rfl)).drewN 1
    have i0 : w5.cell? ⟨w.heap.size + 1, 0, none⟩ = some (.int .i64 i.op) := I5.cell 0 rfl
    have i1 : w5.cell? ⟨w.heap.size + 1, 1, none⟩ = some (.int .i64 i.a) := I5.cell 1 rfl
    have i2 : w5.cell? ⟨w.heap.size + 1, 2, none⟩ = some (.int .i64 i.b) := I5.cell 2 rfl
    have i3 : w5.cell? ⟨w.heap.size + 1, 3, none⟩ = some (.int .i64 i.n) := I5.cell 3 rfl
    have m59 := hide (goes_any k (by have := HNK.out; omega) ty n i w5 HMI.out)
    have MM5 := hide M5
    have FF5 := hide F5
    have SS5 := hide S5
    have KK5 := hide K5
    clear hw5 M5 F5 I5 S5 K5 d4 df4 l4 MM4 F4 I4 S4 KK4
    go_wp2_with fail
    refine m59.out.mono ?_
    rintro e w6 ⟨v, rfl, hv, b6⟩
    have MM6 := hide (MM5.out.on b6)
    have FF6 := hide (FF5.out.on b6 FF5.out.lt)
    have SS6 := hide (SS5.out.on b6 SS5.out.lt)
    have KK6 := hide (KK5.out.trans (Kp.of_below b6))
    have z5 : w.heap.size ≤ w5.heap.size := KK5.out.size
    have hvs := hide FF5.out.lt
    have HL2 : Hid ((goesS k i).length ≤ 2) := by show _ ≤ _; unfold goesS; repeat' split
                                                  all_goals simp
    clear b6 m59 MM5 FF5 SS5 KK5 i0 i1 i2 i3
    have HLE : Hid (∀ j ∈ goesS k i, j ≤ n) := goes_le HMI.out HNK.out.2.1
    generalize goesS k i = l at *
    rcases hv with ⟨rfl, rfl⟩ | ⟨hl, vb, hvb, rfl, hV⟩
    · have HE2 : Hid (R = .inl ⟨m.rs, m.wt, D⟩) := HE.out
      clear HE
      have q0 : w6.cell? ⟨w.heap.size, 0, none⟩ = some (.int .i64 0) := FF6.out.cell 0 rfl
      have q1 : w6.cell? ⟨w.heap.size, 1, none⟩ = some (.int .i64 0) := FF6.out.cell 1 rfl
      have r0 := FF6.out.fr 0
      have r1 := FF6.out.fr 1
      go_wp2
      go_loopw [8, 48] (fun _ i wr => i = .int .i64 0 ∧ wr = w6) (fun _ _ _ => 0)
      case atStart => exact ⟨rfl, rfl⟩
      case round =>
        obtain ⟨rfl, rfl⟩ := hrel
        go_wp2
        refine bodyPost_ret (results_cell_row rfl _ _ w.heap.size 45 #[.int .i64 0, .int .i64 0] (0, 0) _ rfl ((FF6.out.set 0 _).set 1 _) Tryd.underlying45 rfl (by kernel_rfl)) rfl ?_
        rw [HPQ.out, HE2.out]
        refine ⟨rfl, ?_, kp_set (kp_set KK6.out (.inr (.inr (.inr (Nat.le_refl _))))) (.inr (.inr (.inr (Nat.le_refl _))))⟩
        exact (MM6.out.but ((But.refl w.heap.size _).set 0 _ |>.set 1 _) HNe.out)
    · have HV := hide hV
      obtain ⟨q, hq⟩ : ∃ q, q = l.length := ⟨_, rfl⟩
      rw [← hq]
      have HQ := hide hq
      have q0 : (0 : Int) ≤ (q : Int) := by omega
      have q5 : q ≤ 2 := by have := HL2.out; omega
      have nV : Hid (vb ≠ g ∧ vb ≠ g1 ∧ vb ≠ g2 ∧ vb ≠ w.heap.size) := by have := HZG.out; have := FF6.out.lt; exact ⟨by omega, by omega, by omega, by have := z5; have := hvs.out; omega⟩
      have HLt := hide (encS_length t)
      have k33 : Hid (∀ W, Ob W (w.heap.size + 1 + 1) 76 (encS t) → W.rangeAt (w.heap.size + 1 + 1) 0 (encS t)) := fun W h => h.range 0 _ (fun j v hv => by rw [Nat.zero_add]; exact hv)
      clear hV hq hl hvb
      go_wp2
      go_loopw [8, 48] (fun _ i wr => ∃ (j : Nat) (mm : Vs), j ≤ q ∧ i = .int .i64 (j : Int) ∧ Hid (followS n k t (l.drop j) mm = R ∧ WM n g g1 g2 [nm, .slice ta T tc, fv, iv, ov, .slice (some ⟨cb, coff, none⟩) L ccap] mm wr ∧ Ob wr w.heap.size 45 [.int .i64 0, .int .i64 0] ∧ Ob wr (w.heap.size + 1 + 1) 76 (encS t) ∧ Ob wr vb 3 (natI l) ∧ Kp g g1 g2 w wr)) (fun _ i _ => q - (intOf i).toNat)
      case atStart => exact ⟨0, _, by omega, rfl, by rw [HE.out]; rfl, MM6.out, FF6.out, SS6.out, HV.out, KK6.out⟩
      case round =>
        obtain ⟨j, mm, hj, rfl, hh⟩ := hrel
        obtain ⟨hf, hm, hF, hS, hV, hKp⟩ := hh.out
        have j0 : (0 : Int) ≤ (j : Int) := by omega
        have q0 : wr.cell? ⟨w.heap.size, 0, none⟩ = some (.int .i64 0) := hF.cell 0 rfl
        have q1 : wr.cell? ⟨w.heap.size, 1, none⟩ = some (.int .i64 0) := hF.cell 1 rfl
        have r0 := hF.fr 0
        have r1 := hF.fr 1
        have c5 : wr.cell? ⟨g, 5, none⟩ = some (.slice (some ⟨cb, coff, none⟩) L ccap) := hm.ob.cell 5 (by rw [encW_x (by rfl) _ _ 5 (by omega)]; rfl)
        have HF := hide hF
        have HM := hide hm
        have HK := hide hKp
        by_cases hlt : j < q
        · have j1 : (j : Int) < (q : Int) := by omega
          obtain ⟨x, hx⟩ : ∃ x, l[j]? = some x := ⟨_, List.getElem?_eq_getElem (by rw [← HQ.out]; exact hlt)⟩
          have hd : l.drop j = x :: l.drop (j + 1) := by
            obtain ⟨h, rfl⟩ := List.getElem?_eq_some_iff.1 hx
            exact List.drop_eq_getElem_cons h
          have cx : wr.cell? ⟨vb, j, none⟩ = some (.int .i64 (x : Int)) := hV.cell j (by unfold natI; rw [List.getElem?_map, hx]; rfl)
          have hxn := HLE.out x (List.mem_of_getElem? hx)
          rw [hd] at hf
          unfold followS at hf
          by_cases hxe : x = n
          · rw [if_pos hxe] at hf
            have HR := hide hf
            have hxl : (x : Int) = (L : Int) := by have := HNK.out; omega
            have hxb : ((x : Int) == (L : Int)) = true := by rw [hxl]; simp
            clear hh hf hm hF hS hV hKp hd hx hxn hxe
            go_wp2
            refine bodyPost_ret (results_cell_row rfl _ _ w.heap.size 45 #[.int .i64 (k : Int), .int .i64 150] (0, 0) _ rfl ((HF.out.set 0 _).set 1 _) Tryd.underlying45 rfl (by kernel_rfl)) rfl ?_
            rw [HPQ.out, ← HR.out]
            exact ⟨rfl, kp_set (kp_set HK.out (.inr (.inr (.inr (Nat.le_refl _))))) (.inr (.inr (.inr (Nat.le_refl _))))⟩
          · rw [if_neg hxe] at hf
            have hxb : ((x : Int) == (L : Int)) = false := by have := HNK.out; simp; omega
            have m33 := hide (reach_any n g g1 g2 x _ mm t wr hm (by omega) OT.out)
            have HRg := hide (k33.out wr hS)
            have HS := hide hS
            have HVV := hide hV
            cases hr : reachS mm x t with
            | none =>
              rw [hr] at hf m33
              have HR : Hid (R = .inr ((x : Int), 151)) := hf.symm
              clear hh hf hm hF hS hV hKp hd hx hxn hxe hr
              generalize encS t = E at *
              go_wp2_with (first | ((with_reducible refine at_load (ty := 76) ?_); go_must (refine wpList_load_mid rfl 76 _ rfl (w.heap.size + 1 + 1) 0 rfl E _ HRg.out Tryd.underlying76 rfl (by rw [size76, HLt.out]) ?_)) | (go_at_call 33; refine m33.out.mono ?_; rintro e w7 ⟨rfl, -, k7⟩; have F7 := hide (k7.ob HF.out HNe.out); have K7 := hide (HK.out.trans k7); clear k7; have u0 : w7.cell? ⟨w.heap.size, 0, none⟩ = some (.int .i64 0) := F7.out.cell 0 rfl; have u1 : w7.cell? ⟨w.heap.size, 1, none⟩ = some (.int .i64 0) := F7.out.cell 1 rfl; have v0 := F7.out.fr 0; have v1 := F7.out.fr 1))
              refine bodyPost_ret (results_cell_row rfl _ _ w.heap.size 45 #[.int .i64 (x : Int), .int .i64 151] (0, 0) _ rfl ((F7.out.set 0 _).set 1 _) Tryd.underlying45 rfl (by kernel_rfl)) rfl ?_
              rw [HPQ.out, HR.out]
              exact ⟨rfl, kp_set (kp_set K7.out (.inr (.inr (.inr (Nat.le_refl _))))) (.inr (.inr (.inr (Nat.le_refl _))))⟩
            | some m2 =>
              rw [hr] at hf m33
              have HR := hide hf
              clear hh hf hm hF hS hV hKp hd hx hxn hxe hr
              generalize encS t = E at *
              go_wp2_with (first | ((with_reducible refine at_load (ty := 76) ?_); go_must (refine wpList_load_mid rfl 76 _ rfl (w.heap.size + 1 + 1) 0 rfl E _ HRg.out Tryd.underlying76 rfl (by rw [size76, HLt.out]) ?_)) | (go_at_call 33; refine m33.out.mono ?_; rintro e w7 ⟨rfl, hm7, k7⟩; have M7 := hide (hm7 m2 rfl); have F7 := hide (k7.ob HF.out HNe.out); have S7 := hide (k7.ob HS.out HNs.out); have V7 := hide (k7.ob HVV.out ⟨nV.out.1, nV.out.2.1, nV.out.2.2.1⟩); have K7 := hide (HK.out.trans k7); clear k7 hm7))
              go_roundw
              case rel => exact ⟨j + 1, m2, by omega, by go_num, HR.out, M7.out, F7.out, S7.out, V7.out, K7.out⟩
              case measure => simp [intOf]; omega
        · obtain rfl : j = q := by omega
          have hdn : l.drop j = [] := List.drop_eq_nil_of_le (by rw [← HQ.out]; exact Nat.le_refl _)
          rw [hdn] at hf
          have HR : Hid (R = .inl mm) := hf.symm
          have j2 : ¬ (j : Int) < (j : Int) := by omega
          clear hh hf hm hF hS hV hKp hdn
          go_wp2
          refine bodyPost_ret (results_cell_row rfl _ _ w.heap.size 45 #[.int .i64 0, .int .i64 0] (0, 0) _ rfl ((HF.out.set 0 _).set 1 _) Tryd.underlying45 rfl (by kernel_rfl)) rfl ?_
          rw [HPQ.out, HR.out]
          refine ⟨rfl, ?_, kp_set (kp_set HK.out (.inr (.inr (.inr (Nat.le_refl _))))) (.inr (.inr (.inr (Nat.le_refl _))))⟩
          exact (HM.out.but ((But.refl w.heap.size _).set 0 _ |>.set 1 _) HNe.out)
end Go.Proofs.YtlckedionmgjjaaDoor
