/- SpP | SrW | RbW -/
import Derived.Test.YtldjiieckddhkaaGreatDoorMg24
import Derived.OrdersHeld
namespace Go.Proofs.YtldjiieckddhkaaGreatDoor
open Go.RowKit Go.Shelf Go.Sort
abbrev Sp := Nat × Nat
def spStep (p : Pt) (i : Nat) (st : List Sp) : List Sp :=
  st.take (st.length - takes p) ++ [((match st.drop (st.length - takes p) with | a :: _ => a.1 | [] => i), i)]
def spAt (x : List Pt) : Nat → List Sp
  | 0 => []
  | k + 1 => match x[k]? with
    | some p => spStep p k (spAt x k)
    | none => spAt x k
def onAt (x : List Pt) (k : Nat) : List Sp := match x[k]? with
  | some p => (spAt x k).drop ((spAt x k).length - takes p)
  | none => []
theorem spStep_length {p : Pt} {i : Nat} {st : List Sp} : (spStep p i st).length = st.length - takes p + 1 := by
  unfold spStep
  rw [List.length_append, List.length_take, Nat.min_eq_left (Nat.sub_le _ _)]; rfl
theorem spAt_succ {x : List Pt} {k : Nat} {p : Pt} (h : x[k]? = some p) : spAt x (k + 1) = spStep p k (spAt x k) := by
  show (match x[k]? with | some p => spStep p k (spAt x k) | none => spAt x k) = _
  rw [h]
theorem onAt_eq {x : List Pt} {k : Nat} {p : Pt} (h : x[k]? = some p) : onAt x k = (spAt x k).drop ((spAt x k).length - takes p) := by
  unfold onAt; rw [h]
theorem spAt_wf {x : List Pt} (h : Wf x 0) : ∀ k, k ≤ x.length → Wf (x.drop k) (spAt x k).length
  | 0, _ => h
  | k + 1, hk => by
    have ih := spAt_wf h k (by omega)
    obtain ⟨p, hp⟩ : ∃ p, x[k]? = some p := ⟨_, List.getElem?_eq_getElem (by omega)⟩
    rw [spAt_succ hp, spStep_length]
    rw [List.drop_eq_getElem_cons (by omega)] at ih
    have e := (List.getElem?_eq_some_iff.1 hp).2
    rw [e] at ih
    exact ih.2
theorem spAt_takes {x : List Pt} (h : Wf x 0) {k : Nat} {p : Pt} (hp : x[k]? = some p) : takes p ≤ (spAt x k).length := by
  have hk := (List.getElem?_eq_some_iff.1 hp).1
  have ih := spAt_wf h k (by omega)
  rw [List.drop_eq_getElem_cons hk, (List.getElem?_eq_some_iff.1 hp).2] at ih
  exact ih.1
theorem onAt_length {x : List Pt} (h : Wf x 0) {k : Nat} {p : Pt} (hp : x[k]? = some p) : (onAt x k).length = takes p := by
  have := spAt_takes h hp
  rw [onAt_eq hp, List.length_drop]; omega
theorem spAt_le (x : List Pt) : ∀ k, (spAt x k).length ≤ k
  | 0 => Nat.le_refl _
  | k + 1 => by
    have ih := spAt_le x k
    cases hp : x[k]? with
    | none => show (match x[k]? with | some p => spStep p k (spAt x k) | none => spAt x k).length ≤ _; rw [hp]; exact Nat.le_succ_of_le ih
    | some p => rw [spAt_succ hp, spStep_length]; omega
def spC (st : List Sp) : List Value := st.flatMap fun s => [.int .i64 (s.1 : Int), .int .i64 (s.2 : Int)]
theorem spC_cons (k : Sp) (l : List Sp) : spC (k :: l) = [.int .i64 (k.1 : Int), .int .i64 (k.2 : Int)] ++ spC l := rfl
theorem spC_length : ∀ st : List Sp, (spC st).length = st.length * 2
  | [] => rfl
  | k :: l => by rw [spC_cons, List.length_append, spC_length l]; show 2 + l.length * 2 = (l.length + 1) * 2; omega
theorem spC_append (a b : List Sp) : spC (a ++ b) = spC a ++ spC b := List.flatMap_append
theorem spC_take : ∀ (st : List Sp) (k : Nat), (spC st).take (k * 2) = spC (st.take k)
  | [], k => by simp [spC]
  | x :: l, 0 => by simp [spC]
  | x :: l, k + 1 => by
    rw [spC_cons, List.take_append, show ([.int .i64 (x.1 : Int), .int .i64 (x.2 : Int)] : List Value).length = 2 from rfl, show (k + 1) * 2 - 2 = k * 2 from by omega, spC_take l k, List.take_of_length_le (by show 2 ≤ _; omega)]; rfl
theorem spC_get : ∀ (st : List Sp) (i : Nat) (x), st[i]? = some x → (spC st)[i * 2]? = some (.int .i64 (x.1 : Int)) ∧ (spC st)[i * 2 + 1]? = some (.int .i64 (x.2 : Int))
  | [], i, x, h => by cases h
  | y :: l, 0, x, h => by
    obtain rfl := Option.some.inj (show some y = some x from h)
    exact ⟨rfl, rfl⟩
  | y :: l, i + 1, x, h => by
    have := spC_get l i x h
    rw [show (i + 1) * 2 = i * 2 + 2 from by omega]
    exact this
def SLs (W : World) (v : Value) (l : List Sp) (O : List Nat) : Prop :=
  ∃ a b off cap, v = .slice a l.length cap ∧ (0 < l.length → b ∈ O ∧ b < W.heap.size ∧ a = some ⟨b, off, none⟩) ∧ ∀ i s, l[i]? = some s → W.cell? ⟨b, off + i * 2, none⟩ = some (.int .i64 (s.1 : Int)) ∧ W.cell? ⟨b, off + i * 2 + 1, none⟩ = some (.int .i64 (s.2 : Int))
theorem SLs.own {A B : World} {v : Value} {l : List Sp} {O : List Nat} (h : SLs A v l O) (hk : OwnK O A B) : SLs B v l O := by
  obtain ⟨a, b, off, cap, e, h1, h2⟩ := h
  refine ⟨a, b, off, cap, e, fun hl => ⟨(h1 hl).1, Nat.lt_of_lt_of_le (h1 hl).2.1 hk.size, (h1 hl).2.2⟩, fun i s hs => ?_⟩
  have hb := hk.block b (h1 (Nat.lt_of_le_of_lt (Nat.zero_le _) (List.getElem?_eq_some_iff.1 hs).1)).1
  rw [World.cell?_of_block (a := ⟨b, _, none⟩) hb, World.cell?_of_block (a := ⟨b, _, none⟩) hb]
  exact h2 i s hs
set_option maxRecDepth 100000 in
theorem sp_from {w : World} {base : Nat} {v : Value} {st : List Sp} {O : List Nat} (h : w.ownsRow base 79 2 v st.length (spC st)) (F : Nat) (hF : F ≤ st.length) (hO : ∀ g, v.ownBlock = some g → g ∈ O) :
    ∃ ov, (∀ W, (Instr.slice 77 v (some (.int .i64 (F : Int))) none none).run Tryz.prog W = .ok ov W) ∧ SLs w ov (st.drop F) O := by
  rcases h.2 with ⟨rfl, h0⟩ | ⟨g, cap, cur, rfl, hb, hg, hn, hm, hc, ht⟩
  · have hl : st = [] := List.eq_nil_of_length_eq_zero h0
    subst hl
    obtain rfl : F = 0 := by simpa using hF
    exact ⟨.slice none 0 0, fun W => by simp [go_sem], none, 0, 0, 0, rfl, fun h => absurd h (Nat.lt_irrefl 0), fun i x hx => by cases hx⟩
  · have i1 : (F : Int) ≤ (st.length : Int) := by omega
    have i2 : (st.length : Int) ≤ (cap : Int) := by omega
    have i0 : (0 : Int) ≤ (F : Int) := by omega
    by_cases e : cap = F
    · refine ⟨.slice (some ⟨g, 0, none⟩) (st.length - F) (cap - F), fun W => by simp [go_sem, *], ?_⟩
      have : st.drop F = [] := List.drop_eq_nil_of_le (by omega)
      rw [this]
      exact ⟨_, g, 0, _, by rw [show st.length - F = 0 from by omega]; rfl, fun h => absurd h (Nat.lt_irrefl 0), fun i x hx => by cases hx⟩
    · refine ⟨.slice (some ⟨g, F * 2, none⟩) (st.length - F) (cap - F), fun W => by simp [go_sem, *], _, g, F * 2, _, by rw [List.length_drop], fun _ => ⟨hO g rfl, (Array.getElem?_eq_some_iff.1 hg).1, rfl⟩, fun i x hx => ?_⟩
      rw [List.getElem?_drop] at hx
      have hlt : F + i < st.length := (List.getElem?_eq_some_iff.1 hx).1
      obtain ⟨k0, k1⟩ := spC_get st (F + i) x hx
      have key : ∀ j u, (spC st)[j]? = some u → w.cell? ⟨g, j, none⟩ = some u := fun j u hu => by
        rw [h.cellAt j (by have := (List.getElem?_eq_some_iff.1 hu).1; rw [spC_length] at this; omega)]; exact hu
      rw [show F * 2 + i * 2 = (F + i) * 2 from by omega]
      exact ⟨key _ _ k0, key _ _ k1⟩
set_option maxRecDepth 100000 in
theorem sp_to {w : World} {base : Nat} {v : Value} {st : List Sp} (h : w.ownsRow base 79 2 v st.length (spC st)) (F : Nat) (hF : F ≤ st.length) :
    ∃ a cap, (∀ W, (Instr.slice 77 v none (some (.int .i64 (F : Int))) none).run Tryz.prog W = .ok (.slice a F cap) W) ∧ w.ownsRow base 79 2 (.slice a F cap) F (spC (st.take F)) ∧ (Value.slice a F cap).ownBlock = v.ownBlock := by
  obtain ⟨a, cap, rfl, hc⟩ := own_form3 h
  refine ⟨a, cap, fun W => ?_, by rw [← spC_take]; exact own_takeN h F hF, ?_⟩
  · have i1 : (F : Int) ≤ (cap : Int) := by omega
    have i0 : (0 : Int) ≤ (F : Int) := by omega
    have i3 : ¬ cap < F := by omega
    rcases h.2 with ⟨h1, h0⟩ | ⟨g, cap', cur, h1, -⟩
    · injection h1 with e1 e2 e3
      subst e1 e3
      obtain rfl : F = 0 := by omega
      simp [go_sem]
    · injection h1 with e1 e2 e3
      subst e1 e3
      simp [go_sem, *]
  · cases a <;> rfl
theorem in79 : (Tryz.prog.info? 79).map (fun i => (i.zero, i.size, i.bytes)) = some (some (.agg #[.int .i64 0, .int .i64 0]), 2, 16) := by kernel_rfl
theorem own_block {w w' : World} {base e size n : Nat} {v : Value} {xs : List Value} (h : w.ownsRow base e size v n xs) (hb : ∀ g, v.ownBlock = some g → w'.heap[g]? = w.heap[g]?) : w'.ownsRow base e size v n xs := by
  refine ⟨h.1, ?_⟩
  rcases h.2 with h1 | ⟨g, cap, cur, h1, r2, r3, r4, r5, r6, r7⟩
  · exact .inl h1
  · subst h1
    exact .inr ⟨g, cap, cur, rfl, r2, (hb g rfl).trans r3, r4, r5, r6, r7⟩
end Go.Proofs.YtldjiieckddhkaaGreatDoor
namespace Go.Proofs.YtldjiieckddhkaaGreatDoor
open Go.RowKit Go.Shelf Go.Sort
attribute [local go_sem] Oper.semAt_some
structure Stp where
  i : Nat
  v : Value
  sp : List Sp
def stpE (s : Stp) : Array Value := #[.int .i64 (s.i : Int), s.v]
def StpG (x : List Pt) (pre : List Stp) (s : Stp) (O : List Nat) (W : World) : Prop := s.i = pre.length ∧ s.i < x.length ∧ s.sp = onAt x s.i ∧ SLs W s.v s.sp O
theorem StpG.own {x : List Pt} (pre : List Stp) (s : Stp) (O : List Nat) (A B : World) (h : StpG x pre s O A) (hk : OwnK O A B) : StpG x pre s O B := ⟨h.1, h.2.1, h.2.2.1, h.2.2.2.own hk⟩
theorem two_news {w : World} {g : Nat} {a b : Value} (h : w.heap[g]? = some (.cells #[a, b] 79)) : ∀ j u, ([a, b] : List Value)[j]? = some u → w.cell? ((⟨g, 0, none⟩ : Addr).add j) = some u := fun j u hj => by
  rw [show (⟨g, 0, none⟩ : Addr).add j = ⟨g, j, none⟩ by rw [Addr.add_mid, Nat.zero_add], Lib.cell_of_heap h]
  rw [← List.getElem?_toArray] at hj; exact hj
theorem keep_grown {O : List Nat} {A B C : World} {row : Option Nat} (h : Below A.heap.size A B) (g : B.grownBy C row) (hr : ∀ r, row = some r → r ∈ O) : KeepX O A C :=
  ⟨g.os.trans h.os, g.tape.trans h.tape, g.output.trans h.output, Nat.le_trans h.size g.size, fun k hk ho => (g.block k (Nat.lt_of_lt_of_le hk h.size) (fun e => ho (hr k e.symm))).trans (h.block k hk)⟩
set_option maxRecDepth 100000 in
set_option maxHeartbeats 6400000 in
theorem steps1 (l Bx b off cap : Nat) (a : Option Addr) (x : List Pv) (n : Nat) (hlen : x.length ≤ 500) (hW : Wf (x.map ptV) 0) (ha : 0 < x.length → a = some ⟨b, off, none⟩) (J : List Stp → List Nat → World → Prop)
    (hJ : ∀ pre O O' A B, J pre O A → KeepX O A B → Grows O O' A B → J pre O' B)
    (hY : ∀ pre O s W1, J pre O W1 → StpG (x.map ptV) pre s O W1 → YieldAt Fence.wide (n - 1) Tryz.prog l (stpE s) W1 fun e W' => e = .returned (.bool true) ∧ J (pre ++ [s]) O W' ∧ OwnK ([Bx, b] ++ O) W1 W')
    (W : World) (hBx : Bx < W.heap.size) (hb : 0 < x.length → b < W.heap.size) (hcx : W.cell? ⟨Bx, 0, none⟩ = some (.slice a x.length cap))
    (hI : ∀ (i : Nat) (p : Pv), x[i]? = some p → W.cell? ⟨b, off + i * 5, none⟩ = some (.int .i64 p.k) ∧ W.cell? ⟨b, off + i * 5 + 1, none⟩ = some (.int .i64 p.n) ∧ W.cell? ⟨b, off + i * 5 + 2, none⟩ = some (.int .i64 p.t) ∧ W.cell? ⟨b, off + i * 5 + 3, none⟩ = some (.string p.s) ∧ W.cell? ⟨b, off + i * 5 + 4, none⟩ = some (.string p.f))
    (h0 : J [] [] W) :
    CallsIn Fence.wide n Tryz.prog 82 #[.func (.yield l) #[] #[], .pointer (some ⟨Bx, 0, none⟩)] W fun e W' => (∃ v, e = .returned v) ∧ ∃ xs O, xs.length = x.length ∧ J xs O W' := by
  have HJJ := hide hJ
  have HYY := hide hY
  have HWf := hide hW
  have HI := hide hI
  have HA := hide ha
  have HB := hide hb
  obtain ⟨N, hN⟩ : ∃ N, N = x.length := ⟨_, rfl⟩
  have HN := hide hN
  rw [← hN] at hlen hcx ⊢
  have n5 : (N : Int) ≤ 500 := by omega
  have n0 : (0 : Int) ≤ (N : Int) := by omega
  obtain ⟨i0, hi, hz0, hz1, hz2⟩ := info_parts in79
  clear hJ hY hW hI ha hb hN
  refine callsIn_of_wp Tryz.func82 rfl trivial ?_ rfl
  simp only [Tryz.ntmps82, List.size_toArray, List.length_cons, List.length_nil, Nat.reduceAdd, Nat.reduceSub, Array.replicate_succ, Array.replicate_zero, List.push_toArray, List.append_toArray, List.nil_append, List.cons_append]
  gi_wp2
  gi_loopw [3, 11] (fun dv i wr => ∃ (k : Nat) (pre : List Stp) (O : List Nat) (dv' : Value), k ≤ N ∧ i = .int .i64 (k : Int) ∧ dv' = dv ∧ Hid (pre.length = k ∧ J pre O wr ∧ wr.ownsRow W.heap.size 79 2 dv' (spAt (x.map ptV) k).length (spC (spAt (x.map ptV) k)) ∧ (∀ g, dv'.ownBlock = some g → g ∈ O) ∧ OwnK [Bx, b] W wr)) (fun _ i _ => N - (intOf i).toNat)
  case atStart => exact ⟨0, [], [], .slice none 0 0, by omega, rfl, rfl, rfl, h0, World.ownsRow_nil _ _ _ _, fun g h => (by cases h), OwnK.refl _ _⟩
  case round =>
    obtain ⟨k, pre, O, dv, hk, rfl, rfl, hh⟩ := hrel
    have HL := hide hh.out.1
    have HJ := hide hh.out.2.1
    have OR := hide hh.out.2.2.1
    have HO := hide hh.out.2.2.2.1
    have HK := hide hh.out.2.2.2.2
    obtain ⟨da, dcap, hdv, hdc⟩ := own_form3 OR.out
    subst hdv
    clear hh
    by_cases hlt : k < N
    · --R
      have j1 : (k : Int) < (N : Int) := by omega
      have j0 : (0 : Int) ≤ (k : Int) := by omega
      obtain ⟨y, hy⟩ : ∃ y, x[k]? = some y := ⟨_, List.getElem?_eq_getElem (by rw [← HN.out]; exact hlt)⟩
      have HY : Hid ((x.map ptV)[k]? = some (ptV y)) := by show _ = _; rw [List.getElem?_map, hy]; rfl
      have hpos : 0 < x.length := by rw [← HN.out]; omega
      obtain rfl := HA.out hpos
      have hbw := HB.out hpos
      obtain ⟨q0, q1, q2, q3, q4⟩ := HI.out k y hy
      have kb : ∀ o, wr.cell? ⟨b, o, none⟩ = W.cell? ⟨b, o, none⟩ := fun o => World.cell?_of_block (a := ⟨b, o, none⟩) (HK.out.block b (by simp))
      have cX : wr.cell? ⟨Bx, 0, none⟩ = some (.slice (some ⟨b, off, none⟩) N cap) := (World.cell?_of_block (a := ⟨Bx, 0, none⟩) (HK.out.block Bx (by simp))).trans hcx
      have c0 := (kb _).trans q0
      have c1 := (kb _).trans q1
      have c2 := (kb _).trans q2
      have c3 := (kb _).trans q3
      have c4 := (kb _).trans q4
      have zr := HK.out.size
      clear q0 q1 q2 q3 q4 hy kb
      obtain ⟨W1, hW1⟩ : ∃ W1, W1 = wr.alloc (.cells #[.int .i64 y.k, .int .i64 y.n, .int .i64 y.t, .string y.s, .string y.f] 38) := ⟨_, rfl⟩
      have hb1 : Below wr.heap.size wr W1 := by rw [hW1]; exact (Below.refl wr.heap.size wr).alloc (Nat.le_refl _) _
      have m1 := works83 y.k y.n y.t y.s y.f W1
      have HW1 := hide hW1
      have HB1 := hide hb1
      clear hW1 hb1
      have htk : takes (ptV y) ≤ (spAt (x.map ptV) k).length := spAt_takes HWf.out HY.out
      have hle : (spAt (x.map ptV) k).length ≤ k := spAt_le _ _
      have HTV : Hid (takes ⟨y.k, [], [], y.n, y.t⟩ = takes (ptV y)) := rfl
      rw [HTV.out] at m1
      obtain ⟨tk, htk2⟩ : ∃ tk, tk = takes (ptV y) := ⟨_, rfl⟩
      have HTK := hide htk2
      rw [← htk2] at m1 htk
      obtain ⟨st, hst⟩ : ∃ st, st = spAt (x.map ptV) k := ⟨_, rfl⟩
      have HST := hide hst
      have O' : Hid (wr.ownsRow W.heap.size 79 2 (.slice da (spAt (x.map ptV) k).length dcap) st.length (spC st)) := by rw [hst]; exact OR.out
      rw [← hst] at htk hle hdc ⊢
      clear htk2 HTV hst OR
      obtain ⟨L, hLL⟩ : ∃ L, L = st.length := ⟨_, rfl⟩
      have HLL := hide hLL
      have O2 : Hid (wr.ownsRow W.heap.size 79 2 (.slice da L dcap) st.length (spC st)) := by rw [hLL, HST.out]; exact HST.out ▸ O'.out
      rw [← hLL] at hle hdc htk ⊢
      clear hLL O'
      obtain ⟨F, hF⟩ : ∃ F, F = L - tk := ⟨_, rfl⟩
      have hF2 : (L : Int) - (tk : Int) = (F : Int) := by omega
      have hFl : F ≤ L := by omega
      have HF := hide hF
      have d5 : (L : Int) ≤ 500 := by omega
      have t0 : (0 : Int) ≤ (tk : Int) := by omega
      have l0 : (0 : Int) ≤ (L : Int) := by omega
      have t5 : (tk : Int) ≤ 500 := by omega
      clear hF
      gi_wp2_with (fail)
      refine ⟨trivial, fun h => by simp [Fence.wide] at h, ?_⟩
      rw [← HW1.out]
      refine (callsIn_wide.2 m1).mono ?_
      rintro e w2 ⟨rfl, hb2⟩
      have HB2 := hide (HB1.out.trans (hb2.mono HB1.out.size))
      clear m1 hb2 HW1 HB1 c0 c1 c2 c3 c4
      have O3 := hide (own_on O2.out HB2.out)
      have HJ2 := hide (HJJ.out pre O O wr w2 HJ.out (KeepX.of_below HB2.out) ⟨fun _ h => h, fun _ h => .inl h⟩)
      obtain ⟨ov, hov, hSL⟩ := sp_from (O := O) O3.out F (by rw [← HLL.out]; exact hFl) (by rw [HLL.out, HST.out]; exact HO.out)
      have HSL := hide hSL
      obtain ⟨oa, on_, ocp, ho⟩ : ∃ a n c, ov = .slice a n c := by obtain ⟨a, b, off, cap, e, -⟩ := hSL; exact ⟨a, _, cap, e⟩
      have hON : on_ = tk := by
        obtain ⟨a, b, off, cap, e, -⟩ := hSL
        rw [ho] at e
        injection e with e1 e2 e3
        rw [e2, List.length_drop, ← HLL.out, HF.out]; omega
      rw [ho] at hov
      subst hON
      have HOV := hide ho
      have hR0 := HYY.out pre O ⟨k, .slice oa on_ ocp, st.drop F⟩ w2 HJ2.out ⟨HL.out.symm, by show k < _; rw [List.length_map, ← HN.out]; exact hlt, by show st.drop F = onAt _ k; rw [onAt_eq HY.out, HF.out, HLL.out, HTK.out, HST.out], by show SLs _ _ _ _; rw [← ho]; exact hSL⟩
      clear hSL ho
      obtain ⟨fn, tmps, assign, body, hy, hR⟩ := hR0
      simp only [stpE] at hy
      have HR := hide hR
      clear hR
      gi_wp2
      refine ⟨fun h => by simp [Fence.wide] at h, HR.out.mono ?_⟩
      rintro e W3 ⟨rfl, hJ3, hk3⟩
      have HO2 : Hid (∀ g, (Value.slice da L dcap).ownBlock = some g → g ∈ O) := by show ∀ g, _ → _; rw [HLL.out, HST.out]; exact HO.out
      have O4 := hide (own_block O3.out (fun g hg => hk3.block g (List.mem_append_right _ (HO2.out g hg))))
      have HK3 : Hid (OwnK [Bx, b] W W3) := (HK.out.trans ⟨HB2.out.size, fun k hk => HB2.out.block k (by simp at hk; rcases hk with rfl | rfl <;> omega)⟩).trans (hk3.mono fun k hk => List.mem_append_left _ hk)
      have HSL3 := hide (HSL.out.own (hk3.mono fun k hk => List.mem_append_right _ hk))
      have HJ3 := hide hJ3
      have z3 := HK3.out.size
      clear HR hy hJ3 hk3 HJ2 HB2 O3 hov HK HSL HJ
      obtain ⟨ta, tcap, htv, hOT, hOB⟩ := sp_to O4.out F (by rw [← HLL.out]; exact hFl)
      have HOB : Hid (∀ g, (Value.slice ta F tcap).ownBlock = some g → g ∈ O) := fun g h => HO2.out g (hOB ▸ h)
      have HFL : Hid ((st.take F).length = F) := by show _ = _; rw [List.length_take, ← HLL.out, Nat.min_eq_left hFl]
      have OT := hide hOT
      clear hOT hOB
      rcases Nat.eq_zero_or_pos on_ with ht0 | ht0
      · subst ht0
        have HNEW : Hid (spAt (x.map ptV) (k + 1) = st.take F ++ [(k, k)]) := by
          show _ = _
          rw [spAt_succ HY.out, ← HST.out]
          unfold spStep
          rw [← HTK.out, ← HLL.out, ← HF.out, List.drop_eq_nil_of_le (by rw [← HLL.out, HF.out]; omega)]
        obtain ⟨X, hX⟩ : ∃ X, X = W3.alloc (.cells #[.int .i64 (k : Int), .int .i64 (k : Int)] 79) := ⟨_, rfl⟩
        have hbx : Below W3.heap.size W3 X := by rw [hX]; exact (Below.refl _ W3).alloc (Nat.le_refl _) _
        have hgx : X.heap[W3.heap.size]? = some (.cells #[.int .i64 (k : Int), .int .i64 (k : Int)] 79) := by rw [hX]; exact heap_alloc_new W3 _
        have m0 : X.cell? ⟨W3.heap.size, 0, none⟩ = some (.int .i64 (k : Int)) := by rw [Lib.cell_of_heap hgx]; rfl
        have m1 : X.cell? ⟨W3.heap.size, 1, none⟩ = some (.int .i64 (k : Int)) := by rw [Lib.cell_of_heap hgx]; rfl
        have OX := hide (own_on OT.out hbx)
        have HBX := hide hbx
        have HX := hide hX
        have zX := hbx.size
        clear hX hbx hgx
        gi_wp2
        rw [← HX.out]
        clear HX
        refine wpIn_wide.2 ?_
        go_region_law ((refine step_append_lies _ (by rfl) _ _ _ (by rfl) W.heap.size 79 i0 _ 2 16 Tryz.underlying77 hi hz0 hz1 hz2 rfl (by omega) (.slice ta F tcap) F _ (by rfl) (by exact OX.out.alloc _) ⟨X.heap.size, 0, none⟩ 1 1 [.int .i64 (k : Int), .int .i64 (k : Int)] (by rfl) (by rfl) (two_news (by exact heap_alloc_new X _)) (by simp [Value.oneCell']) (by omega) (by unfold maxLen; omega) (by omega) (by simp; omega) (X.heap.size + 1) (by simp) ?_; intro gg cap' w7 hown7 hgrow7 hat7 hlt7; have O7 := hide hown7; have G7 := hide hgrow7; have AT7 := hide hat7; have LT7 := hide hlt7; clear hown7 hgrow7 hat7 hlt7))
        all_goals
          have g7 : (X.alloc (.cells #[.int .i64 (k : Int), .int .i64 (k : Int)] 79)).grownBy w7 (Value.slice ta F tcap).ownBlock := ⟨G7.out.os, G7.out.tape, G7.out.output, G7.out.size, G7.out.block⟩
          have kx : KeepX O W3 w7 := keep_grown (HBX.out.alloc zX _) g7 HOB.out
          have J7 := hide (HJJ.out _ O (gg :: O) W3 w7 HJ3.out kx ⟨fun k h => List.mem_cons_of_mem _ h, fun k h => by
            rcases List.mem_cons.1 h with rfl | h
            · rcases AT7.out with h | h
              · exact .inl (HOB.out _ h)
              · exact .inr ⟨by rw [h]; omega, LT7.out⟩
            · exact .inl h⟩)
          have K7 : Hid (OwnK [Bx, b] W w7) := HK3.out.trans ⟨kx.size, fun j hj => by
            have hj2 : j < W.heap.size := by simp at hj; rcases hj with rfl | rfl <;> omega
            rw [g7.block j (by rw [World.size_alloc]; omega) (fun hr => by have := (OX.out.lt j hr.symm).1; omega), Lib.alloc_old X _ _ (by omega)]
            exact HBX.out.block j (by omega)⟩
          have O8 : Hid (w7.ownsRow W.heap.size 79 2 (.slice (some ⟨gg, 0, none⟩) (F + 1) cap') (spAt (x.map ptV) (k + 1)).length (spC (spAt (x.map ptV) (k + 1)))) := by
            show World.ownsRow _ _ _ _ _ _ _
            rw [HNEW.out, List.length_append, HFL.out, spC_append]
            exact O7.out
          clear g7 G7 O7 kx
          gi_wp2
          go_roundw
          case rel => exact ⟨k + 1, pre ++ [_], gg :: O, _, by omega, by go_num, rfl, by rw [List.length_append, HL.out]; rfl, J7.out, O8.out, fun g h => by cases h; exact List.mem_cons_self, K7.out⟩
          case measure => simp [intOf]; omega
      · obtain ⟨s0, hs0⟩ : ∃ s0, (st.drop F)[0]? = some s0 := ⟨_, List.getElem?_eq_getElem (by rw [List.length_drop, ← HLL.out, HF.out]; omega)⟩
        obtain ⟨sa, sb, so, sc, se, sk, sv⟩ := HSL3.out
        have hdl : (st.drop F).length = on_ := by rw [List.length_drop, ← HLL.out, HF.out]; omega
        rw [HOV.out] at se
        injection se with e1 e2 e3
        obtain ⟨-, hsb, hsa⟩ := sk (by rw [hdl]; exact ht0)
        obtain ⟨v0, -⟩ := sv 0 s0 hs0
        rw [Nat.zero_mul, Nat.add_zero] at v0
        rw [hsa] at e1
        subst e1
        have HNEW : Hid (spAt (x.map ptV) (k + 1) = st.take F ++ [(s0.1, k)]) := by
          show _ = _
          rw [spAt_succ HY.out, ← HST.out]
          unfold spStep
          rw [← HTK.out, ← HLL.out, ← HF.out]
          cases hd : st.drop F with
          | nil => rw [hd] at hs0; cases hs0
          | cons a r => rw [hd] at hs0; obtain rfl := Option.some.inj (show some a = some s0 from hs0); rfl
        have o1 : (0 : Int) < (on_ : Int) := by omega
        clear e2 e3 sk sv hsa hdl hs0
        generalize s0.1 = f0 at *
        obtain ⟨X, hX⟩ : ∃ X, X = W3.alloc (.cells #[.int .i64 (f0 : Int), .int .i64 (k : Int)] 79) := ⟨_, rfl⟩
        have hbx : Below W3.heap.size W3 X := by rw [hX]; exact (Below.refl _ W3).alloc (Nat.le_refl _) _
        have hgx : X.heap[W3.heap.size]? = some (.cells #[.int .i64 (f0 : Int), .int .i64 (k : Int)] 79) := by rw [hX]; exact heap_alloc_new W3 _
        have m0 : X.cell? ⟨W3.heap.size, 0, none⟩ = some (.int .i64 (f0 : Int)) := by rw [Lib.cell_of_heap hgx]; rfl
        have m1 : X.cell? ⟨W3.heap.size, 1, none⟩ = some (.int .i64 (k : Int)) := by rw [Lib.cell_of_heap hgx]; rfl
        have OX := hide (own_on OT.out hbx)
        have HBX := hide hbx
        have HX := hide hX
        have zX := hbx.size
        clear hX hbx hgx
        gi_wp2
        rw [← HX.out]
        clear HX
        refine wpIn_wide.2 ?_
        go_region_law ((refine step_append_lies _ (by rfl) _ _ _ (by rfl) W.heap.size 79 i0 _ 2 16 Tryz.underlying77 hi hz0 hz1 hz2 rfl (by omega) (.slice ta F tcap) F _ (by rfl) (by exact OX.out.alloc _) ⟨X.heap.size, 0, none⟩ 1 1 [.int .i64 (f0 : Int), .int .i64 (k : Int)] (by rfl) (by rfl) (two_news (by exact heap_alloc_new X _)) (by simp [Value.oneCell']) (by omega) (by unfold maxLen; omega) (by omega) (by simp; omega) (X.heap.size + 1) (by simp) ?_; intro gg cap' w7 hown7 hgrow7 hat7 hlt7; have O7 := hide hown7; have G7 := hide hgrow7; have AT7 := hide hat7; have LT7 := hide hlt7; clear hown7 hgrow7 hat7 hlt7))
        all_goals
          have g7 : (X.alloc (.cells #[.int .i64 (f0 : Int), .int .i64 (k : Int)] 79)).grownBy w7 (Value.slice ta F tcap).ownBlock := ⟨G7.out.os, G7.out.tape, G7.out.output, G7.out.size, G7.out.block⟩
          have kx : KeepX O W3 w7 := keep_grown (HBX.out.alloc zX _) g7 HOB.out
          have J7 := hide (HJJ.out _ O (gg :: O) W3 w7 HJ3.out kx ⟨fun k h => List.mem_cons_of_mem _ h, fun k h => by
            rcases List.mem_cons.1 h with rfl | h
            · rcases AT7.out with h | h
              · exact .inl (HOB.out _ h)
              · exact .inr ⟨by rw [h]; omega, LT7.out⟩
            · exact .inl h⟩)
          have K7 : Hid (OwnK [Bx, b] W w7) := HK3.out.trans ⟨kx.size, fun j hj => by
            have hj2 : j < W.heap.size := by simp at hj; rcases hj with rfl | rfl <;> omega
            rw [g7.block j (by rw [World.size_alloc]; omega) (fun hr => by have := (OX.out.lt j hr.symm).1; omega), Lib.alloc_old X _ _ (by omega)]
            exact HBX.out.block j (by omega)⟩
          have O8 : Hid (w7.ownsRow W.heap.size 79 2 (.slice (some ⟨gg, 0, none⟩) (F + 1) cap') (spAt (x.map ptV) (k + 1)).length (spC (spAt (x.map ptV) (k + 1)))) := by
            show World.ownsRow _ _ _ _ _ _ _
            rw [HNEW.out, List.length_append, HFL.out, spC_append]
            exact O7.out
          clear g7 G7 O7 kx
          gi_wp2
          go_roundw
          case rel => exact ⟨k + 1, pre ++ [_], gg :: O, _, by omega, by go_num, rfl, by rw [List.length_append, HL.out]; rfl, J7.out, O8.out, fun g h => by cases h; exact List.mem_cons_self, K7.out⟩
          case measure => simp [intOf]; omega
    · obtain rfl : k = N := by omega
      gi_wp2
      go_end0
      exact ⟨⟨_, rfl⟩, pre, O, HL.out, HJ.out⟩
theorem steps_seq (Bx b off cap : Nat) (a : Option Addr) (x : List Pv) (n : Nat) (w : World) (hlen : x.length ≤ 500) (hW : Wf (x.map ptV) 0) (ha : 0 < x.length → b < w.heap.size ∧ a = some ⟨b, off, none⟩) (hBx : Bx < w.heap.size)
    (hcx : w.cell? ⟨Bx, 0, none⟩ = some (.slice a x.length cap))
    (hI : ∀ (i : Nat) (p : Pv), x[i]? = some p → w.cell? ⟨b, off + i * 5, none⟩ = some (.int .i64 p.k) ∧ w.cell? ⟨b, off + i * 5 + 1, none⟩ = some (.int .i64 p.n) ∧ w.cell? ⟨b, off + i * 5 + 2, none⟩ = some (.int .i64 p.t) ∧ w.cell? ⟨b, off + i * 5 + 3, none⟩ = some (.string p.s) ∧ w.cell? ⟨b, off + i * 5 + 4, none⟩ = some (.string p.f)) :
    SeqO Fence.wide n Tryz.prog 82 #[.pointer (some ⟨Bx, 0, none⟩)] stpE (StpG (x.map ptV)) [Bx, b] (fun xs => xs.length = x.length) w := fun l J W hb hJ hY h0 =>
  steps1 l Bx b off cap a x n hlen hW (fun h => (ha h).2) J hJ hY W (Nat.lt_of_lt_of_le hBx hb.size) (fun h => Nat.lt_of_lt_of_le (ha h).1 hb.size) ((hb.cell (p := ⟨Bx, 0, none⟩) hBx).trans hcx)
    (fun i p hp => by
      have hl := (ha (Nat.lt_of_le_of_lt (Nat.zero_le _) (List.getElem?_eq_some_iff.1 hp).1)).1
      obtain ⟨h1, h2, h3, h4, h5⟩ := hI i p hp
      exact ⟨(hb.cell (p := ⟨b, _, none⟩) hl).trans h1, (hb.cell (p := ⟨b, _, none⟩) hl).trans h2, (hb.cell (p := ⟨b, _, none⟩) hl).trans h3, (hb.cell (p := ⟨b, _, none⟩) hl).trans h4, (hb.cell (p := ⟨b, _, none⟩) hl).trans h5⟩) h0
theorem steps_any (v : Value) (hv : ∃ a n cp, v = .slice a n cp) (w : World) : Calls Tryz.prog 42 #[v] w fun e w' => e = .returned (.func (.func 82) #[] #[.pointer (some ⟨w.heap.size, 0, none⟩)]) ∧ w' = w.alloc (.cells #[v] 23) := by
  obtain ⟨a, n, cp, rfl⟩ := hv
  go_enter Tryz.func42, Tryz.ntmps42
  go_wp2
  go_ret
  exact ⟨rfl, rfl⟩
end Go.Proofs.YtldjiieckddhkaaGreatDoor
namespace Go.Proofs.YtldjiieckddhkaaGreatDoor
open Go.RowKit Go.Shelf Go.Sort
variable {P : Program} {ops : Array Oper} {Q : Exit → Act → World → Prop} {md : Region.Mode}
theorem oper_round {n l : Nat} {o : Oper} {a : Act} {w : World} {K : Act → World → Prop} (hnd : ∀ c, o.op ≠ .defer c) (h : o.wp P a w K Q) : o.wpIn (Fence.wide.inRound l) n P a w K Q := by
  refine ⟨fun _ _ => trivial, ?_⟩
  rw [Fence.inRound_round, Oper.semAt_some l _ o hnd]
  unfold Oper.wp at h
  generalize (execOp a.eval o).run P w = r at *
  cases r with
  | ok x w' =>
    cases x with
    | value v => exact h
    | skip => exact h
    | defer d => exact h
    | enter f args => exact ⟨fun h => by simp [Fence.wide] at h, CallsIn.inRound l (callsIn_wide.2 h)⟩
    | row r args => exact ⟨fun h => by simp [Fence.wide] at h, fun c cs _ => let ⟨v, w', h1, h2⟩ := h c cs; ⟨v, w', h1, stepsIn_wide.2 h2⟩⟩
    | _ => exact h.elim
  | halt x w' => cases x <;> first | exact h | exact h.elim
theorem any_round {n l : Nat} (hnd : ∀ (i : Nat) (o : Oper), ops[i]? = some o → ∀ c, o.op ≠ .defer c) (hlo : ¬ LetsOut Q) : ∀ (fuel : Nat) (listed : Array Bool) (a : Act) (w : World), wpAny P md ops Q fuel listed a w → wpAnyIn (Fence.wide.inRound l) n P md ops Q fuel listed a w
  | 0, _, _, _, h => h
  | fuel + 1, listed, a, w, h => ⟨h.1, fun i hi => by
    have h2 := h.2 i hi
    unfold wpOp at h2
    unfold wpOpIn
    cases ho : ops[i]? with
    | none => rw [ho] at h2; exact any_round hnd hlo fuel _ a w h2
    | some o =>
      rw [ho] at h2
      simp only [] at h2 ⊢
      split
      · rename_i hw
        rw [if_pos hw] at h2
        rcases h2 with h2 | h2
        · exact Oper.wpIn_mono (fun a w h => any_round hnd hlo fuel _ a w h) (oper_round (hnd i o ho) h2)
        · exact absurd h2.2 hlo
      · rename_i hw
        rw [if_neg hw] at h2
        exact ⟨fun _ _ => trivial, any_round hnd hlo fuel _ _ w h2⟩⟩
theorem region_round {n l id : Nat} {S : World → Prop} {a : Act} {w : World} (hm : P.follows .mixedOrders = true) (hnd : ∀ (i : Nat) (o : Oper), ops[i]? = some o → ∀ c, o.op ≠ .defer c) (hlo : ¬ LetsOut Q)
    (hS : S w.drew) (h : S w.drew → wpAnyH P .any ops Q S ops.size (Array.replicate ops.size false) a w.drew) : (Code.region id ops true).wpIn (Fence.wide.inRound l) n P Q a w :=
  wpIn_region_any hm (any_round hnd hlo _ _ _ _ (wpAny_of_held _ _ _ _ (h hS)))
end Go.Proofs.YtldjiieckddhkaaGreatDoor
