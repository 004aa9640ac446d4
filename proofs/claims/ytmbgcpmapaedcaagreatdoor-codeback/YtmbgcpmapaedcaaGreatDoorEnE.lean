/- code: Encode; CodeLong. -/
import Derived.Test.YtmbgcpmapaedcaaGreatDoorMg28
import Derived.Test.YtmbgcpmapaedcaaGreatDoorWoW
namespace Go.Proofs.YtmbgcpmapaedcaaGreatDoor
open Go.RowKit
open Wi (It itC itsC fits bodyB oneB)
theorem fit_small {t n : Int} (h : Four.fitB t n = true) : (1 ≤ t ∧ t ≤ 4) ∧ -2147483648 ≤ n ∧ n ≤ 2147483647 := by
  have ht := Four.fit_ty h
  unfold Four.tyB at ht
  simp only [Bool.and_eq_true, decide_eq_true_eq] at ht
  refine ⟨ht, ?_⟩
  have : t = 1 ∨ t = 2 ∨ t = 3 ∨ t = 4 := by omega
  unfold Four.fitB Four.szN at h
  rcases this with rfl | rfl | rfl | rfl
  all_goals simp at h
  all_goals omega
theorem fits_n (n : Int) (h : -2147483648 ≤ n ∧ n ≤ 2147483647) : fits (nIt n) := ⟨by show _ ≤ n; omega, by show n < _; omega⟩
theorem cell_mem : ∀ (ty fi : List Int), (List.zipWith Four.fitB ty fi).all id = true → ∀ y ∈ cellIt ty fi, fits y
  | [], _, _ => fun y hy => by cases hy
  | _ :: _, [], _ => fun y hy => by cases hy
  | t :: ty, f :: fi, h => fun y hy => by
    simp only [List.zipWith_cons_cons, List.all_cons, Bool.and_eq_true, id] at h
    have h1 := fit_small h.1
    have hy' : y ∈ [nIt t, nIt f] ++ cellIt ty fi := hy
    rcases List.mem_append.1 hy' with h2 | h2
    · rcases List.mem_cons.1 h2 with rfl | h2
      · exact fits_n t (by omega)
      · rw [List.mem_singleton.1 h2]; exact fits_n f h1.2
    · exact cell_mem ty fi h.2 y h2
theorem items_fit {x : Img} (h : frameB x = true) : Wi.okL (itP x) := by
  have hF := frame_facts h
  have h' := h
  unfold frameB cellB at h'
  simp only [Bool.and_eq_true, decide_eq_true_eq] at h'
  obtain ⟨_, ⟨_, _, h3⟩, h4, _⟩ := h'
  have hb := (line_facts x.ty.length (x.ins ++ x.outs) [] List.nodup_nil (fun c hc => by cases hc) h4).2
  have hin : ∀ c ∈ x.ins ++ x.outs, -2147483648 ≤ c ∧ c ≤ 2147483647 := fun c hc => by
    have := hb c (by rw [List.append_nil]; exact List.mem_reverse.2 hc)
    have := hF.ty
    omega
  have hcl : (cellIt x.ty x.fi).length ≤ 2 * x.ty.length := by
    unfold cellIt
    have e : ∀ l : List (Int × Int), (l.flatMap fun p => [nIt p.1, nIt p.2]).length = 2 * l.length := fun l => by
      induction l with
      | nil => rfl
      | cons a l ih => rw [List.flatMap_cons, List.length_append, ih]; simp; omega
    rw [e, List.length_zip]; omega
  have h1 := hF.ty
  have h2 := hF.ins
  have h5 := hF.outs
  refine ⟨?_, fun y hy => ?_⟩
  · unfold itP
    simp only [List.length_append, List.length_map, List.length_cons, List.length_nil]
    omega
  · have hap : ∀ {a b : List It}, (∀ y ∈ a, fits y) → (∀ y ∈ b, fits y) → ∀ y ∈ a ++ b, fits y := fun ha hb y hy => (List.mem_append.1 hy).elim (ha y) (hb y)
    have hon : ∀ z, fits z → ∀ y ∈ [z], fits y := fun z hz y hy => by rw [List.mem_singleton.1 hy]; exact hz
    have hmp : ∀ l : List Int, (∀ c ∈ l, -2147483648 ≤ c ∧ c ≤ 2147483647) → ∀ y ∈ l.map nIt, fits y := fun l hl y hy => by
      obtain ⟨c, hc, rfl⟩ := List.mem_map.1 hy
      exact fits_n c (hl c hc)
    have htx : ∀ l, fits (tIt l) := fun l => ⟨by show -9223372036854775808 ≤ (0 : Int); decide, by show (0 : Int) < 9223372036854775808; decide⟩
    have htw : ∀ y ∈ [tIt x.name, nIt (x.ty.length : Int)], fits y := hap (a := [tIt x.name]) (hon _ (htx _)) (hon _ (fits_n _ (by omega)))
    exact hap (hap (hap (hap (hap (hap htw (cell_mem x.ty x.fi h3)) (hon _ (fits_n _ (by omega)))) (hmp _ fun c hc => hin c (List.mem_append_left _ hc))) (hon _ (fits_n _ (by omega)))) (hmp _ fun c hc => hin c (List.mem_append_right _ hc))) (hon _ (htx _)) y hy
theorem body_app (a b : List It) : bodyB (a ++ b) = bodyB a ++ bodyB b := by
  induction a with
  | nil => rfl
  | cons x a ih => rw [List.cons_append, bodyB, bodyB, ih, List.append_assoc]
theorem body_nums (l : List Int) : (bodyB (l.map nIt)).length = 9 * l.length := by
  induction l with
  | nil => rfl
  | cons x a ih => rw [List.map_cons, bodyB, List.length_append, ih, Wi.oneB_length, List.length_cons]; show 9 + _ = _; omega
theorem body_cells : ∀ (ty fi : List Int), fi.length = ty.length → (bodyB (cellIt ty fi)).length = 18 * ty.length
  | [], _, _ => rfl
  | _ :: _, [], h => by simp at h
  | t :: ty, f :: fi, h => by
    have h' : cellIt (t :: ty) (f :: fi) = [nIt t, nIt f] ++ cellIt ty fi := rfl
    rw [h', body_app, List.length_append, body_cells ty fi (by simpa using h), List.length_cons]
    show 18 + _ = _
    omega
theorem body_one (x : It) : (bodyB [x]).length = Wi.ib x := by rw [bodyB, List.length_append, Wi.oneB_length]; rfl
theorem body_len {x : Img} (h : x.fi.length = x.ty.length) : (bodyB (itP x)).length = 3 + x.name.length + 9 * (3 + 2 * x.ty.length + x.ins.length + x.outs.length) + 3 + 11 * x.cd.length := by
  unfold itP
  rw [show [tIt x.name, nIt (x.ty.length : Int)] = [tIt x.name] ++ [nIt (x.ty.length : Int)] from rfl]
  simp only [body_app, List.length_append, body_nums, body_cells _ _ h, body_one]
  have e1 : Wi.ib (tIt x.name) = 3 + x.name.length := by show 3 + (⟨x.name.toArray⟩ : ByteArray).size = _; show 3 + x.name.toArray.size = _; simp
  have e2 : Wi.ib (tIt (cdB x.cd)) = 3 + 11 * x.cd.length := by show 3 + (⟨(cdB x.cd).toArray⟩ : ByteArray).size = _; show 3 + (cdB x.cd).toArray.size = _; rw [List.size_toArray, cdB_length]
  have e3 : ∀ n, Wi.ib (nIt n) = 9 := fun n => rfl
  rw [e1, e2, e3, e3, e3]
  omega
set_option maxRecDepth 100000 in
set_option maxHeartbeats 1600000 in
theorem encode13_any (nm tv fv iv ov cv : Value) (x : Img) (w : World) (hg : GlC w) (hx : Im w nm tv fv iv ov cv x) (hcap : ∀ a n c, tv = .slice a n c → n ≤ c) (hl : ImL x) :
    Calls Tryz.prog 9 #[.agg #[nm, tv, fv, iv, ov, cv]] w fun e w' => e = .returned (.tuple #[.string ⟨(encP x).1.toArray⟩, .int .i64 (encP x).2]) ∧ Below w.heap.size w w' := by
  have HB1 : Hid (∀ A, Below w.heap.size w (w.alloc A)) := fun A => (Below.refl _ _).alloc (Nat.le_refl _) _
  have nxt : Hid (∀ A W, Below (w.alloc A).heap.size (w.alloc A) W → Below w.heap.size w W) := fun A W h => (HB1.out A).trans (h.mono (by simp))
  have m1 : Hid (∀ W, Below w.heap.size w W → Calls Tryz.prog 7 #[.agg #[nm, tv, fv, iv, ov, cv]] W fun e w' => e = .returned (.tuple #[.int .i64 (chkP x).1, .int .i64 (chkP x).2]) ∧ Below W.heap.size W w') := fun W hb => check_any nm tv fv iv ov cv x W (hg.on hb hg.lt) (hx.on hb) hcap hl
  have HE : Hid (encP x = if (chkP x).2 = 0 then (Wi.encL (itP x), Wi.encE (itP x)) else ([], (chkP x).2)) := rfl
  by_cases h0 : (chkP x).2 = 0
  · have hf := chk_ok h0
    have hF := frame_facts hf
    have m2 : Hid (∀ W, Below w.heap.size w W → Calls Tryz.prog 23 #[.agg #[nm, tv, fv, iv, ov, cv]] W fun e w' => ∃ v', e = .returned v' ∧ Wi.Lst w' v' (itP x) ∧ Below W.heap.size W w') := fun W hb => items_any nm tv fv iv ov cv x W (hx.on hb) hF.ty hF.fi hF.ins hF.outs hF.c1 hF.c2
    have m3 : Hid (∀ W v, Wi.Lst W v (itP x) → Calls Tryz.prog 22 #[v] W fun e w' => e = .returned (.tuple #[.string ⟨(Wi.encL (itP x)).toArray⟩, .int .i64 (Wi.encE (itP x))]) ∧ Below W.heap.size W w') := fun W v hL => Wi.encode_any v (itP x) W hL (items_fit hf)
    have HR : Hid (encP x = (Wi.encL (itP x), Wi.encE (itP x))) := by show _ = _; rw [HE.out, if_pos h0]
    rw [h0] at m1
    rw [HR.out]
    generalize (chkP x).1 = c1 at *
    generalize (⟨(Wi.encL (itP x)).toArray⟩ : ByteArray) = R at *
    generalize Wi.encE (itP x) = r at *
    clear HE h0 hf hF hg hx hcap hl HR
    go_enter Tryz.func9, Tryz.ntmps9
    go_wp2_with (first | (go_at_call 7; go_loud (refine (m1.out _ (HB1.out _)).mono ?_; rintro e w1 ⟨rfl, b1⟩; have B1 := hide (nxt.out _ _ b1); have q0 := (b1.cell (p := ⟨w.heap.size, 0, none⟩) (by simp)); have q1 := (b1.cell (p := ⟨w.heap.size, 1, none⟩) (by simp)); have q2 := (b1.cell (p := ⟨w.heap.size, 2, none⟩) (by simp)); have q3 := (b1.cell (p := ⟨w.heap.size, 3, none⟩) (by simp)); have q4 := (b1.cell (p := ⟨w.heap.size, 4, none⟩) (by simp)); have q5 := (b1.cell (p := ⟨w.heap.size, 5, none⟩) (by simp)); clear b1; simp [go_sem] at q0 q1 q2 q3 q4 q5)) | (go_at_call 23; refine (m2.out _ B1.out).mono ?_; rintro e w2 ⟨v2, rfl, hL2, b2⟩; have B2 := hide (B1.out.trans (b2.mono B1.out.size)); have M3 := hide (m3.out _ _ hL2); clear b2 hL2 q0 q1 q2 q3 q4 q5) | (go_at_call 22; refine M3.out.mono ?_; rintro e w3 ⟨rfl, b3⟩; have B3 := hide (B2.out.trans (b3.mono B2.out.size)); clear b3))
    go_ret2
    exact ⟨rfl, B3.out⟩
  · have HR : Hid (encP x = ([], (chkP x).2)) := by show _ = _; rw [HE.out, if_neg h0]
    rw [HR.out]
    have hb : ((chkP x).2 == 0) = false := by simpa using h0
    generalize (chkP x).1 = c1 at *
    generalize (chkP x).2 = c2 at *
    clear HE hg hx hcap hl HR
    go_enter Tryz.func9, Tryz.ntmps9
    go_wp2_with (go_at_call 7; refine (m1.out _ (HB1.out _)).mono ?_; rintro e w1 ⟨rfl, b1⟩; have B1 := hide (nxt.out _ _ b1); clear b1)
    go_ret2
    exact ⟨rfl, B1.out⟩
end Go.Proofs.YtmbgcpmapaedcaaGreatDoor
