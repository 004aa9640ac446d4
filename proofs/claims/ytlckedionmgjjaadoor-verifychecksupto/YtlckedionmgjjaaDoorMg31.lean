/- VerifyChecks: the document's Check, Deep, Reached. | verify's laws: of, works. | verify's laws: works. -/
import Derived.Test.YtlckedionmgjjaaDoorVzW
import Derived.Test.YtlckedionmgjjaaDoorCpJ
import Derived.Test.YtlckedionmgjjaaDoorMg19
namespace Go.Proofs.YtlckedionmgjjaaDoor
open Go.RowKit
theorem blk_zero : ∀ (l : List Bool), cnt l = 0 → leastS l = none
  | [], _ => rfl
  | true :: r, h => by
    have : 1 + cnt r = 0 := h
    omega
  | false :: r, h => by
    have h1 : 0 + cnt r = 0 := h
    show (leastS r).map (· + 1) = none
    rw [blk_zero r (by omega)]; rfl
/-- a walk that comes to its end has none that waits -/
theorem run_done {ty : List Int} {cd : List Ins} {n : Nat} (hn : cd.length = n) (hty : ∀ t ∈ ty, 1 ≤ t ∧ t ≤ 4) (hi : ∀ k, k < n → mayI ty n (insAt cd k) = true) : ∀ (c : Nat) (m m' : Vs), GoodS n m → muS m ≤ c → runS ty cd c m = .inl m' → leastS m'.wt = none ∧ GoodS n m'
  | 0, m, m', hg, hm, h => by
    obtain rfl := Sum.inl.inj h
    unfold muS at hm
    exact ⟨blk_zero _ (by omega), hg⟩
  | c + 1, m, m', hg, hm, h => by
    cases hl : leastS m.wt with
    | none =>
      rw [run_none hl] at h
      obtain rfl := Sum.inl.inj h
      exact ⟨hl, hg⟩
    | some j =>
      rw [run_some hl] at h
      obtain ⟨hg1, -⟩ := least_get _ _ hl
      have hjn : j < n := by have := (List.getElem?_eq_some_iff.1 hg1).1; rw [hg.wt] at this; exact this
      obtain ⟨og, omu⟩ := off_good hg hg1
      cases hlk : lookS ty cd (offS m j) j with
      | inr q => rw [hlk] at h; cases h
      | inl m1 =>
        rw [hlk] at h
        obtain ⟨g1, u1⟩ := look_good hn og hjn hty (hi j hjn) hlk
        exact run_done hn hty hi c m1 m' g1 (by omega) h
theorem walk_done {x : Img} {m : Vs} (h : walkP x = .inl m) : leastS m.wt = none ∧ GoodS x.cd.length m := by
  unfold walkP at h
  split at h
  · rename_i h0
    have hF := frame_facts (chk_ok h0)
    exact run_done rfl (types_ok h0) (ins_may h0) _ _ _ (start_good _) (start_mu hF.c1) h
  · cases h
theorem rch_st {n : Nat} {m : Vs} (hl : leastS m.wt = none) (hg : GoodS n m) : (stL n m).map (fun s => s == 2) = rchL m := by
  refine List.ext_getElem? fun i => ?_
  unfold rchL
  rw [List.getElem?_map, List.getElem?_map]
  rcases Nat.lt_or_ge i n with hi | hi
  · rw [stL_get _ hi, List.getElem?_eq_getElem (by rw [hg.rs]; exact hi)]
    have h2 := least_none _ hl i
    have h3 : m.at i = m.rs[i]'(by rw [hg.rs]; exact hi) := by
      unfold Vs.at
      rw [List.getD_eq_getElem?_getD, List.getElem?_eq_getElem (by rw [hg.rs]; exact hi)]; rfl
    rw [← h3]
    unfold stV
    rw [h2]
    cases m.at i <;> rfl
  · rw [List.getElem?_eq_none (by rw [stL_length]; exact hi), List.getElem?_eq_none (by rw [hg.rs]; exact hi)]; rfl
theorem RnQ.at {xs : List Value} {n : Nat} {w : World} {R : Vs ⊕ (Int × Int)} {e : Ending} {w' : World} (h : RnQ xs n w R e w') : ∃ p, e = .returned (.tuple #[.pointer p, .int .i64 (errR R).1, .int .i64 (errR R).2]) ∧ Below w.heap.size w w' := by
  cases R with
  | inl m => obtain ⟨g, _, _, h1, _, h2⟩ := h; exact ⟨_, h1, h2⟩
  | inr q => exact ⟨_, h⟩
set_option maxRecDepth 100000 in
set_option maxHeartbeats 1600000 in
theorem rvcheck_any (nm tv fv iv ov cv : Value) (x : Img) (w : World) (hx : Im w nm tv fv iv ov cv x) (hl : ImL x) (hio : x.ins.length + x.outs.length ≤ 20000000000000) :
    Calls Tryd.prog 8 #[.agg #[nm, tv, fv, iv, ov, cv]] w fun e w' => e = .returned (.tuple #[.int .i64 (errP x).1, .int .i64 (errP x).2]) ∧ Below w.heap.size w w' := by
  have HB : Hid (∀ A, Below w.heap.size w (w.alloc A)) := fun A => (Below.refl _ _).alloc (Nat.le_refl _) _
  have m18 : Hid (∀ W, Below w.heap.size w W → Calls Tryd.prog 18 #[.agg #[nm, tv, fv, iv, ov, cv]] W fun e w' => ∃ p, e = .returned (.tuple #[.pointer p, .int .i64 (errP x).1, .int .i64 (errP x).2]) ∧ Below W.heap.size W w') := fun W hb =>
    (run_any nm tv fv iv ov cv x W (hx.on hb) hl hio).mono fun _ _ h => h.at
  clear hx hl hio
  generalize errP x = q at *
  obtain ⟨q1, q2⟩ := q
  go_enter Tryd.func8, Tryd.ntmps8
  go_wp2_with (go_at_call 18; refine (m18.out _ (HB.out _)).mono ?_; rintro e w1 ⟨p, rfl, b1⟩; have B1 := hide ((HB.out _).trans (b1.mono (by simp))); clear b1)
  go_ret2
  exact ⟨rfl, B1.out⟩
set_option maxRecDepth 100000 in
set_option maxHeartbeats 1600000 in
theorem rvdeep_any (nm tv fv iv ov cv : Value) (x : Img) (w : World) (hx : Im w nm tv fv iv ov cv x) (hl : ImL x) (hio : x.ins.length + x.outs.length ≤ 20000000000000) :
    Calls Tryd.prog 10 #[.agg #[nm, tv, fv, iv, ov, cv]] w fun e w' => e = .returned (.tuple #[.int .i64 (deepP x).1, .int .i64 (deepP x).2]) ∧ Below w.heap.size w w' := by
  have HB : Hid (∀ A, Below w.heap.size w (w.alloc A)) := fun A => (Below.refl _ _).alloc (Nat.le_refl _) _
  have m18 : Hid (∀ W, Below w.heap.size w W → Calls Tryd.prog 18 #[.agg #[nm, tv, fv, iv, ov, cv]] W fun e w' => RnQ [nm, tv, fv, iv, ov, cv] x.cd.length W (walkP x) e w') := fun W hb =>
    run_any nm tv fv iv ov cv x W (hx.on hb) hl hio
  have HD : Hid (deepP x = match walkP x with | .inl m => ((m.dp : Int), 0) | .inr e => (0, e.2)) := rfl
  have hne : ∀ q, walkP x = .inr q → (q.2 != 0) = true := fun q hq => walk_err hq
  cases hw : walkP x with
  | inl m =>
    rw [hw] at m18 HD
    rw [HD.out]
    clear hx hl hio hw HD hne
    go_enter Tryd.func10, Tryd.ntmps10
    go_wp2_with (go_at_call 18; refine (m18.out _ (HB.out _)).mono ?_; rintro e w1 ⟨g, g1, g2, rfl, hm, b1⟩; have B1 := hide ((HB.out _).trans (b1.mono (by simp))); have c8 : w1.cell? ⟨g, 8, none⟩ = some (.int .i64 (m.dp : Int)) := hm.ob.cell 8 rfl; clear b1 hm)
    go_ret2
    exact ⟨rfl, B1.out⟩
  | inr q =>
    have hb := hne q hw
    rw [hw] at m18 HD
    rw [HD.out]
    clear hx hl hio hw HD hne
    obtain ⟨q1, q2⟩ := q
    have hb : (q2 != 0) = true := hb
    go_enter Tryd.func10, Tryd.ntmps10
    go_wp2_with (go_at_call 18; refine (m18.out _ (HB.out _)).mono ?_; rintro e w1 ⟨rfl, b1⟩; have B1 := hide ((HB.out _).trans (b1.mono (by simp))); clear b1)
    go_ret2
    exact ⟨rfl, B1.out⟩
theorem own_mono {w : World} {b b' e s n : Nat} {v : Value} {xs : List Value} (h : w.ownsRow b e s v n xs) (hb : b' ≤ b) : w.ownsRow b' e s v n xs :=
  ⟨h.1, h.2.imp id fun ⟨g, cap, cur, h1, h2, h3⟩ => ⟨g, cap, cur, h1, Nat.le_trans hb h2, h3⟩⟩
/-- a Boolean more -/
theorem app_bool (w : World) (base k : Nat) (v : Value) (xs : List Value) (hown : w.ownsRow base 4 1 v k xs) (b : Bool) (hk : k ≤ 4096) (hbase : base ≤ w.heap.size) :
    ∃ v' w', (Builtin.append_ #[31, 31] 31 #[v, .slice (some ⟨w.heap.size, 0, none⟩) 1 1]).run Tryd.prog (w.alloc (.cells #[.bool b] 4)) = .ok v' w' ∧ w'.ownsRow base 4 1 v' (k + 1) (xs ++ [.bool b]) ∧ Below base w w' := by
  obtain ⟨i0, hi, hz0, hz1, hz2⟩ := info_parts info4b
  have ho : (w.alloc (.cells #[.bool b] 4)).ownsRow base 4 1 v k xs := own_on hown ((Below.refl _ _).alloc (Nat.le_refl _) _)
  obtain ⟨v', w', hr, h2, h3, -⟩ := run_append_own_wide (P := Tryd.prog) (w.alloc (.cells #[.bool b] 4)) base 31 31 4 i0 _ 1 1 Tryd.underlying31 hi hz0 hz1 hz2 rfl (by omega) v k xs ho ⟨w.heap.size, 0, none⟩ 1 1 [.bool b] rfl
    (fun j u hu => by
      match j, hu with
      | 0, hu => rw [addr_at]; exact (Lib.cell_of_heap (j := 0 + 0) (heap_alloc_new w _)).trans hu)
    (fun u hu => by obtain rfl := List.mem_singleton.1 hu; rfl) (by unfold maxLen; omega) (by omega) (by simp; omega)
  exact ⟨v', w', hr, h2, ((Below.refl base w).alloc hbase _).grown h3 (by simp; omega) fun k hk => (ho.lt k hk).1⟩
set_option maxRecDepth 100000 in
set_option maxHeartbeats 3200000 in
theorem rvreached_any (nm tv fv iv ov cv : Value) (x : Img) (w : World) (hx : Im w nm tv fv iv ov cv x) (hl : ImL x) (hio : x.ins.length + x.outs.length ≤ 20000000000000) :
    Calls Tryd.prog 12 #[.agg #[nm, tv, fv, iv, ov, cv]] w fun e w' => ∃ v, e = .returned (.tuple #[v, .int .i64 (rchP x).2]) ∧ Below w.heap.size w w' ∧ w'.ownsRow w.heap.size 4 1 v (rchP x).1.length ((rchP x).1.map Value.bool) ∧ (rchP x).1.length ≤ 4096 := by
  have HB : Hid (∀ A, Below w.heap.size w (w.alloc A)) := fun A => (Below.refl _ _).alloc (Nat.le_refl _) _
  have m18 : Hid (∀ W, Below w.heap.size w W → Calls Tryd.prog 18 #[.agg #[nm, tv, fv, iv, ov, cv]] W fun e w' => RnQ [nm, tv, fv, iv, ov, cv] x.cd.length W (walkP x) e w') := fun W hb =>
    run_any nm tv fv iv ov cv x W (hx.on hb) hl hio
  have HD : Hid (rchP x = match walkP x with | .inl m => (rchL m, 0) | .inr e => ([], e.2)) := rfl
  have hne : ∀ q, walkP x = .inr q → (q.2 != 0) = true := fun q hq => walk_err hq
  have hdn : ∀ m, walkP x = .inl m → leastS m.wt = none ∧ GoodS x.cd.length m := fun m hm => walk_done hm
  obtain ⟨n, hn⟩ : ∃ n, n = x.cd.length := ⟨_, rfl⟩
  rw [← hn] at m18 hdn
  cases hw : walkP x with
  | inl m =>
    obtain ⟨hd1, hd2⟩ := hdn m hw
    have hrs := rch_st hd1 hd2
    rw [hw] at m18 HD
    rw [HD.out]
    have HL : Hid (∀ k, k < n → (stL n m)[k]? = some (stV m k)) := fun k hk => stL_get m hk
    obtain ⟨bl, hbl⟩ : ∃ bl : List Value, bl = (stL n m).map (fun s => Value.bool (s == 2)) := ⟨_, rfl⟩
    have HBL : Hid (bl = (rchL m).map Value.bool ∧ (rchL m).length = n ∧ bl.length = n ∧ ∀ k, k < n → bl[k]? = some (.bool (stV m k == 2))) := by
      refine ⟨by rw [hbl, ← hrs, List.map_map]; rfl, by rw [← hrs, List.length_map, stL_length], by rw [hbl, List.length_map, stL_length], fun k hk => by rw [hbl, List.getElem?_map, stL_get _ hk]; rfl⟩
    clear hx hl hio hw HD hne hdn hn hd1 hd2 hrs hbl
    go_enter Tryd.func12, Tryd.ntmps12
    go_wp2_with (go_at_call 18; refine (m18.out _ (HB.out _)).mono ?_; rintro e w1 ⟨g, g1, g2, rfl, hm, b1⟩; have B1 := hide ((HB.out _).trans (b1.mono (by simp))); have M1 := hide hm; clear b1 hm)
    go_loopw [7, 8] (fun o i wr => ∃ k : Nat, k ≤ n ∧ i = .int .i64 (k : Int) ∧ Hid (wr.ownsRow w1.heap.size 4 1 o k (bl.take k) ∧ Below w1.heap.size w1 wr)) (fun _ i _ => n - (intOf i).toNat)
    case atStart => exact ⟨0, Nat.zero_le _, rfl, ⟨by simp, .inl ⟨rfl, rfl⟩⟩, Below.refl _ _⟩
    case round =>
      obtain ⟨k, hk, rfl, hh⟩ := hrel
      obtain ⟨ho, hb⟩ := hh.out
      have hm := M1.out.on hb
      have c7 : wr.cell? ⟨g, 7, none⟩ = some (.slice (some ⟨g2, 0, none⟩) n n) := hm.ob.cell 7 rfl
      have k0 : (0 : Int) ≤ (k : Int) := by omega
      have n9 : (n : Int) ≤ 4096 := by have := hm.len; omega
      have HOW := hide ho
      have HBW := hide hb
      by_cases hlt : k < n
      · have j1 : (k : Int) < (n : Int) := by omega
        have cs : wr.cell? ⟨g2, k, none⟩ = some (.int .i64 (stV m k)) := hm.st.cell k (by rw [intC_get, stL_get _ hlt]; rfl)
        obtain ⟨v', w', r1, o1, b1⟩ := app_bool wr w1.heap.size k _ _ ho (stV m k == 2) (by omega) hb.size
        have HO1 : Hid (w'.ownsRow w1.heap.size 4 1 v' (k + 1) (bl.take (k + 1))) := by
          show World.ownsRow _ _ _ _ _ _ _
          have e : bl.take (k + 1) = bl.take k ++ [.bool (stV m k == 2)] := by
            rw [List.take_add_one, HBL.out.2.2.2 k hlt]; rfl
          rw [e]; exact o1
        have HB2 := hide (hb.trans b1)
        clear hm ho hb hh o1 b1
        go_wp2_with (at_builtin; refine wpl_app3 rfl (.tmp 27) (.tmp 36) 31 rfl _ _ v' w' (by rfl) (by rfl) r1 ?_)
        go_roundw
        case rel => exact ⟨k + 1, by omega, by go_num, HO1.out, HB2.out⟩
        case measure => simp [intOf]; omega
      · have hkn : k = n := by omega
        subst hkn
        have j1 : ¬ (k : Int) < (k : Int) := by omega
        clear hm ho hb hh
        go_wp2
        go_ret2
        have hbl := HBL.out
        have ho := HOW.out
        rw [List.take_of_length_le (by rw [hbl.2.2.1]; exact Nat.le_refl _)] at ho
        refine ⟨_, rfl, B1.out.trans (HBW.out.mono B1.out.size), ?_, by rw [hbl.2.1]; omega⟩
        rw [hbl.2.1, ← hbl.1]
        exact own_mono ho B1.out.size
  | inr q =>
    have hb := hne q hw
    rw [hw] at m18 HD
    rw [HD.out]
    clear hx hl hio hw HD hne hdn hn
    obtain ⟨q1, q2⟩ := q
    have hb : (q2 != 0) = true := hb
    go_enter Tryd.func12, Tryd.ntmps12
    go_wp2_with (go_at_call 18; refine (m18.out _ (HB.out _)).mono ?_; rintro e w1 ⟨rfl, b1⟩; have B1 := hide ((HB.out _).trans (b1.mono (by simp))); clear b1)
    go_ret2
    exact ⟨_, rfl, B1.out, ⟨by simp, .inl ⟨rfl, rfl⟩⟩, by simp⟩
end Go.Proofs.YtlckedionmgjjaaDoor
namespace Go.Proofs.YtlckedionmgjjaaDoor
open Go.RowKit
def ofP (l : List Ins) : Img := ⟨[80], [1, 2], [0, 0], [], [], l⟩
theorem il2n (w : World) (x y : Int) (T : TypeId) : ILst (w.alloc (.cells #[.int .i64 x, .int .i64 y] T)) (.slice (some ⟨w.heap.size, 0, none⟩) 2 2) [x, y] :=
  ⟨_, w.heap.size, 0, 2, rfl, fun _ => ⟨by simp, rfl⟩, fun i z h => by
    match i, h with
    | 0, h => obtain rfl := Option.some.inj h; exact (Lib.cell_of_heap (j := 0) (heap_alloc_new w _)).trans rfl
    | 1, h => obtain rfl := Option.some.inj h; exact (Lib.cell_of_heap (j := 1) (heap_alloc_new w _)).trans rfl⟩
set_option maxRecDepth 100000 in
set_option maxHeartbeats 1600000 in
theorem of_any (v : Value) (l : List Ins) (w : World) (hv : ISt w v l) :
    Calls Tryd.prog 16 #[v] w fun e w' => ∃ ta fa, e = .returned (.agg #[.string ⟨#[80]⟩, .slice (some ⟨ta, 0, none⟩) 2 2, .slice (some ⟨fa, 0, none⟩) 2 2, .slice none 0 0, .slice none 0 0, v]) ∧
      Im w' (.string ⟨#[80]⟩) (.slice (some ⟨ta, 0, none⟩) 2 2) (.slice (some ⟨fa, 0, none⟩) 2 2) (.slice none 0 0) (.slice none 0 0) v (ofP l) ∧ Below w.heap.size w w' := by
  have HV := hide hv
  obtain ⟨va, vc, rfl⟩ := hv.shape
  obtain ⟨n, hn⟩ : ∃ n, n = l.length := ⟨_, rfl⟩
  rw [← hn] at HV ⊢
  clear hv hn
  go_enter Tryd.func16, Tryd.ntmps16
  go_wp2
  have Z1 := Four.two_at w (.cells #[.string ⟨#[80]⟩, .slice (some ⟨w.heap.size + 1, 0, none⟩) 2 2, .slice (some ⟨w.heap.size + 1 + 1, 0, none⟩) 2 2, .slice none 0 0, .slice none 0 0, .slice va n vc] 26) (.cells #[.int .i64 1, .int .i64 2] 3)
  have B3 : ∀ A B C, Below w.heap.size w (((w.alloc A).alloc B).alloc C) := fun A B C => (((Below.refl _ _).alloc (Nat.le_refl _) _).alloc (by simp) _).alloc (by simp; omega) _
  refine bodyPost_ret (results_cell_row rfl _ _ w.heap.size 26 #[.string ⟨#[80]⟩, .slice (some ⟨w.heap.size + 1, 0, none⟩) 2 2, .slice (some ⟨w.heap.size + 1 + 1, 0, none⟩) 2 2, .slice none 0 0, .slice none 0 0, .slice va n vc] (0, 0) _ rfl ((heap_alloc_old _ _ (by simp; omega)).trans ((heap_alloc_old _ _ (by simp)).trans (heap_alloc_new w _))) Tryd.underlying26 rfl (by kernel_rfl)) rfl ?_
  refine ⟨_, _, rfl, ⟨rfl, ?_, ?_, ILst.nil _ _, ILst.nil _ _, HV.out.on (B3 _ _ _)⟩, B3 _ _ _⟩
  · have := (il2n (w.alloc (.cells #[.string ⟨#[80]⟩, .slice (some ⟨w.heap.size + 1, 0, none⟩) 2 2, .slice (some ⟨w.heap.size + 1 + 1, 0, none⟩) 2 2, .slice none 0 0, .slice none 0 0, .slice va n vc] 26)) 1 2 3)
    have := this.on ((Below.refl _ _).alloc (Nat.le_refl _) (.cells #[.int .i64 0, .int .i64 0] 2))
    simpa [ofP] using this
  · have := il2n ((w.alloc (.cells #[.string ⟨#[80]⟩, .slice (some ⟨w.heap.size + 1, 0, none⟩) 2 2, .slice (some ⟨w.heap.size + 1 + 1, 0, none⟩) 2 2, .slice none 0 0, .slice none 0 0, .slice va n vc] 26)).alloc (.cells #[.int .i64 1, .int .i64 2] 3)) 0 0 2
    simpa [ofP] using this
theorem works1 : errP (ofP [⟨1, 2, 0, 0⟩, ⟨12, 0, 0, 0⟩]) = (0, 0) := by decide +kernel
theorem works2 : deepP (ofP [⟨1, 2, 0, 0⟩, ⟨12, 0, 0, 0⟩]) = (1, 0) := by decide +kernel
theorem works3 : errP (ofP [⟨6, 1, 2, 0⟩, ⟨12, 0, 0, 0⟩]) = (0, 151) := by decide +kernel
theorem works4 : errP (ofP [⟨1, 2, 0, 0⟩]) = (0, 150) := by decide +kernel
theorem works5 : errP (ofP [⟨2, 0, 0, 0⟩, ⟨10, 0, 0, 0⟩, ⟨12, 0, 0, 0⟩]) = (0, 0) := by decide +kernel
theorem ISt.of_ob {w : World} {g : Nat} {l : List Ins} (h : Ob w g 38 (inC l)) : ISt w (.slice (some ⟨g, 0, none⟩) l.length l.length) l :=
  ⟨_, g, 0, l.length, rfl, fun _ => ⟨h.lt, rfl⟩, fun i q hq => by
    obtain ⟨h0, h1, h2, h3⟩ := inC_get l i q hq
    rw [Nat.zero_add]
    exact ⟨h.cell _ h0, h.cell _ h1, h.cell _ h2, h.cell _ h3⟩⟩
theorem ob_step {W W' : World} {A : Obj} {b : Nat} {T : TypeId} {cs : List Value} (h : Ob W b T cs) (hb : Below (W.alloc A).heap.size (W.alloc A) W') : Ob W' b T cs :=
  (h.on ((Below.refl _ _).alloc (Nat.le_refl _) A) h.lt).on hb (by have := h.lt; simp; omega)
theorem below_step {w W W' : World} {A : Obj} (h : Below w.heap.size w W) (hb : Below (W.alloc A).heap.size (W.alloc A) W') : Below w.heap.size w W' :=
  (h.alloc h.size A).trans (hb.mono (h.alloc h.size A).size)
theorem ist_new {W : World} {g n : Nat} {cs : Array Value} {l : List Ins} (hg : g = W.heap.size) (hc : cs = (inC l).toArray) (hn : n = l.length) : ISt (W.alloc (.cells cs 38)) (.slice (some ⟨g, 0, none⟩) n n) l := by
  subst hg hc hn
  exact ISt.of_ob (Ob.new W 38 (inC l))
theorem ofP_L {l : List Ins} (h : l.length ≤ 100000) : ImL (ofP l) := ⟨by simp [ofP], by simp [ofP], by simp [ofP], by simp [ofP], by show l.length ≤ _; omega⟩
/-- an image made of these instructions, looked at -/
theorem check_of {v : Value} {l : List Ins} {w W : World} {ta fa : Nat} (hg : GlC w) (hz : Tz w) (hb : Below w.heap.size w W) (hl : l.length ≤ 100000) (hi : Im W (.string ⟨#[80]⟩) (.slice (some ⟨ta, 0, none⟩) 2 2) (.slice (some ⟨fa, 0, none⟩) 2 2) (.slice none 0 0) (.slice none 0 0) v (ofP l)) {q : Int × Int} (hq : errP (ofP l) = q) :
    Calls Tryd.prog 7 #[.agg #[.string ⟨#[80]⟩, .slice (some ⟨ta, 0, none⟩) 2 2, .slice (some ⟨fa, 0, none⟩) 2 2, .slice none 0 0, .slice none 0 0, v]] W fun e w' => e = .returned (.tuple #[.int .i64 q.1, .int .i64 q.2]) ∧ Below W.heap.size W w' := by
  subst hq
  exact vcheck_any _ _ _ _ _ _ (ofP l) W (hg.on hb hg.lt) (hz.on hb hz.lt) hi (fun a n c e => by injection e with _ e1 e2; omega) (ofP_L hl)
theorem deep_of {v : Value} {l : List Ins} {w W : World} {ta fa : Nat} (hg : GlC w) (hz : Tz w) (hb : Below w.heap.size w W) (hl : l.length ≤ 100000) (hi : Im W (.string ⟨#[80]⟩) (.slice (some ⟨ta, 0, none⟩) 2 2) (.slice (some ⟨fa, 0, none⟩) 2 2) (.slice none 0 0) (.slice none 0 0) v (ofP l)) {q : Int × Int} (hq : deepP (ofP l) = q) :
    Calls Tryd.prog 9 #[.agg #[.string ⟨#[80]⟩, .slice (some ⟨ta, 0, none⟩) 2 2, .slice (some ⟨fa, 0, none⟩) 2 2, .slice none 0 0, .slice none 0 0, v]] W fun e w' => e = .returned (.tuple #[.int .i64 q.1, .int .i64 q.2]) ∧ Below W.heap.size W w' := by
  subst hq
  exact vdeep_any _ _ _ _ _ _ (ofP l) W (hg.on hb hg.lt) (hz.on hb hz.lt) hi (fun a n c e => by injection e with _ e1 e2; omega) (ofP_L hl)
end Go.Proofs.YtlckedionmgjjaaDoor
namespace Go.Proofs.YtlckedionmgjjaaDoor
open Go.RowKit
set_option maxRecDepth 100000 in
set_option maxHeartbeats 3200000 in
theorem works_any (w : World) (hg : GlC w) (hz : Tz w) : Calls Tryd.prog 14 #[] w fun e w' => e = .returned (.bool true) ∧ Below w.heap.size w w' := by
  have P0 : Hid (∀ A, Ob ((w.alloc (.cells #[.int .i64 1, .int .i64 2, .int .i64 0, .int .i64 0] 38)).alloc A) w.heap.size 38 [.int .i64 1, .int .i64 2, .int .i64 0, .int .i64 0]) := fun A => (Ob.new w 38 _).on ((Below.refl _ _).alloc (Nat.le_refl _) _) (by simp)
  have E0 : Hid (∀ A, Ob ((w.alloc A).alloc (.cells #[.int .i64 12, .int .i64 0, .int .i64 0, .int .i64 0] 38)) (w.heap.size + 1) 38 [.int .i64 12, .int .i64 0, .int .i64 0, .int .i64 0]) := fun A => Four.two_at w _ _
  have B0 : Hid (∀ A C, Below w.heap.size w ((w.alloc A).alloc C)) := fun A C => ((Below.refl _ _).alloc (Nat.le_refl _) _).alloc (by simp) _
  have G := hide hg
  have Z := hide hz
  clear hg hz
  go_enter Tryd.func14, Tryd.ntmps14
  go_wp2_with fail
  refine (of_any _ [⟨1, 2, 0, 0⟩, ⟨12, 0, 0, 0⟩] _ (ist_new (by simp) (by rfl) (by rfl))).mono ?_
  rintro e v0 ⟨ta0, fa0, rfl, im0, bo0⟩
  have PB0 := hide (ob_step (P0.out _) bo0)
  have EB0 := hide (ob_step (E0.out _) bo0)
  have BB0 := hide (below_step (B0.out _ _) bo0)
  have IM0 := hide im0
  clear bo0 im0
  go_wp2_with fail
  refine (check_of G.out Z.out BB0.out (by simp) IM0.out works1).mono ?_
  rintro e u1 ⟨rfl, bc0⟩
  have P1 := hide (PB0.out.on bc0 PB0.out.lt)
  have E1 := hide (EB0.out.on bc0 EB0.out.lt)
  have B1 := hide (BB0.out.trans (bc0.mono BB0.out.size))
  clear bc0
  have p00 : u1.cell? ⟨w.heap.size, 0, none⟩ = some (.int .i64 1) := P1.out.cell 0 rfl
  have p01 : u1.cell? ⟨w.heap.size, 1, none⟩ = some (.int .i64 2) := P1.out.cell 1 rfl
  have p02 : u1.cell? ⟨w.heap.size, 2, none⟩ = some (.int .i64 0) := P1.out.cell 2 rfl
  have p03 : u1.cell? ⟨w.heap.size, 3, none⟩ = some (.int .i64 0) := P1.out.cell 3 rfl
  have e00 : u1.cell? ⟨w.heap.size + 1, 0, none⟩ = some (.int .i64 12) := E1.out.cell 0 rfl
  have e01 : u1.cell? ⟨w.heap.size + 1, 1, none⟩ = some (.int .i64 0) := E1.out.cell 1 rfl
  have e02 : u1.cell? ⟨w.heap.size + 1, 2, none⟩ = some (.int .i64 0) := E1.out.cell 2 rfl
  have e03 : u1.cell? ⟨w.heap.size + 1, 3, none⟩ = some (.int .i64 0) := E1.out.cell 3 rfl
  go_wp2_with fail
  refine (of_any _ [⟨1, 2, 0, 0⟩, ⟨12, 0, 0, 0⟩] _ (ist_new (by simp) (by rfl) (by rfl))).mono ?_
  rintro e v1 ⟨ta1, fa1, rfl, im1, bo1⟩
  have PB1 := hide (ob_step P1.out bo1)
  have EB1 := hide (ob_step E1.out bo1)
  have BB1 := hide (below_step B1.out bo1)
  have IM1 := hide im1
  clear bo1 im1
  go_wp2_with fail
  refine (deep_of G.out Z.out BB1.out (by simp) IM1.out works2).mono ?_
  rintro e u2 ⟨rfl, bc1⟩
  have P2 := hide (PB1.out.on bc1 PB1.out.lt)
  have E2 := hide (EB1.out.on bc1 EB1.out.lt)
  have B2 := hide (BB1.out.trans (bc1.mono BB1.out.size))
  clear bc1
  have p10 : u2.cell? ⟨w.heap.size, 0, none⟩ = some (.int .i64 1) := P2.out.cell 0 rfl
  have p11 : u2.cell? ⟨w.heap.size, 1, none⟩ = some (.int .i64 2) := P2.out.cell 1 rfl
  have p12 : u2.cell? ⟨w.heap.size, 2, none⟩ = some (.int .i64 0) := P2.out.cell 2 rfl
  have p13 : u2.cell? ⟨w.heap.size, 3, none⟩ = some (.int .i64 0) := P2.out.cell 3 rfl
  have e10 : u2.cell? ⟨w.heap.size + 1, 0, none⟩ = some (.int .i64 12) := E2.out.cell 0 rfl
  have e11 : u2.cell? ⟨w.heap.size + 1, 1, none⟩ = some (.int .i64 0) := E2.out.cell 1 rfl
  have e12 : u2.cell? ⟨w.heap.size + 1, 2, none⟩ = some (.int .i64 0) := E2.out.cell 2 rfl
  have e13 : u2.cell? ⟨w.heap.size + 1, 3, none⟩ = some (.int .i64 0) := E2.out.cell 3 rfl
  go_wp2_with fail
  refine (of_any _ [⟨6, 1, 2, 0⟩, ⟨12, 0, 0, 0⟩] _ (ist_new (by simp) (by rfl) (by rfl))).mono ?_
  rintro e v2 ⟨ta2, fa2, rfl, im2, bo2⟩
  have PB2 := hide (ob_step P2.out bo2)
  have EB2 := hide (ob_step E2.out bo2)
  have BB2 := hide (below_step B2.out bo2)
  have IM2 := hide im2
  clear bo2 im2
  go_wp2_with fail
  refine (check_of G.out Z.out BB2.out (by simp) IM2.out works3).mono ?_
  rintro e u3 ⟨rfl, bc2⟩
  have P3 := hide (PB2.out.on bc2 PB2.out.lt)
  have E3 := hide (EB2.out.on bc2 EB2.out.lt)
  have B3 := hide (BB2.out.trans (bc2.mono BB2.out.size))
  clear bc2
  have p20 : u3.cell? ⟨w.heap.size, 0, none⟩ = some (.int .i64 1) := P3.out.cell 0 rfl
  have p21 : u3.cell? ⟨w.heap.size, 1, none⟩ = some (.int .i64 2) := P3.out.cell 1 rfl
  have p22 : u3.cell? ⟨w.heap.size, 2, none⟩ = some (.int .i64 0) := P3.out.cell 2 rfl
  have p23 : u3.cell? ⟨w.heap.size, 3, none⟩ = some (.int .i64 0) := P3.out.cell 3 rfl
  have e20 : u3.cell? ⟨w.heap.size + 1, 0, none⟩ = some (.int .i64 12) := E3.out.cell 0 rfl
  have e21 : u3.cell? ⟨w.heap.size + 1, 1, none⟩ = some (.int .i64 0) := E3.out.cell 1 rfl
  have e22 : u3.cell? ⟨w.heap.size + 1, 2, none⟩ = some (.int .i64 0) := E3.out.cell 2 rfl
  have e23 : u3.cell? ⟨w.heap.size + 1, 3, none⟩ = some (.int .i64 0) := E3.out.cell 3 rfl
  go_wp2_with fail
  refine (of_any _ [⟨1, 2, 0, 0⟩] _ (ist_new (by simp) (by rfl) (by rfl))).mono ?_
  rintro e v3 ⟨ta3, fa3, rfl, im3, bo3⟩
  have PB3 := hide (ob_step P3.out bo3)
  have EB3 := hide (ob_step E3.out bo3)
  have BB3 := hide (below_step B3.out bo3)
  have IM3 := hide im3
  clear bo3 im3
  go_wp2_with fail
  refine (check_of G.out Z.out BB3.out (by simp) IM3.out works4).mono ?_
  rintro e u4 ⟨rfl, bc3⟩
  have P4 := hide (PB3.out.on bc3 PB3.out.lt)
  have E4 := hide (EB3.out.on bc3 EB3.out.lt)
  have B4 := hide (BB3.out.trans (bc3.mono BB3.out.size))
  clear bc3
  have p30 : u4.cell? ⟨w.heap.size, 0, none⟩ = some (.int .i64 1) := P4.out.cell 0 rfl
  have p31 : u4.cell? ⟨w.heap.size, 1, none⟩ = some (.int .i64 2) := P4.out.cell 1 rfl
  have p32 : u4.cell? ⟨w.heap.size, 2, none⟩ = some (.int .i64 0) := P4.out.cell 2 rfl
  have p33 : u4.cell? ⟨w.heap.size, 3, none⟩ = some (.int .i64 0) := P4.out.cell 3 rfl
  have e30 : u4.cell? ⟨w.heap.size + 1, 0, none⟩ = some (.int .i64 12) := E4.out.cell 0 rfl
  have e31 : u4.cell? ⟨w.heap.size + 1, 1, none⟩ = some (.int .i64 0) := E4.out.cell 1 rfl
  have e32 : u4.cell? ⟨w.heap.size + 1, 2, none⟩ = some (.int .i64 0) := E4.out.cell 2 rfl
  have e33 : u4.cell? ⟨w.heap.size + 1, 3, none⟩ = some (.int .i64 0) := E4.out.cell 3 rfl
  go_wp2_with fail
  refine (of_any _ [⟨2, 0, 0, 0⟩, ⟨10, 0, 0, 0⟩, ⟨12, 0, 0, 0⟩] _ (ist_new (by simp) (by rfl) (by rfl))).mono ?_
  rintro e v4 ⟨ta4, fa4, rfl, im4, bo4⟩
  have PB4 := hide (ob_step P4.out bo4)
  have EB4 := hide (ob_step E4.out bo4)
  have BB4 := hide (below_step B4.out bo4)
  have IM4 := hide im4
  clear bo4 im4
  go_wp2_with fail
  refine (check_of G.out Z.out BB4.out (by simp) IM4.out works5).mono ?_
  rintro e u5 ⟨rfl, bc4⟩
  have P5 := hide (PB4.out.on bc4 PB4.out.lt)
  have E5 := hide (EB4.out.on bc4 EB4.out.lt)
  have B5 := hide (BB4.out.trans (bc4.mono BB4.out.size))
  clear bc4
  go_wp2
  go_ret
  exact ⟨rfl, B5.out⟩
end Go.Proofs.YtlckedionmgjjaaDoor
