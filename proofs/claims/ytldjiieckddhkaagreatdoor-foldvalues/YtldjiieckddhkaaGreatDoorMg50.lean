/- EnV | EoV | ValR -/
import Derived.Test.YtldjiieckddhkaaGreatDoorEmV
import Derived.Test.YtldjiieckddhkaaGreatDoorMg49
import Derived.Test.YtldjiieckddhkaaGreatDoorMg32
namespace Go.Proofs.YtldjiieckddhkaaGreatDoor
open Go.RowKit Go.Sort
set_option maxRecDepth 100000 in
set_option maxHeartbeats 3200000 in
theorem fold_leaf (z : Pv) (v : Value) (w : World) (hX : PLst w v [z]) (hcp : CapOk v) (ho : takes (ptV z) = 0) : Calls Tryz.prog 28 #[v] w (AskOut w [ptV z]) := by
  have HX := hide hX
  have HC := hide hcp
  obtain ⟨a, b, off, cap, rfl, hA, hI⟩ := hX
  obtain ⟨hbw, rfl⟩ := hA (by simp)
  obtain ⟨c0, c1, c2, c3, c4⟩ := hI 0 z rfl
  simp only [List.length_cons, List.length_nil, Nat.zero_add, Nat.zero_mul, Nat.add_zero] at c0 c1 c2 c3 c4 HX HC ⊢
  have k1 : ((1 : Nat) : Int) - 1 = 0 := by decide
  have m50 := fun W => qTakes_v z W
  rw [ho] at m50
  have B1 : Hid (∀ o, Below w.heap.size w (w.alloc o)) := fun o => (Below.refl _ _).alloc (Nat.le_refl _) _
  clear hI hA ho hcp
  go_enter Tryz.func28, Tryz.ntmps28
  go_wp2_with fail
  refine (m50 _).mono ?_
  rintro e wd ⟨rfl, hbd⟩
  have BD := hide ((B1.out _).trans (hbd.mono (B1.out _).size))
  have HF : Hid (AskOut w [ptV z] (.returned (.slice (some ⟨b, off, none⟩) 1 cap)) wd) := ⟨⟨_, [z], rfl, HX.out.below BD.out (Nat.le_refl _), HC.out, rfl⟩, BD.out⟩
  clear hbd m50 B1 HX HC
  go_wp2
  go_ret
  exact HF.out
theorem foldT_len {e : Ex} (h : well e) : (foldT e).length ≤ (flat e).length := by rw [foldE_flat h]; exact (foldE_nm h).2.2
theorem foldN_any : ∀ {e : Ex}, well e → (∀ p ∈ flat e, p.s = []) → (flat e).length ≤ 500 → ∀ (v : Value) (x : List Pv) (w : World), PLst w v x → CapOk v → x.map ptV = flat e → Calls Tryz.prog 28 #[v] w (AskOut w (foldT e))
  | .leaf p, hw, hs, hl, v, x, w, hX, hcp, hx => by
    obtain ⟨xi, z, rfl, hxi, rfl⟩ := map_snoc (a := []) hx
    obtain rfl : xi = [] := by simpa using hxi
    have e : foldT (.leaf (ptV z)) = [ptV z] := by
      rw [foldT_leaf]
      exact seg_out (.inr (reck_leaf _))
    rw [e]
    exact fold_leaf z v w hX hcp hw.1
  | .one p a, hw, hs, hl, v, x, w, hX, hcp, hx => by
    obtain ⟨xi, z, rfl, hxi, rfl⟩ := map_snoc (a := flat a) hx
    have hsa : ∀ q ∈ flat a, q.s = [] := fun q hq => hs q (by simp [flat, hq])
    have hla : (flat a).length ≤ 500 := by have : (flat (.one (ptV z) a)).length = (flat a).length + 1 := by show (flat a ++ [ptV z]).length = _; simp
                                           omega
    have hxl : xi.length ≤ 500 := by have := congrArg List.length hxi; rw [List.length_map] at this; omega
    have hfl := foldT_len hw.2.2
    rw [foldT_one]
    refine fold_one1 z xi v w (foldT a) hX hcp hxl ?_ hw.1 (by omega) (fun u W hb hP hc => foldN_any hw.2.2 hsa hla u xi W hP hc hxi)
    rcases kind_none hw.2.1 (hs _ (by simp [flat])) with h | h | h
    · have := hw.1; unfold takes at this; rw [h] at this; cases this
    · exact .inl h
    · exact .inr h
  | .two p a b, hw, hs, hl, v, x, w, hX, hcp, hx => by
    obtain ⟨xa, xr, rfl, hxa, hxr⟩ := map_app2 (a := flat a) (b := flat b ++ [p]) hx
    obtain ⟨xb, z, rfl, hxb, rfl⟩ := map_snoc (a := flat b) hxr
    have hsa : ∀ q ∈ flat a, q.s = [] := fun q hq => hs q (by simp [flat, hq])
    have hsb : ∀ q ∈ flat b, q.s = [] := fun q hq => hs q (by simp [flat, hq])
    have hfl : (flat (.two (ptV z) a b)).length = (flat a).length + ((flat b).length + 1) := by show (flat a ++ (flat b ++ [ptV z])).length = _; simp
    have hal : xa.length = (flat a).length := by have := congrArg List.length hxa; rwa [List.length_map] at this
    have hbl : xb.length = (flat b).length := by have := congrArg List.length hxb; rwa [List.length_map] at this
    have hpb := flat_pos b
    have hxl : (xa ++ (xb ++ [z])).length ≤ 500 := by simp only [List.length_append, List.length_cons, List.length_nil]; omega
    have ha := foldT_len hw.2.2.1
    have hb := foldT_len hw.2.2.2
    rw [foldT_two]
    refine fold_two2 z xa xb v w (foldT a) (foldT b) hX hcp hxl (by omega) (two_kind hw.1 hw.2.1).1 hw.1 (by omega) (by omega) ?_ (fun u W hb hP hc => foldN_any hw.2.2.1 hsa (by omega) u xa W hP hc hxa) (fun u W hb hP hc => foldN_any hw.2.2.2 hsb (by omega) u xb W hP hc hxb)
    have h1 : ((xa ++ (xb ++ [z])).map ptV).take (xa.length + xb.length) = flat a ++ flat b := by
      rw [List.map_append, List.map_append, hxa, hxb, ← List.append_assoc, List.take_left' (by rw [List.length_append]; omega)]
    rw [h1, List.reverse_append, back_flat b hw.2.2.2 1 _ (Nat.le_refl _), if_pos rfl, List.length_reverse, hal]
def PartsOut (w : World) (l : List Pt) (er : Int) (e : Ending) (w' : World) : Prop := (∃ (u : Value) (y : List Pv), e = .returned (.tuple #[u, .int .i64 er]) ∧ PLst w' u y ∧ CapOk u ∧ y.map ptV = l) ∧ Below w.heap.size w w'
set_option maxRecDepth 100000 in
set_option maxHeartbeats 1600000 in
theorem resolve10_any {e0 : Ex} (hw : well e0) (hs : ∀ p ∈ flat e0, p.s = []) (hd : dep e0 ≤ 24) (hl : (flat e0).length ≤ 500) (v : Value) (x : List Pv) (t : Int) (w : World) (hX : PLst w v x) (hcp : CapOk v) (hx : x.map ptV = flat e0) : Calls Tryz.prog 10 #[.slice none 0 0, v, .int .i64 t] w (PartsOut w (if fitsP [] (flat e0) t = 0 then flat (endE [] e0 t) else []) (fitsP [] (flat e0) t)) := by
  have hc : checkP (x.map ptV) = 0 := by rw [hx]; exact check_flat hw hd hl
  have m25 := fitsN_any v x t w hX hc (by rw [hx]; exact hs)
  rw [hx, fits_alike hw hs hd hl] at m25
  obtain ⟨va, vc, hv⟩ := hX.shapeV
  by_cases h0 : fitsP [] (flat e0) t = 0
  · rw [if_pos h0, h0]
    rw [h0] at m25
    obtain ⟨-, -, e1, k, h1, h2, h3, h4, h5, h6⟩ := fits_tree h0
    have hk : ∃ k, evT (partK []) e0 = .ok k := by
      have a1 := run_tree (partK []) hw
      have a2 := run_tree (partK []) h1
      rw [h2, a1, h5] at a2
      cases h : evT (partK []) e0 with
      | error z => rw [h] at a2; cases a2
      | ok k => exact ⟨k, rfl⟩
    obtain ⟨k, hk⟩ := hk
    have m26 : Hid (∀ W, Below w.heap.size w W → Calls Tryz.prog 26 #[.slice none 0 0, v, .int .i64 t] W (AskOut W (flat (endE [] e0 t)))) := fun W hb => by
      have := askN_any hw hs hk hd hl v x t W (hX.below hb (Nat.le_refl _)) hcp hx
      rwa [ask_end rfl (fun v hv => by cases hv) t hw hk hd hl] at this
    subst hv
    generalize flat (endE [] e0 t) = L at *
    clear hX hcp hx hc hs h0 h2 h3 h4 h5 h6 hk hl hd
    go_enter Tryz.func10, Tryz.ntmps10
    go_wp2_with fail
    refine m25.mono ?_
    rintro e w1 ⟨rfl, hb1⟩
    have B1 := hide hb1
    clear m25 hb1
    go_wp2_with fail
    refine (m26.out _ B1.out).mono ?_
    rintro e w2 ⟨⟨u, y, rfl, hP, hPc, hPy⟩, hb2⟩
    have HF : Hid (PartsOut w L 0 (.returned (.tuple #[u, .int .i64 0])) w2) := ⟨⟨u, y, rfl, hP, hPc, hPy⟩, B1.out.trans (hb2.mono B1.out.size)⟩
    clear m26 hb2 hP hPc hPy
    go_wp2
    go_ret2
    exact HF.out
  · rw [if_neg h0]
    have h0' : (fitsP [] (flat e0) t != 0) = true := by rw [bne_iff_ne]; exact h0
    subst hv
    generalize fitsP [] (flat e0) t = E at *
    clear hX hcp hx hc hs h0 hl hd
    go_enter Tryz.func10, Tryz.ntmps10
    go_wp2_with fail
    refine m25.mono ?_
    rintro e w1 ⟨rfl, hb1⟩
    have HF : Hid (PartsOut w [] E (.returned (.tuple #[.slice none 0 0, .int .i64 E])) w1) := ⟨⟨_, [], rfl, ⟨none, 0, 0, 0, rfl, fun h => absurd h (Nat.lt_irrefl 0), fun i x hx => by cases hx⟩, fun a n c h => by injection h with h1 h2 h3; omega, rfl⟩, hb1⟩
    clear m25 hb1
    go_wp2
    go_ret2
    exact HF.out
set_option maxRecDepth 100000 in
set_option maxHeartbeats 1600000 in
theorem fold12_any {e0 : Ex} (hw : well e0) (hs : ∀ p ∈ flat e0, p.s = []) (hd : dep e0 ≤ 24) (hl : (flat e0).length ≤ 500) (v : Value) (x : List Pv) (t : Int) (w : World) (hX : PLst w v x) (hcp : CapOk v) (hx : x.map ptV = flat e0) : Calls Tryz.prog 12 #[.slice none 0 0, v, .int .i64 t] w (PartsOut w (foldAll [] (flat e0) t).1 (foldAll [] (flat e0) t).2) := by
  have m10 := resolve10_any hw hs hd hl v x t w hX hcp hx
  obtain ⟨va, vc, hv⟩ := hX.shapeV
  by_cases h0 : fitsP [] (flat e0) t = 0
  · rw [if_pos h0, h0] at m10
    obtain ⟨-, -, e1, k, h1, h2, h3, h4, h5, h6⟩ := fits_tree h0
    have hk : ∃ k', evT (partK []) e0 = .ok k' ∧ k' = k := by
      have a1 := run_tree (partK []) hw
      have a2 := run_tree (partK []) h1
      rw [h2, a1, h5] at a2
      cases h : evT (partK []) e0 with
      | error z => rw [h] at a2; cases a2
      | ok k' => rw [h] at a2; exact ⟨k', rfl, by injection a2 with a2; injection a2⟩
    obtain ⟨k', hk, rfl⟩ := hk
    obtain ⟨r1, r2⟩ := res_tree (vs := []) (fun v hv => by cases hv) hw hk h6
    have hA : foldAll [] (flat e0) t = (foldT (endE [] e0 t), 0) := by
      unfold foldAll resolveP
      rw [if_neg (show ¬ fitsP [] (flat e0) t ≠ 0 from fun h => h h0)]
      show (if (0 : Int) ≠ 0 then _ else _) = _
      rw [if_neg (fun h => h rfl), r2, foldP_tree r1.wel]
    rw [hA]
    have hsr : ∀ p ∈ flat (endE [] e0 t), p.s = [] := fun p hp => by
      have hn : namesP (flat (endE [] e0 t)) = [] := by
        rw [endE_nm]
        cases hnn : namesP (flat e0) with
        | nil => rfl
        | cons a r =>
          obtain ⟨q, hq, h1, h2⟩ := (mem_names (flat e0) a).1 (by rw [hnn]; simp)
          exact absurd (hs q hq) h2
      by_cases hps : p.s = []
      · exact hps
      · have := (mem_names (flat (endE [] e0 t)) p.s).2 ⟨p, hp, rfl, hps⟩
        rw [hn] at this; cases this
    have hrl : (flat (endE [] e0 t)).length ≤ 500 := by rw [endE_len]; exact hl
    have m28 : Hid (∀ u y W, PLst W u y → CapOk u → y.map ptV = flat (endE [] e0 t) → Calls Tryz.prog 28 #[u] W (AskOut W (foldT (endE [] e0 t)))) := fun u y W hP hc hy => foldN_any r1.wel hsr hrl u y W hP hc hy
    subst hv
    generalize foldT (endE [] e0 t) = L at *
    generalize flat (endE [] e0 t) = M at *
    clear hX hcp hx hs h0 h2 h3 h4 h5 h6 hk hl hd r1 r2 hA hsr hrl
    go_enter Tryz.func12, Tryz.ntmps12
    go_wp2_with fail
    refine m10.mono ?_
    rintro e w1 ⟨⟨u, y, rfl, hP, hPc, hPy⟩, hb1⟩
    have B1 := hide hb1
    obtain ⟨ua, uc, rfl⟩ := hP.shapeV
    have m28' := m28.out _ y w1 hP hPc hPy
    clear m10 hb1 m28 hP hPc hPy
    go_wp2_with fail
    refine m28'.mono ?_
    rintro e w2 ⟨⟨u2, y2, rfl, hP, hPc, hPy⟩, hb2⟩
    have HF : Hid (PartsOut w L 0 (.returned (.tuple #[u2, .int .i64 0])) w2) := ⟨⟨u2, y2, rfl, hP, hPc, hPy⟩, B1.out.trans (hb2.mono B1.out.size)⟩
    clear m28' hb2 hP hPc hPy
    go_wp2
    go_ret2
    exact HF.out
  · rw [if_neg h0] at m10
    have hA : foldAll [] (flat e0) t = ([], fitsP [] (flat e0) t) := by
      unfold foldAll resolveP
      rw [if_pos h0]
      show (if fitsP [] (flat e0) t ≠ 0 then _ else _) = _
      rw [if_pos h0]
    rw [hA]
    have h0' : (fitsP [] (flat e0) t != 0) = true := by rw [bne_iff_ne]; exact h0
    subst hv
    generalize fitsP [] (flat e0) t = E at *
    clear hX hcp hx hs h0 hl hd hA
    go_enter Tryz.func12, Tryz.ntmps12
    go_wp2_with fail
    refine m10.mono ?_
    rintro e w1 ⟨⟨u, y, rfl, hP, hPc, hPy⟩, hb1⟩
    obtain ⟨ua, uc, rfl⟩ := hP.shapeV
    have HF : Hid (PartsOut w [] E (.returned (.tuple #[.slice none 0 0, .int .i64 E])) w1) := ⟨⟨_, [], rfl, ⟨none, 0, 0, 0, rfl, fun h => absurd h (Nat.lt_irrefl 0), fun i x hx => by cases hx⟩, fun a n c h => by injection h with h1 h2 h3; omega, rfl⟩, hb1⟩
    clear m10 hb1 hP hPc hPy
    go_wp2
    go_ret2
    exact HF.out
end Go.Proofs.YtldjiieckddhkaaGreatDoor
namespace Go.Proofs.YtldjiieckddhkaaGreatDoor
open Go.RowKit Go.Sort
set_option maxRecDepth 100000 in
set_option maxHeartbeats 3200000 in
theorem value10_any (v : Value) (x : List Pv) (t : Int) (w : World) (hX : PLst w v x) (hcp : CapOk v) (hxl : x.length ≤ 4398046510976) : Calls Tryz.prog 17 #[v, .int .i64 t] w fun e w' => e = .returned (.tuple #[.int .i64 (valQ (x.map ptV) t).1, .int .i64 (valQ (x.map ptV) t).2]) ∧ Below w.heap.size w w' := by
  have HV : Hid (valQ (x.map ptV) t = if checkP (x.map ptV) ≠ 0 then (0, checkP (x.map ptV)) else if nmsL (x.map ptV) ≠ [] then (0, 90) else if (foldAll [] (x.map ptV) t).2 ≠ 0 then (0, (foldAll [] (x.map ptV) t).2) else if 1 < (foldAll [] (x.map ptV) t).1.length then (0, 41) else (((foldAll [] (x.map ptV) t).1.headD (numP 0 0)).n, 0)) := rfl
  generalize valQ (x.map ptV) t = V at *
  by_cases hc : checkP (x.map ptV) = 0
  · have mN := qNames_ok v x w hX hxl hc
    have hnm : nmsL (x.map ptV) = [] ↔ (namesP (x.map ptV)).length = 0 := by rw [← nms_names, nmsS_nil]
    obtain ⟨va, vc, hv⟩ := hX.shapeV
    by_cases hn : nmsL (x.map ptV) = []
    · have hn0 : namesP (x.map ptV) = [] := List.eq_nil_of_length_eq_zero (hnm.1 hn)
      rw [hn0] at mN
      obtain ⟨e0, hw, hfl, -, hd, hl⟩ := check_tree hc
      have hs : ∀ p ∈ flat e0, p.s = [] := fun p hp => by
        by_cases hps : p.s = []
        · exact hps
        · have := (mem_names (x.map ptV) p.s).2 ⟨p, by rw [← hfl]; exact hp, rfl, hps⟩
          rw [hn0] at this; cases this
      have mF : Hid (∀ W, Below w.heap.size w W → Calls Tryz.prog 12 #[.slice none 0 0, v, .int .i64 t] W (PartsOut W (foldAll [] (x.map ptV) t).1 (foldAll [] (x.map ptV) t).2)) := fun W hb => by
        have := fold12_any hw hs hd (by rw [hfl]; exact hl) v x t W (hX.below hb (Nat.le_refl _)) hcp hfl.symm
        rwa [hfl] at this
      have HP := hide (fold_pos (vs := []) (x := x.map ptV) (t := t))
      have HV2 : Hid (V = if (foldAll [] (x.map ptV) t).2 ≠ 0 then (0, (foldAll [] (x.map ptV) t).2) else if 1 < (foldAll [] (x.map ptV) t).1.length then (0, 41) else (((foldAll [] (x.map ptV) t).1.headD (numP 0 0)).n, 0)) := by
        show _ = _; rw [HV.out, if_neg (fun h => h hc), if_neg (fun h => h hn)]
      generalize foldAll [] (x.map ptV) t = FA at *
      obtain ⟨L, E⟩ := FA
      dsimp only at mF HP HV2
      subst hv
      clear HV hc hn hnm hn0 hw hfl hd hl hs hX hcp hxl
      go_enter Tryz.func17, Tryz.ntmps17
      go_wp2_with fail
      refine mN.mono ?_
      rintro e w1 ⟨u, rfl, hU, hb1⟩
      obtain ⟨ua, ub, uo, uc, rfl, -, -⟩ := hU
      have B1 := hide hb1
      simp only [List.length_nil]
      clear mN hb1
      go_wp2_with fail
      refine (mF.out _ B1.out).mono ?_
      rintro e w2 ⟨⟨u2, y, rfl, hP, -, hPy⟩, hb2⟩
      have B2 := hide (B1.out.trans (hb2.mono B1.out.size))
      have hyl : L.length = y.length := by rw [← hPy, List.length_map]
      obtain ⟨ya, yb, yo, yc, rfl, hA, hI⟩ := hP
      clear mF hb2
      by_cases hE : E = 0
      · subst hE
        have hpos := HP.out rfl
        rw [hyl] at hpos
        by_cases h1 : 1 < y.length
        · have HE : Hid (V = (0, 41)) := by show _ = _; rw [HV2.out, if_neg (fun h => h rfl), if_pos (by rw [hyl]; exact h1)]
          have h1' : (1 : Int) < (y.length : Int) := by omega
          clear HV2 hPy hyl hA hI HP hpos h1
          generalize y.length = n at *
          go_wp2
          go_ret2
          exact ⟨by rw [HE.out]; rfl, B2.out⟩
        · obtain ⟨q, rfl⟩ : ∃ q, y = [q] := by
            match y, hpos, h1 with
            | [q], _, _ => exact ⟨q, rfl⟩
            | _ :: _ :: _, _, h1 => exact absurd (by simp) h1
          have HE : Hid (V = (q.n, 0)) := by show _ = _; rw [HV2.out, if_neg (fun h => h rfl), if_neg (by rw [hyl]; exact h1), ← hPy]; rfl
          obtain ⟨hyb, rfl⟩ := hA (by simp)
          obtain ⟨c0, c1, c2, c3, c4⟩ := hI 0 q rfl
          simp only [Nat.zero_mul, Nat.add_zero, List.length_cons, List.length_nil, Nat.zero_add] at c1 ⊢
          clear HV2 hPy hyl hA hI HP hpos h1 c0 c2 c3 c4
          go_wp2
          go_ret2
          exact ⟨by rw [HE.out]; rfl, B2.out⟩
      · have HE : Hid (V = (0, E)) := by show _ = _; rw [HV2.out, if_pos hE]
        have hE' : (E != 0) = true := by rw [bne_iff_ne]; exact hE
        clear HV2 hPy hyl hA hI HP hE
        generalize y.length = n at *
        go_wp2
        go_ret2
        exact ⟨by rw [HE.out]; rfl, B2.out⟩
    · have HE : Hid (V = (0, 90)) := by show _ = _; rw [HV.out, if_neg (fun h => h hc), if_pos hn]
      have hlen : (0 : Int) < ((namesP (x.map ptV)).length : Int) := by
        have : ¬ (namesP (x.map ptV)).length = 0 := fun h => hn (hnm.2 h)
        omega
      subst hv
      generalize namesP (x.map ptV) = NL at *
      clear HV hc hn hnm hX hcp hxl
      go_enter Tryz.func17, Tryz.ntmps17
      go_wp2_with fail
      refine mN.mono ?_
      rintro e w1 ⟨u, rfl, hU, hb1⟩
      obtain ⟨ua, ub, uo, uc, rfl, -, -⟩ := hU
      have B1 := hide hb1
      generalize NL.length = n at *
      clear mN hb1
      go_wp2
      go_ret2
      exact ⟨by rw [HE.out]; rfl, B1.out⟩
  · have mN := qNames_bad v x w hX hxl hc
    have HE : Hid (V = (0, checkP (x.map ptV))) := by show _ = _; rw [HV.out, if_pos hc]
    have hc' : (checkP (x.map ptV) != 0) = true := by rw [bne_iff_ne]; exact hc
    obtain ⟨va, vc, rfl⟩ := hX.shapeV
    generalize checkP (x.map ptV) = E at *
    clear HV hc hX hcp hxl
    go_enter Tryz.func17, Tryz.ntmps17
    go_wp2_with fail
    refine mN.mono ?_
    rintro e w1 ⟨rfl, hb1⟩
    have B1 := hide hb1
    clear mN hb1
    go_wp2
    go_ret2
    exact ⟨by rw [HE.out]; rfl, B1.out⟩
set_option maxRecDepth 100000 in
set_option maxHeartbeats 1600000 in
theorem fvalues_any (v : Value) (x : List Pv) (t : Int) (w : World) (hX : PLst w v x) (hcp : CapOk v) (hxl : x.length ≤ 4398046510976) (hs : StrOk x) (hg : Glo w) : Calls Tryz.prog 4 #[v, .int .i64 t] w fun e w' => e = .returned (.bool true) ∧ Below w.heap.size w w' := by
  have m16 := value_any v x t w hX hxl hs hg
  have m17 : Hid (∀ W, Below w.heap.size w W → Calls Tryz.prog 17 #[v, .int .i64 t] W fun e w' => e = .returned (.tuple #[.int .i64 (valQ (x.map ptV) t).1, .int .i64 (valQ (x.map ptV) t).2]) ∧ Below W.heap.size W w') := fun W hb => value10_any v x t W (hX.below hb (Nat.le_refl _)) hcp hxl
  have m15 : Hid (∀ W, Below w.heap.size w W → Calls Tryz.prog 15 #[] W fun e w' => e = .returned (.bool true) ∧ Below W.heap.size W w') := fun W hb => works_any W (hg.below hb hg.lt)
  generalize (valQ (x.map ptV) t).1 = A at *
  generalize (valQ (x.map ptV) t).2 = B at *
  obtain ⟨va, vc, rfl⟩ := hX.shapeV
  generalize x.length = n at *
  clear hX hcp hxl hs hg
  go_enter Tryz.func4, Tryz.ntmps4
  go_wp2_with fail
  refine m16.mono ?_
  rintro e w1 ⟨rfl, hb1⟩
  have B1 := hide hb1
  clear m16 hb1
  go_wp2_with fail
  refine (m17.out _ B1.out).mono ?_
  rintro e w2 ⟨rfl, hb2⟩
  have B2 := hide (B1.out.trans (hb2.mono B1.out.size))
  clear m17 hb2
  go_wp2_with fail
  refine (m15.out _ B2.out).mono ?_
  rintro e w3 ⟨rfl, hb3⟩
  have B3 := hide (B2.out.trans (hb3.mono B2.out.size))
  clear m15 hb3
  go_wp2
  go_ret
  exact ⟨rfl, B3.out⟩
end Go.Proofs.YtldjiieckddhkaaGreatDoor
namespace Go.Proofs.YtldjiieckddhkaaGreatDoor
open Go.RowKit
theorem strOk_ofV {l : List Pv} (h : OkP l) : StrOk l := fun y hy => ⟨Nat.le_trans (h.2 y hy).1 (by decide), Nat.le_trans (h.2 y hy).2.1 (by decide)⟩
theorem fvalues_row (vx : Value) (x : List Pv) (t : Int) (w : World) (hX : PLst w vx x) (hc : ∀ a n cap, vx = .slice a n cap → n ≤ cap) (ox : OkP x) (hg : Glo w) :
    Calls Tryz.prog 4 #[vx, .int .i64 t] w fun e w' => e = .returned (.bool true) ∧ Below w.heap.size w w' :=
  fvalues_any vx x t w hX hc (by have := ox.1; omega) (strOk_ofV ox) hg
end Go.Proofs.YtldjiieckddhkaaGreatDoor
