/- VerifyPushes: the walk. -/
import Derived.Test.YtlckedionmgjjaaDoorMg24
import Derived.Test.YtlckedionmgjjaaDoorMg21
import Derived.Test.YtlckedionmgjjaaDoorMg22
import Derived.Deep.AppendLies
namespace Go.Proofs.YtlckedionmgjjaaDoor
open Go.RowKit
theorem owns_on {w w' : World} {base e size n : Nat} {v : Value} {xs : List Value} (h : w.ownsRow base e size v n xs) (hb : Below w.heap.size w w') : w'.ownsRow base e size v n xs := by
  refine ⟨h.1, ?_⟩
  rcases h.2 with h0 | ⟨g, cap, cur, hv, hg, hh, r⟩
  · exact .inl h0
  · exact .inr ⟨g, cap, cur, hv, hg, (hb.block g (Array.getElem?_eq_some_iff.1 hh).1).trans hh, r⟩
theorem wpl_app {P : Program} {ops : Array Oper} {rest : List Oper} {o : Oper} {a : Act} {w : World} {Q : Exit → Act → World → Prop} (hg : o.guard = none) (s x : Operand) (t : TypeId) (ho : o.op = .call { callee := .builtin .append, args := #[s, x], argTypes := #[t, t] }) (v u v' : Value) (w' : World) (hs : a.eval s = v) (hx : a.eval x = u)
    (hr : (Builtin.append_ #[t, t] o.type #[v, u]).run P w = .ok v' w') (h : wpList P ops Q rest (a.put o.dst v') w') : wpList P ops Q (o :: rest) a w :=
  wpList_plain hg fun _ hK => wp_app s x t ho v u v' w' hs hx hr (hK _ _ h)
theorem inC_app (a b : List Ins) : inC (a ++ b) = inC a ++ inC b := by unfold inC; rw [List.flatMap_append]
set_option maxRecDepth 100000 in
set_option maxHeartbeats 3200000 in
theorem pushes_any (n : Int) (w : World) (hg : GlC w) (hz : Tz w) : Calls Tryd.prog 5 #[.int .i64 n] w fun e w' => e = .returned (.bool true) ∧ Below w.heap.size w w' := by
  obtain ⟨q, hq70, hq⟩ := mod70 n
  have qw : IntKind.i64.wrap (q : Int) = (q : Int) := by simp [IntKind.wrap, IntKind.bits, IntKind.signed]; omega
  have q0 : (0 : Int) ≤ (q : Int) := by omega
  have q7 : (q : Int) < 70 := by omega
  have G := hide hg
  have Z := hide hz
  have m14 := hide (works_any w hg hz)
  obtain ⟨i0, hi, hz0, hz1, hz2⟩ := info_parts inX
  have HZ : Hid True := trivial
  clear hg hz
  go_enter Tryd.func5, Tryd.ntmps5
  go_wp2_with (go_at_call 14; refine m14.out.mono ?_; rintro e w1 ⟨rfl, b1⟩; have B1 := hide b1; clear b1)
  go_loopw [3, 16] (fun v i wr => ∃ (k : Nat) (b : Value), k ≤ q ∧ i = .int .i64 (k : Int) ∧ b = v ∧ Hid (wr.ownsRow w1.heap.size 38 4 b k (inC (pushL k)) ∧ Below w1.heap.size w1 wr)) (fun _ i _ => q - (intOf i).toNat)
  case atStart => exact ⟨0, _, by omega, rfl, rfl, World.ownsRow_nil _ _ _ _, Below.refl _ _⟩
  case round =>
    obtain ⟨k, b, hk, rfl, rfl, hh⟩ := hrel
    have OO := hide hh.out.1
    have BB := hide hh.out.2
    have zr := BB.out.size
    have k0 : (0 : Int) ≤ (k : Int) := by omega
    have hob : ∀ r, b.ownBlock = some r → w1.heap.size ≤ r := fun r hr => (OO.out.lt r hr).1
    clear hh
    by_cases hlt : k < q
    · have j1 : (k : Int) < (q : Int) := by omega
      have HN : Hid (inC (pushL (k + 1)) = inC (pushL k) ++ [.int .i64 1, .int .i64 2, .int .i64 0, .int .i64 1]) := by show _ = _; rw [push_succ, inC_snoc]; rfl
      go_wp2_with (at_builtin; go_must (refine wpList_append_lies _ (by rfl) _ _ _ (by rfl) w1.heap.size 38 i0 _ 4 32 Tryd.underlying24 hi hz0 hz1 hz2 rfl (by omega) b k _ (by rfl) (OO.out.alloc _) ⟨wr.heap.size, 0, none⟩ 1 1 [.int .i64 1, .int .i64 2, .int .i64 0, .int .i64 1] (by rfl) (by rfl) (World.news_of_block (cs := #[.int .i64 1, .int .i64 2, .int .i64 0, .int .i64 1]) (t := 38) (fr := (0, 0)) (heap_alloc_new wr _)) (by simp [Value.oneCell']) (by omega) (by unfold maxLen; omega) (by omega) (by simp; omega) (wr.heap.size + 1) (by simp) ?_; intro gg cap' w3 hown3 hgrow hat hlt3; have B3 := hide ((BB.out.alloc (by omega) _).grown hgrow (by simp; omega) hob)))
      go_roundw
      case rel => exact ⟨k + 1, _, by omega, by go_num, rfl, by rw [HN.out]; exact hown3, B3.out⟩
      case measure => simp [intOf]; omega
    · obtain rfl : k = q := by omega
      have j2 : ¬ (k : Int) < (k : Int) := by omega
      obtain ⟨wo, hwo⟩ : ∃ x, x = wr := ⟨_, rfl⟩
      subst hwo
      have B2 := hide (B1.out.trans (BB.out.mono B1.out.size))
      by_cases hbig : 64 < k
      · have HQ := hide (pushes_many hbig (by omega))
        have jb : (k : Int) > 64 := by omega
        have IXp := hide (ISt.of_owns (l := pushL k) (by rw [show (pushL k).length = k by simp [pushL]]; exact OO.out) : ISt wo b (pushL k))
        have ownp : (wo.alloc (.cells #[] 38)).ownsRow wo.heap.size 38 4 (.slice (some ⟨wo.heap.size, 0, none⟩) 0 0) 0 [] := World.ownsRow_lit (e := 38) (size := 4) wo #[] 0 (Nat.le_refl _) (by decide) rfl
        obtain ⟨vp, xp, hrp, hop, hbp⟩ := copy_ins (wo.alloc (.cells #[] 38)) wo.heap.size 24 wo.heap.size ownp b (pushL k) (IXp.out.on ((Below.refl _ _).alloc (Nat.le_refl _) _)) (by simp [pushL]; omega) (by simp)
        have Cp := hide hop
        have Dp := hide (below_step (Below.refl wo.heap.size wo) hbp)
        have yp : wo.heap.size + 1 ≤ xp.heap.size := by have := hbp.size; simp at this; omega
        have lpp : (pushL k).length = k := by simp [pushL]
        rw [lpp] at Cp hop
        have hobp : ∀ r, vp.ownBlock = some r → wo.heap.size ≤ r := fun r hr => (hop.lt r hr).1
        clear ownp hop hbp
        go_wp2_with (first | (at_builtin; (refine wpl_app rfl (.tmp 24) (.tmp 25) 24 rfl (.slice (some ⟨wo.heap.size, 0, none⟩) 0 0) b vp xp (by rfl) (by rfl) hrp ?_)) | (at_builtin; (refine wpList_append_lies _ (by rfl) _ _ _ (by rfl) wo.heap.size 38 i0 _ 4 32 Tryd.underlying24 hi hz0 hz1 hz2 rfl (by omega) vp (k) _ (by rfl) (Cp.out.alloc _) ⟨xp.heap.size, 0, none⟩ 1 1 [.int .i64 12, .int .i64 0, .int .i64 0, .int .i64 0] (by rfl) (by rfl) (World.news_of_block (cs := #[.int .i64 12, .int .i64 0, .int .i64 0, .int .i64 0]) (t := 38) (fr := (0, 0)) (heap_alloc_new xp _)) (by simp [Value.oneCell']) (by omega) (by unfold maxLen; omega) (by omega) (by simp; omega) (xp.heap.size + 1) (by simp) ?_); intro ggp capp zp hownp hgrowp hatp hltp; have Op := hide hownp; have Bp := hide ((Dp.out.alloc Dp.out.size _).grown hgrowp (by simp; omega) hobp); clear hownp hgrowp hatp hltp))
        refine (of_any _ (pushL k ++ [endI]) zp (ISt.of_owns (by rw [show (pushL k ++ [endI]).length = k + 1 by simp [pushL]; try omega, show inC (pushL k ++ [endI]) = inC (pushL k) ++ [.int .i64 12, .int .i64 0, .int .i64 0, .int .i64 0] by (first | exact inC_snoc _ _ | (rw [inC_app]; rfl))]; exact Op.out))).mono ?_
        rintro e wpa ⟨tap, fap, rfl, imp, bop⟩
        have Ep := hide (B2.out.trans ((Bp.out.trans (bop.mono Bp.out.size)).mono B2.out.size))
        have Fp := hide (Bp.out.trans (bop.mono Bp.out.size))
        have IMp := hide imp
        clear bop imp
        go_wp2_with fail
        refine (check_of G.out Z.out Ep.out (by simp [pushL]; omega) IMp.out HQ.out).mono ?_
        rintro e wpb ⟨rfl, bcp⟩
        have Hp := hide (Ep.out.trans (bcp.mono Ep.out.size))
        have Kp := hide (Fp.out.trans (bcp.mono Fp.out.size))
        clear bcp
        go_wp2
        go_ret
        exact ⟨rfl, Hp.out⟩
      · have HQ := hide (pushes_ok (n := k) (by omega))
        have jb : ¬ (k : Int) > 64 := by omega
        have j64 : k ≤ 64 := by omega
        have IXp := hide (ISt.of_owns (l := pushL k) (by rw [show (pushL k).length = k by simp [pushL]]; exact OO.out) : ISt wo b (pushL k))
        have ownp : (wo.alloc (.cells #[] 38)).ownsRow wo.heap.size 38 4 (.slice (some ⟨wo.heap.size, 0, none⟩) 0 0) 0 [] := World.ownsRow_lit (e := 38) (size := 4) wo #[] 0 (Nat.le_refl _) (by decide) rfl
        obtain ⟨vp, xp, hrp, hop, hbp⟩ := copy_ins (wo.alloc (.cells #[] 38)) wo.heap.size 24 wo.heap.size ownp b (pushL k) (IXp.out.on ((Below.refl _ _).alloc (Nat.le_refl _) _)) (by simp [pushL]; omega) (by simp)
        have Cp := hide hop
        have Dp := hide (below_step (Below.refl wo.heap.size wo) hbp)
        have yp : wo.heap.size + 1 ≤ xp.heap.size := by have := hbp.size; simp at this; omega
        have lpp : (pushL k).length = k := by simp [pushL]
        rw [lpp] at Cp hop
        have hobp : ∀ r, vp.ownBlock = some r → wo.heap.size ≤ r := fun r hr => (hop.lt r hr).1
        clear ownp hop hbp
        go_wp2_with (first | (at_builtin; (refine wpl_app rfl (.tmp 24) (.tmp 25) 24 rfl (.slice (some ⟨wo.heap.size, 0, none⟩) 0 0) b vp xp (by rfl) (by rfl) hrp ?_)) | (at_builtin; (refine wpList_append_lies _ (by rfl) _ _ _ (by rfl) wo.heap.size 38 i0 _ 4 32 Tryd.underlying24 hi hz0 hz1 hz2 rfl (by omega) vp (k) _ (by rfl) (Cp.out.alloc _) ⟨xp.heap.size, 0, none⟩ 1 1 [.int .i64 12, .int .i64 0, .int .i64 0, .int .i64 0] (by rfl) (by rfl) (World.news_of_block (cs := #[.int .i64 12, .int .i64 0, .int .i64 0, .int .i64 0]) (t := 38) (fr := (0, 0)) (heap_alloc_new xp _)) (by simp [Value.oneCell']) (by omega) (by unfold maxLen; omega) (by omega) (by simp; omega) (xp.heap.size + 1) (by simp) ?_); intro ggp capp zp hownp hgrowp hatp hltp; have Op := hide hownp; have Bp := hide ((Dp.out.alloc Dp.out.size _).grown hgrowp (by simp; omega) hobp); clear hownp hgrowp hatp hltp))
        refine (of_any _ (pushL k ++ [endI]) zp (ISt.of_owns (by rw [show (pushL k ++ [endI]).length = k + 1 by simp [pushL]; try omega, show inC (pushL k ++ [endI]) = inC (pushL k) ++ [.int .i64 12, .int .i64 0, .int .i64 0, .int .i64 0] by (first | exact inC_snoc _ _ | (rw [inC_app]; rfl))]; exact Op.out))).mono ?_
        rintro e wpa ⟨tap, fap, rfl, imp, bop⟩
        have Ep := hide (B2.out.trans ((Bp.out.trans (bop.mono Bp.out.size)).mono B2.out.size))
        have Fp := hide (Bp.out.trans (bop.mono Bp.out.size))
        have IMp := hide imp
        clear bop imp
        go_wp2_with fail
        refine (check_of G.out Z.out Ep.out (by simp [pushL]; omega) IMp.out HQ.out).mono ?_
        rintro e wpb ⟨rfl, bcp⟩
        have Hp := hide (Ep.out.trans (bcp.mono Ep.out.size))
        have Kp := hide (Fp.out.trans (bcp.mono Fp.out.size))
        clear bcp
        have OP := hide (owns_on OO.out Kp.out)
        go_wp2
        go_loopw [3, 45] (fun v i wx => ∃ (j : Nat) (c : Value), j ≤ k ∧ i = .int .i64 (j : Int) ∧ c = v ∧ Hid (wx.ownsRow w1.heap.size 38 4 c (k + j) (inC (bothL k j)) ∧ Below w1.heap.size w1 wx)) (fun _ i _ => k - (intOf i).toNat)
        case atStart => exact ⟨0, _, by omega, rfl, rfl, by rw [show bothL k 0 = pushL k by simp [bothL]]; exact OP.out, BB.out.trans (Kp.out.mono BB.out.size)⟩
        case round =>
          clear OO BB zr hob IXp Cp Dp yp lpp hobp hrp Op Bp Ep Fp IMp OP HQ Kp
          obtain ⟨j, b, hj, rfl, rfl, hh⟩ := hrel
          have OO := hide hh.out.1
          have BB := hide hh.out.2
          have zr := BB.out.size
          have l0 : (0 : Int) ≤ (j : Int) := by omega
          have hob : ∀ r, b.ownBlock = some r → w1.heap.size ≤ r := fun r hr => (OO.out.lt r hr).1
          clear hh
          by_cases hlt2 : j < k
          · have j1 : (j : Int) < (k : Int) := by omega
            have HN : Hid (inC (bothL k (j + 1)) = inC (bothL k j) ++ [.int .i64 3, .int .i64 1, .int .i64 0, .int .i64 0]) := by show _ = _; rw [both_succ, inC_snoc]; rfl
            go_wp2_with (at_builtin; go_must (refine wpList_append_lies _ (by rfl) _ _ _ (by rfl) w1.heap.size 38 i0 _ 4 32 Tryd.underlying24 hi hz0 hz1 hz2 rfl (by omega) b (k + j) _ (by rfl) (OO.out.alloc _) ⟨wr.heap.size, 0, none⟩ 1 1 [.int .i64 3, .int .i64 1, .int .i64 0, .int .i64 0] (by rfl) (by rfl) (World.news_of_block (cs := #[.int .i64 3, .int .i64 1, .int .i64 0, .int .i64 0]) (t := 38) (fr := (0, 0)) (heap_alloc_new wr _)) (by simp [Value.oneCell']) (by omega) (by unfold maxLen; omega) (by omega) (by simp; omega) (wr.heap.size + 1) (by simp) ?_; intro gg cap' w3 hown3 hgrow hat hlt3; have B3 := hide ((BB.out.alloc (by omega) _).grown hgrow (by simp; omega) hob)))
            go_roundw
            case rel => exact ⟨j + 1, _, by omega, by go_num, rfl, by rw [HN.out]; exact hown3, B3.out⟩
            case measure => simp [intOf]; omega
          · obtain rfl : j = k := by omega
            have j2 : ¬ (j : Int) < (j : Int) := by omega
            have B3 := hide (B1.out.trans (BB.out.mono B1.out.size))
            have HQ := hide (stores_deep j64)
            have HR := hide (stores_more j64)
            have IXd := hide (ISt.of_owns (l := bothL j j) (by rw [show (bothL j j).length = j + j by simp [bothL, pushL]]; exact OO.out) : ISt wr b (bothL j j))
            have ownd : (wr.alloc (.cells #[] 38)).ownsRow wr.heap.size 38 4 (.slice (some ⟨wr.heap.size, 0, none⟩) 0 0) 0 [] := World.ownsRow_lit (e := 38) (size := 4) wr #[] 0 (Nat.le_refl _) (by decide) rfl
            obtain ⟨vd, xd, hrd, hod, hbd⟩ := copy_ins (wr.alloc (.cells #[] 38)) wr.heap.size 24 wr.heap.size ownd b (bothL j j) (IXd.out.on ((Below.refl _ _).alloc (Nat.le_refl _) _)) (by simp [bothL, pushL]; omega) (by simp)
            have Cd := hide hod
            have Dd := hide (below_step (Below.refl wr.heap.size wr) hbd)
            have yd : wr.heap.size + 1 ≤ xd.heap.size := by have := hbd.size; simp at this; omega
            have lpd : (bothL j j).length = j + j := by simp [bothL, pushL]
            rw [lpd] at Cd hod
            have hobd : ∀ r, vd.ownBlock = some r → wr.heap.size ≤ r := fun r hr => (hod.lt r hr).1
            clear ownd hod hbd
            go_wp2_with (first | (at_builtin; (refine wpl_app rfl (.tmp 53) (.tmp 54) 24 rfl (.slice (some ⟨wr.heap.size, 0, none⟩) 0 0) b vd xd (by rfl) (by rfl) hrd ?_)) | (at_builtin; (refine wpList_append_lies _ (by rfl) _ _ _ (by rfl) wr.heap.size 38 i0 _ 4 32 Tryd.underlying24 hi hz0 hz1 hz2 rfl (by omega) vd (j + j) _ (by rfl) (Cd.out.alloc _) ⟨xd.heap.size, 0, none⟩ 1 1 [.int .i64 12, .int .i64 0, .int .i64 0, .int .i64 0] (by rfl) (by rfl) (World.news_of_block (cs := #[.int .i64 12, .int .i64 0, .int .i64 0, .int .i64 0]) (t := 38) (fr := (0, 0)) (heap_alloc_new xd _)) (by simp [Value.oneCell']) (by omega) (by unfold maxLen; omega) (by omega) (by simp; omega) (xd.heap.size + 1) (by simp) ?_); intro ggd capd zd hownd hgrowd hatd hltd; have Od := hide hownd; have Bd := hide ((Dd.out.alloc Dd.out.size _).grown hgrowd (by simp; omega) hobd); clear hownd hgrowd hatd hltd))
            refine (of_any _ (bothL j j ++ [endI]) zd (ISt.of_owns (by rw [show (bothL j j ++ [endI]).length = j + j + 1 by simp [bothL, pushL]; try omega, show inC (bothL j j ++ [endI]) = inC (bothL j j) ++ [.int .i64 12, .int .i64 0, .int .i64 0, .int .i64 0] by (first | exact inC_snoc _ _ | (rw [inC_app]; rfl))]; exact Od.out))).mono ?_
            rintro e wda ⟨tad, fad, rfl, imd, bod⟩
            have Ed := hide (B3.out.trans ((Bd.out.trans (bod.mono Bd.out.size)).mono B3.out.size))
            have Fd := hide (Bd.out.trans (bod.mono Bd.out.size))
            have IMd := hide imd
            clear bod imd
            go_wp2_with fail
            refine (deep_of G.out Z.out Ed.out (by simp [bothL, pushL]; omega) IMd.out HQ.out).mono ?_
            rintro e wdb ⟨rfl, bcd⟩
            have Hd := hide (Ed.out.trans (bcd.mono Ed.out.size))
            have Kd := hide (Fd.out.trans (bcd.mono Fd.out.size))
            clear bcd
            have OD := hide (owns_on OO.out Kd.out)
            have IXm := hide (ISt.of_owns (l := bothL j j) (by rw [show (bothL j j).length = j + j by simp [bothL, pushL]]; exact OD.out) : ISt wdb b (bothL j j))
            have ownm : (wdb.alloc (.cells #[] 38)).ownsRow wdb.heap.size 38 4 (.slice (some ⟨wdb.heap.size, 0, none⟩) 0 0) 0 [] := World.ownsRow_lit (e := 38) (size := 4) wdb #[] 0 (Nat.le_refl _) (by decide) rfl
            obtain ⟨vm, xm, hrm, hom, hbm⟩ := copy_ins (wdb.alloc (.cells #[] 38)) wdb.heap.size 24 wdb.heap.size ownm b (bothL j j) (IXm.out.on ((Below.refl _ _).alloc (Nat.le_refl _) _)) (by simp [bothL, pushL]; omega) (by simp)
            have Cm := hide hom
            have Dm := hide (below_step (Below.refl wdb.heap.size wdb) hbm)
            have ym : wdb.heap.size + 1 ≤ xm.heap.size := by have := hbm.size; simp at this; omega
            have lpm : (bothL j j).length = j + j := by simp [bothL, pushL]
            rw [lpm] at Cm hom
            have hobm : ∀ r, vm.ownBlock = some r → wdb.heap.size ≤ r := fun r hr => (hom.lt r hr).1
            clear ownm hom hbm
            go_wp2_with (first | (at_builtin; (refine wpl_app rfl (.tmp 64) (.tmp 65) 24 rfl (.slice (some ⟨wdb.heap.size, 0, none⟩) 0 0) b vm xm (by rfl) (by rfl) hrm ?_)) | (at_builtin; (refine wpList_append_lies _ (by rfl) _ _ _ (by rfl) wdb.heap.size 38 i0 _ 4 32 Tryd.underlying24 hi hz0 hz1 hz2 rfl (by omega) vm (j + j) _ (by rfl) (Cm.out.alloc _) ⟨xm.heap.size, 0, none⟩ 2 2 [.int .i64 3, .int .i64 1, .int .i64 0, .int .i64 0, .int .i64 12, .int .i64 0, .int .i64 0, .int .i64 0] (by rfl) (by rfl) (World.news_of_block (cs := #[.int .i64 3, .int .i64 1, .int .i64 0, .int .i64 0, .int .i64 12, .int .i64 0, .int .i64 0, .int .i64 0]) (t := 38) (fr := (0, 0)) (heap_alloc_new xm _)) (by simp [Value.oneCell']) (by omega) (by unfold maxLen; omega) (by omega) (by simp; omega) (xm.heap.size + 1) (by simp) ?_); intro ggm capm zm hownm hgrowm hatm hltm; have Om := hide hownm; have Bm := hide ((Dm.out.alloc Dm.out.size _).grown hgrowm (by simp; omega) hobm); clear hownm hgrowm hatm hltm))
            refine (of_any _ (bothL j j ++ [storeI, endI]) zm (ISt.of_owns (by rw [show (bothL j j ++ [storeI, endI]).length = j + j + 2 by simp [bothL, pushL]; try omega, show inC (bothL j j ++ [storeI, endI]) = inC (bothL j j) ++ [.int .i64 3, .int .i64 1, .int .i64 0, .int .i64 0, .int .i64 12, .int .i64 0, .int .i64 0, .int .i64 0] by (first | exact inC_snoc _ _ | (rw [inC_app]; rfl))]; exact Om.out))).mono ?_
            rintro e wma ⟨tam, fam, rfl, imm, bom⟩
            have Em := hide (Hd.out.trans ((Bm.out.trans (bom.mono Bm.out.size)).mono Hd.out.size))
            have Fm := hide (Bm.out.trans (bom.mono Bm.out.size))
            have IMm := hide imm
            clear bom imm
            go_wp2_with fail
            refine (check_of G.out Z.out Em.out (by simp [bothL, pushL]; omega) IMm.out HR.out).mono ?_
            rintro e wmb ⟨rfl, bcm⟩
            have Hm := hide (Em.out.trans (bcm.mono Em.out.size))
            have Km := hide (Fm.out.trans (bcm.mono Fm.out.size))
            clear bcm
            go_wp2
            go_ret
            exact ⟨rfl, Hm.out⟩
end Go.Proofs.YtlckedionmgjjaaDoor
