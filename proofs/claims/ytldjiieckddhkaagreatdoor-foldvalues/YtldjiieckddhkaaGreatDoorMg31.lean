/- RvW | FdW | ShelfS | NmW -/
import Derived.Test.YtldjiieckddhkaaGreatDoorRsW
import Derived.Shelf.Small.Bits
import Derived.Shelf.Strconv.Itoa0
import Derived.Shelf.LaysM
import Derived.Shelf.Strconv.Clone
import Derived.Shelf.Sort.Plain
import Derived.Shelf.Slices.CompactS
import Derived.Shelf.Slices.Cells
import Derived.Shelf.Slices.In.SortNone
import Derived.Test.YtldjiieckddhkaaGreatDoorProg
import Derived.Test.YtldjiieckddhkaaGreatDoorCkW
import Derived.Test.YtldjiieckddhkaaGreatDoorMg22
import Derived.Sort.OwnSorted
import Derived.Sort.Grow
import Derived.Lib.OwnBridge
namespace Go.Proofs.YtldjiieckddhkaaGreatDoor
open Go.RowKit
theorem well_may : ∀ {e : Ex}, well e → ∀ p ∈ flat e, mayP p = true
  | .leaf q, h, p, hp => by
    have hp : p ∈ [q] := hp
    obtain rfl := List.mem_singleton.1 hp
    exact h.2
  | .one q e, h, p, hp => by
    have hp : p ∈ flat e ++ [q] := hp
    rcases List.mem_append.1 hp with hp | hp
    · exact well_may h.2.2 p hp
    · obtain rfl := List.mem_singleton.1 hp
      exact h.2.1
  | .two q a b, h, p, hp => by
    have hp : p ∈ flat a ++ (flat b ++ [q]) := hp
    rcases List.mem_append.1 hp with hp | hp
    · exact well_may h.2.2.1 p hp
    · rcases List.mem_append.1 hp with hp | hp
      · exact well_may h.2.2.2 p hp
      · obtain rfl := List.mem_singleton.1 hp
        exact h.2.1
theorem find_err : ∀ {vs : List Vr} {s : Bs} {a : Bool × Bool} {er : Int}, findV vs s a = .error er → er ≠ 0
  | [], s, a, er, h => by
    unfold findV at h
    obtain rfl := Except.error.inj h
    decide
  | v :: vs, s, a, er, h => by
    unfold findV at h
    split at h
    · split at h
      · first | (obtain rfl := Except.error.inj h; decide) | cases h
      · first | (obtain rfl := Except.error.inj h; decide) | cases h
    · exact find_err h
theorem op_err {op : Int} {l r : Kd} {er : Int} (h : opK op l r = .error er) : er ≠ 0 := by
  unfold opK at h
  split at h
  · rename_i h1; rw [← Except.error.inj h]; exact h1
  · split at h
    · cases h
    · split at h
      · rename_i h1; rw [← Except.error.inj h]; exact h1
      · split at h
        · rename_i h1; rw [← Except.error.inj h]; exact h1
        · cases h
theorem part_err {vs : List Vr} {p : Pt} {on : List Kd} {er : Int} (h : partK vs p on = .error er) : er ≠ 0 := by
  unfold partK at h
  split at h
  · cases h
  · split at h
    · split at h
      · rename_i hf; rw [← Except.error.inj h]; exact find_err hf
      · cases h
    · split at h
      · split at h
        · rename_i hf; rw [← Except.error.inj h]; exact find_err hf
        · split at h
          · rename_i h1; rw [← Except.error.inj h]; exact h1
          · cases h
      · split at h
        · split at h
          · rename_i hf; rw [← Except.error.inj h]; exact find_err hf
          · split at h
            · rw [← Except.error.inj h]; decide
            · cases h
        · split at h
          · split at h
            · rename_i h1; rw [← Except.error.inj h]; exact h1
            · cases h
          · exact op_err h
theorem ev_err {vs : List Vr} : ∀ {e : Ex} {er : Int}, evT (partK vs) e = .error er → er ≠ 0
  | .leaf p, er, h => part_err (show partK vs p [] = .error er from h)
  | .one p e, er, h => by
    rw [evT_one] at h
    cases hk : evT (partK vs) e with
    | error q => rw [hk] at h; rw [← Except.error.inj h]; exact ev_err hk
    | ok u => rw [hk] at h; exact part_err h
  | .two p a b, er, h => by
    rw [evT_two] at h
    cases hk : evT (partK vs) a with
    | error q => rw [hk] at h; rw [← Except.error.inj h]; exact ev_err hk
    | ok u =>
      rw [hk] at h
      cases hk2 : evT (partK vs) b with
      | error q => rw [hk2] at h; rw [← Except.error.inj h]; exact ev_err hk2
      | ok u' => rw [hk2] at h; exact part_err h
theorem fits_tree {vs : List Vr} {x : List Pt} {t : Int} (h : fitsP vs x t = 0) : mayV vs = 0 ∧ checkP x = 0 ∧ ∃ e k, well e ∧ flat e = x ∧ dep e ≤ 24 ∧ x.length ≤ 500 ∧ evT (partK vs) e = .ok k ∧ kFits k t = 0 := by
  unfold fitsP at h
  cases ha : askP vs x with
  | error er =>
    rw [ha] at h
    have h : er = 0 := h
    subst h
    unfold askP at ha
    split at ha
    · rename_i h1; exact absurd (Except.error.inj ha) h1
    · split at ha
      · rename_i h1; exact absurd (Except.error.inj ha) h1
      · rename_i h1
        have hc : checkP x = 0 := Classical.byContradiction h1
        obtain ⟨e, h3, h4, -⟩ := check_tree hc
        unfold kindP at ha
        rw [← h4, run_tree _ h3] at ha
        cases hk : evT (partK vs) e with
        | error er =>
          rw [hk] at ha
          exact absurd (Except.error.inj ha) (ev_err hk)
        | ok k =>
          rw [hk] at ha
          have ha : (if k.typ = 0 ∧ kFits k 3 ≠ 0 then (Except.error 1 : Except Int Kd) else Except.ok k) = Except.error 0 := ha
          split at ha
          · cases ha
          · cases ha
  | ok k =>
    rw [ha] at h
    have h : kFits k t = 0 := h
    unfold askP at ha
    split at ha
    · cases ha
    · rename_i h1
      split at ha
      · cases ha
      · rename_i h2
        have hc : checkP x = 0 := Classical.byContradiction h2
        obtain ⟨e, h3, h4, h5, h6, h7⟩ := check_tree hc
        refine ⟨Classical.byContradiction h1, hc, e, k, h3, h4, h6, h7, ?_, h⟩
        unfold kindP at ha
        rw [← h4, run_tree _ h3] at ha
        cases hk : evT (partK vs) e with
        | error er => rw [hk] at ha; cases ha
        | ok k' =>
          rw [hk] at ha
          have ha : (if k'.typ = 0 ∧ kFits k' 3 ≠ 0 then (Except.error 1 : Except Int Kd) else Except.ok k') = Except.ok k := ha
          split at ha
          · cases ha
          · exact ha
theorem plst_nil (w : World) : PLst w (.slice none 0 0) [] := ⟨none, 0, 0, 0, rfl, fun h => absurd h (Nat.lt_irrefl 0), fun i x hx => by cases hx⟩
def StrOk (x : List Pv) : Prop := ∀ y ∈ x, y.s.size ≤ 140737488355000 ∧ y.f.size ≤ 140737488355000
def ResOut (vs : List Vr) (x : List Pt) (t : Int) (w : World) (e : Ending) (w' : World) : Prop :=
  (∃ (v : Value) (o : List Pv), e = .returned (.tuple #[v, .int .i64 (resolveP vs x t).2]) ∧ o.map ptV = (resolveP vs x t).1 ∧ PLst w' v o ∧ o.length ≤ x.length) ∧ Below w.heap.size w w'
set_option maxRecDepth 100000 in
set_option maxHeartbeats 1600000 in
theorem resolve_any (vv v : Value) (l : List Vv) (x : List Pv) (t : Int) (w : World) (hV : VLst w vv l) (hvl : l.length ≤ 4398046510976) (hcp : CapOk vv) (hX : PLst w v x) (hxl : x.length ≤ 4398046510976) (hs : StrOk x) (hg : Glo w) :
    Calls Tryz.prog 9 #[vv, v, .int .i64 t] w (ResOut (l.map vrV) (x.map ptV) t w) := by
  have m1 := fitsT_any vv v l x t w hV hvl hcp hX hxl hg
  have shV := hV
  have shX := hX
  obtain ⟨va, vb, voff, vcap, rfl, -⟩ := shV
  obtain ⟨xa, xb, xoff, xcap, rfl, -⟩ := shX
  by_cases h0 : fitsP (l.map vrV) (x.map ptV) t = 0
  · obtain ⟨hmv, hc, e, k, he1, he2, he3, he4, he5, he6⟩ := fits_tree h0
    have hv := may_vOk hmv
    have hrun : mRun (partR (l.map vrV)) (x.map ptV) [] = .ok [⟨k, flat (resE (l.map vrV) e)⟩] := by rw [← he2, run_tree _ he1, evR_tree hv he1 he5]
    have hpos : 1 ≤ x.length := by have := flat_pos e; rw [he2, List.length_map] at this; exact this
    have m2 : Hid (∀ W, Below w.heap.size w W → Calls Tryz.prog 24 #[.slice va l.length vcap, .slice xa x.length xcap, .int .i64 t] W fun e w' => (∃ (ov : Value) (o : List Pv), e = .returned ov ∧ o.map ptV = resP (l.map vrV) (x.map ptV) t ∧ PLst w' ov o ∧ o.length = x.length) ∧ Below W.heap.size W w') := fun W hb =>
      resolved_any _ _ l x t W _ (hV.below hb (Nat.le_refl _)) hvl hcp (hX.below hb (Nat.le_refl _)) (hg.below hb hg.lt) (by rw [List.length_map] at he4; exact he4) hpos (by rw [← he2]; exact well_may he1) (by rw [← he2]; exact wf_tree he1) hmv hs hrun (by rw [← he2]; exact nf_flat he1 (fits_nums hv he1 he5 he6))
    have HR : Hid (∀ v' o w', o.map ptV = resP (l.map vrV) (x.map ptV) t → PLst w' v' o → o.length = x.length → Below w.heap.size w w' → ResOut (l.map vrV) (x.map ptV) t w (.returned (.tuple #[v', .int .i64 0])) w') := fun v' o w' e1 e2 e3 e4 => by
      unfold ResOut resolveP
      rw [if_neg (fun h => h h0)]
      exact ⟨⟨v', o, rfl, e1, e2, by rw [List.length_map]; omega⟩, e4⟩
    rw [h0] at m1
    generalize ResOut (l.map vrV) (x.map ptV) t w = Post at *
    generalize l.length = LL at *
    generalize x.length = XL at *
    clear hV hX hg hs h0 hc hrun hcp
    go_enter Tryz.func9, Tryz.ntmps9
    go_wp2_with (first | (go_at_call 23; refine m1.mono ?_; rintro e w1 ⟨rfl, hb1⟩) | (go_at_call 24; refine (m2.out _ hb1).mono ?_; rintro e w2 ⟨⟨ov, o, rfl, ho1, ho2, ho3⟩, hb2⟩))
    exact HR.out _ o _ ho1 ho2 ho3 (hb1.trans (hb2.mono hb1.size))
  · have HR : Hid (∀ w', Below w.heap.size w w' → ResOut (l.map vrV) (x.map ptV) t w (.returned (.tuple #[.slice none 0 0, .int .i64 (fitsP (l.map vrV) (x.map ptV) t)])) w') := fun w' hb => by
      unfold ResOut resolveP
      rw [if_pos h0]
      exact ⟨⟨_, [], rfl, rfl, plst_nil w', Nat.zero_le _⟩, hb⟩
    generalize ResOut (l.map vrV) (x.map ptV) t w = Post at *
    generalize fitsP (l.map vrV) (x.map ptV) t = F at *
    generalize l.length = LL at *
    generalize x.length = XL at *
    clear hV hX hg hs hcp
    go_enter Tryz.func9, Tryz.ntmps9
    go_wp2_with (first | (go_at_call 23; refine m1.mono ?_; rintro e w1 ⟨rfl, hb1⟩))
    exact HR.out _ hb1
end Go.Proofs.YtldjiieckddhkaaGreatDoor
namespace Go.Proofs.YtldjiieckddhkaaGreatDoor
open Go.RowKit
theorem plst_own {w : World} {base : Nat} {v : Value} {o : List Pv} (h : w.ownsRow base 38 5 v o.length (pvsC o)) : PLst w v o := by
  rcases h.2 with ⟨hv, h0⟩ | ⟨g, cap, cur, hv, hb, hg, hn, hm, hc, ht⟩
  · obtain rfl := List.eq_nil_of_length_eq_zero h0
    subst hv
    exact plst_nil w
  · subst hv
    exact plst_block (rest := cur.toList.drop (o.length * 5)) hg (by rw [← ht, List.take_append_drop]) rfl
def FoldOut (vs : List Vr) (x : List Pt) (t : Int) (w : World) (e : Ending) (w' : World) : Prop :=
  (∃ (v : Value) (o : List Pv), e = .returned (.tuple #[v, .int .i64 (foldAll vs x t).2]) ∧ o.map ptV = (foldAll vs x t).1 ∧ PLst w' v o) ∧ Below w.heap.size w w'
theorem res_is {vs : List Vr} {x : List Pt} {t : Int} (h : (resolveP vs x t).2 = 0) : ∃ e r, well e ∧ flat e = x ∧ Rt vs e r t ∧ (resolveP vs x t).1 = flat r ∧ x.length ≤ 500 ∧ vOk vs := by
  unfold resolveP at h ⊢
  by_cases h0 : fitsP vs x t = 0
  · rw [if_neg (fun h => h h0)] at h ⊢
    obtain ⟨hmv, hc, e, k, he1, he2, he3, he4, he5, he6⟩ := fits_tree h0
    obtain ⟨r1, r2⟩ := res_tree (may_vOk hmv) he1 he5 he6
    rw [he2] at r2
    exact ⟨e, _, he1, he2, r1, r2, he4, may_vOk hmv⟩
  · rw [if_pos h0] at h
    exact absurd h h0
set_option maxRecDepth 100000 in
set_option maxHeartbeats 1600000 in
theorem fold_any (vv v : Value) (l : List Vv) (x : List Pv) (t : Int) (w : World) (hV : VLst w vv l) (hvl : l.length ≤ 4398046510976) (hcp : CapOk vv) (hX : PLst w v x) (hxl : x.length ≤ 4398046510976) (hs : StrOk x) (hg : Glo w) :
    Calls Tryz.prog 11 #[vv, v, .int .i64 t] w (FoldOut (l.map vrV) (x.map ptV) t w) := by
  have m1 := resolve_any vv v l x t w hV hvl hcp hX hxl hs hg
  unfold ResOut at m1
  have shV := hV
  have shX := hX
  obtain ⟨va, vb, voff, vcap, rfl, -⟩ := shV
  obtain ⟨xa, xb, xoff, xcap, rfl, -⟩ := shX
  by_cases h0 : (resolveP (l.map vrV) (x.map ptV) t).2 = 0
  · obtain ⟨e, r, he1, he2, hr, hr1, hx5, hvo⟩ := res_is h0
    have m2 : Hid (∀ W v' o, Below w.heap.size w W → o.map ptV = (resolveP (l.map vrV) (x.map ptV) t).1 → PLst W v' o → o.length ≤ (x.map ptV).length → Calls Tryz.prog 27 #[v'] W fun e w' => (∃ (ov : Value) (o' : List Pv), e = .returned ov ∧ o'.map ptV = foldP (resolveP (l.map vrV) (x.map ptV) t).1 ∧ PLst w' ov o') ∧ Below W.heap.size W w') := fun W v' o hb ho hP hl => by
      have hpos : 1 ≤ o.length := by have := flat_pos r; rw [← hr1, ← ho, List.length_map] at this; exact this
      refine (folded_any v' o W hP (hg.below hb hg.lt) (by omega) hpos (by rw [ho, hr1]; exact well_may hr.wel) (by rw [ho, hr1]; exact wf_tree hr.wel)).mono ?_
      rintro e w' ⟨⟨ov, o', h1, h2, h3⟩, h4⟩
      exact ⟨⟨ov, o', h1, by rw [h2, ho], plst_own h3⟩, h4⟩
    have HR : Hid (∀ v' o w', o.map ptV = foldP (resolveP (l.map vrV) (x.map ptV) t).1 → PLst w' v' o → Below w.heap.size w w' → FoldOut (l.map vrV) (x.map ptV) t w (.returned (.tuple #[v', .int .i64 0])) w') := fun v' o w' e1 e2 e4 => by
      unfold FoldOut foldAll
      rw [if_neg (fun h => h h0)]
      exact ⟨⟨v', o, rfl, e1, e2⟩, e4⟩
    rw [h0] at m1
    generalize FoldOut (l.map vrV) (x.map ptV) t w = Post at *
    generalize (resolveP (l.map vrV) (x.map ptV) t).1 = R at *
    generalize (x.map ptV).length = XL2 at *
    generalize l.length = LL at *
    generalize x.length = XL at *
    clear hV hX hg hs h0 hcp he2 hr hr1
    go_enter Tryz.func11, Tryz.ntmps11
    go_wp2_with (first | (go_at_call 9; refine m1.mono ?_; rintro e w1 ⟨⟨v1, o1, rfl, ho1, ho2, ho3⟩, hb1⟩) | (go_at_call 27; refine (m2.out _ _ o1 hb1 ho1 ho2 ho3).mono ?_; rintro e w2 ⟨⟨ov, o, rfl, hp1, hp2⟩, hb2⟩))
    exact HR.out _ o _ hp1 hp2 (hb1.trans (hb2.mono hb1.size))
  · have HR : Hid (∀ w', Below w.heap.size w w' → FoldOut (l.map vrV) (x.map ptV) t w (.returned (.tuple #[.slice none 0 0, .int .i64 (resolveP (l.map vrV) (x.map ptV) t).2])) w') := fun w' hb => by
      unfold FoldOut foldAll
      rw [if_pos h0]
      exact ⟨⟨_, [], rfl, rfl, plst_nil w'⟩, hb⟩
    generalize FoldOut (l.map vrV) (x.map ptV) t w = Post at *
    generalize (resolveP (l.map vrV) (x.map ptV) t).1 = R at *
    generalize (resolveP (l.map vrV) (x.map ptV) t).2 = F at *
    generalize (x.map ptV).length = XL2 at *
    generalize l.length = LL at *
    generalize x.length = XL at *
    clear hV hX hg hs hcp
    go_enter Tryz.func11, Tryz.ntmps11
    go_wp2_with (first | (go_at_call 9; refine m1.mono ?_; rintro e w1 ⟨⟨v1, o1, rfl, ho1, ho2, ho3⟩, hb1⟩))
    exact HR.out _ hb1
end Go.Proofs.YtldjiieckddhkaaGreatDoor
namespace Go.Proofs
open Go.Shelf
def Tryz.lays190_ren : Go.Shelf.Ren := ⟨fun | 190 => 38 | 125 => 80 | 258 => 79 | 128 => 119 | 129 => 120 | 302 => 110 | 303 => 111 | 304 => 112 | 305 => 113 | 306 => 114 | 307 => 115 | 308 => 116 | 309 => 117 | 310 => 118 | 333 => 145 | 329 => 146 | 330 => 147 | 334 => 148 | 335 => 149 | 336 => 150 | 344 => 164 | n => n, fun | 31 => 44 | 9 => 9 | 3 => 3 | 46 => 105 | 0 => 0 | 51 => 144 | 53 => 40 | 4 => 4 | 183 => 137 | 182 => 136 | 131 => 101 | 5 => 5 | 218 => 167 | 222 => 171 | 228 => 189 | 229 => 174 | n => n, fun | n => n⟩
theorem Tryz.lays190 : Go.Proofs.Lays.n190 Tryz.prog Tryz.lays190_ren := {
  mixed := by kernel_rfl
  f125 := Tryz.func80.trans (congrArg some (by kernel_rfl))
  f128 := Tryz.func119.trans (congrArg some (by kernel_rfl))
  f129 := Tryz.func120.trans (congrArg some (by kernel_rfl))
  f190 := Tryz.func38.trans (congrArg some (by kernel_rfl))
  f258 := Tryz.func79.trans (congrArg some (by kernel_rfl))
  f302 := Tryz.func110.trans (congrArg some (by kernel_rfl))
  f303 := Tryz.func111.trans (congrArg some (by kernel_rfl))
  f304 := Tryz.func112.trans (congrArg some (by kernel_rfl))
  f305 := Tryz.func113.trans (congrArg some (by kernel_rfl))
  f306 := Tryz.func114.trans (congrArg some (by kernel_rfl))
  f307 := Tryz.func115.trans (congrArg some (by kernel_rfl))
  f308 := Tryz.func116.trans (congrArg some (by kernel_rfl))
  f309 := Tryz.func117.trans (congrArg some (by kernel_rfl))
  f310 := Tryz.func118.trans (congrArg some (by kernel_rfl))
  f329 := Tryz.func146.trans (congrArg some (by kernel_rfl))
  f330 := Tryz.func147.trans (congrArg some (by kernel_rfl))
  f333 := Tryz.func145.trans (congrArg some (by kernel_rfl))
  f334 := Tryz.func148.trans (congrArg some (by kernel_rfl))
  f335 := Tryz.func149.trans (congrArg some (by kernel_rfl))
  f336 := Tryz.func150.trans (congrArg some (by kernel_rfl))
  f344 := Tryz.func164.trans (congrArg some (by kernel_rfl))
  t0 := Tryz.underlying0
  a0 := Tryz.isAgg0
  z0 := Tryz.sizeOf0
  v0 := Tryz.zeroValue0
  t3 := Tryz.underlying3
  a3 := Tryz.isAgg3
  z3 := Tryz.sizeOf3
  v3 := Tryz.zeroValue3
  t4 := Tryz.underlying4
  a4 := Tryz.isAgg4
  z4 := Tryz.sizeOf4
  v4 := Tryz.zeroValue4
  t5 := Tryz.underlying5
  a5 := Tryz.isAgg5
  z5 := Tryz.sizeOf5
  v5 := Tryz.zeroValue5
  t9 := Tryz.underlying9
  a9 := Tryz.isAgg9
  z9 := Tryz.sizeOf9
  v9 := Tryz.zeroValue9
  t31 := Tryz.underlying44
  a31 := Tryz.isAgg44
  z31 := Tryz.sizeOf44
  v31 := Tryz.zeroValue44
  t46 := Tryz.underlying105
  a46 := Tryz.isAgg105
  z46 := Tryz.sizeOf105
  v46 := Tryz.zeroValue105
  t51 := Tryz.underlying144
  a51 := Tryz.isAgg144
  z51 := Tryz.sizeOf144
  v51 := Tryz.zeroValue144
  t53 := Tryz.underlying40
  a53 := Tryz.isAgg40
  z53 := Tryz.sizeOf40
  v53 := Tryz.zeroValue40
  t131 := Tryz.underlying101
  a131 := Tryz.isAgg101
  z131 := Tryz.sizeOf101
  v131 := Tryz.zeroValue101
  t182 := Tryz.underlying136
  a182 := Tryz.isAgg136
  z182 := Tryz.sizeOf136
  v182 := Tryz.zeroValue136
  t183 := Tryz.underlying137
  a183 := Tryz.isAgg137
  z183 := Tryz.sizeOf137
  v183 := Tryz.zeroValue137
  t218 := Tryz.underlying167
  a218 := Tryz.isAgg167
  z218 := Tryz.sizeOf167
  v218 := Tryz.zeroValue167
  t222 := Tryz.underlying171
  a222 := Tryz.isAgg171
  z222 := Tryz.sizeOf171
  v222 := Tryz.zeroValue171
  t228 := Tryz.underlying189
  a228 := Tryz.isAgg189
  z228 := Tryz.sizeOf189
  v228 := Tryz.zeroValue189
  t229 := Tryz.underlying174
  a229 := Tryz.isAgg174
  z229 := Tryz.sizeOf174
  v229 := Tryz.zeroValue174 }
open Go.Sort Go.RowKit in
theorem Tryz.slices_Sort_string (blk off cap : Nat) (ss : List (List UInt8)) (w : World) (hH : Holds encStr w blk off ss.toArray) (hblk : blk < w.heap.size) (hsz : ss.length < 4611686018427387904) :
    Calls Tryz.prog 38 #[.slice (some ⟨blk, off, none⟩) ss.length cap] w fun e w' =>
      e = .returned (.tuple #[]) ∧ ∃ n os, w' = grow (putRow encStr (Sort.ahead w n) blk off (ss.mergeSort fun x y => decide (x ≤ y)).toArray) os := Any.slices_Sort_string Tryz.lays190 blk off cap ss w hH hblk hsz
def Tryz.lays194_ren : Go.Shelf.Ren := ⟨fun | 194 => 39 | n => n, fun | 31 => 44 | 9 => 9 | 3 => 3 | 4 => 4 | 0 => 0 | n => n, fun | n => n⟩
theorem Tryz.lays194 : Go.Proofs.Lays.n194 Tryz.prog Tryz.lays194_ren := {
  mixed := by kernel_rfl
  f194 := Tryz.func39.trans (congrArg some (by kernel_rfl))
  t0 := Tryz.underlying0
  a0 := Tryz.isAgg0
  z0 := Tryz.sizeOf0
  v0 := Tryz.zeroValue0
  t3 := Tryz.underlying3
  a3 := Tryz.isAgg3
  z3 := Tryz.sizeOf3
  v3 := Tryz.zeroValue3
  t4 := Tryz.underlying4
  a4 := Tryz.isAgg4
  z4 := Tryz.sizeOf4
  v4 := Tryz.zeroValue4
  t9 := Tryz.underlying9
  a9 := Tryz.isAgg9
  z9 := Tryz.sizeOf9
  v9 := Tryz.zeroValue9
  t31 := Tryz.underlying44
  a31 := Tryz.isAgg44
  z31 := Tryz.sizeOf44
  v31 := Tryz.zeroValue44 }
open Go.RowKit Go.Lib Go.Sort in
theorem Tryz.slices_Compact_string (blk off cap : Nat) (zs : List (List UInt8)) (w : World) (hH : Holds encStr w blk off zs.toArray) (hsz : zs.length ≤ 9223372036854775807) (hcap : zs.length ≤ cap) :
    Calls Tryz.prog 39 #[.slice (some ⟨blk, off, none⟩) zs.length cap] w fun e w' => e = .returned (.slice (some ⟨blk, off, none⟩) (Lib.compact zs).length cap) ∧ ∃ q, w' = putRow encStr (Sort.ahead w q) blk off (Lib.compact zs ++ List.replicate (zs.length - (Lib.compact zs).length) []).toArray := Any.slices_Compact_string Tryz.lays194 blk off cap zs w hH hsz hcap
open Go.RowKit Go.Lib Go.Sort in
theorem Tryz.slices_Compact_string_empty (a : Option Addr) (cap : Nat) (w : World) :
    Calls Tryz.prog 39 #[.slice a 0 cap] w fun e w' => e = .returned (.slice a 0 cap) ∧ w' = w := Any.slices_Compact_string_empty Tryz.lays194 a cap w
open Go.RowKit Go.Sort in
theorem Tryz.slices_Sort_string_none (p : Option Addr) (cap : Nat) (w : World) :
    Calls Tryz.prog 38 #[.slice p 0 cap] w fun e w' => e = .returned (.tuple #[]) ∧ w' = w := Any.slices_Sort_string_none Tryz.lays190 p cap w
end Go.Proofs
namespace Go.Proofs.YtldjiieckddhkaaGreatDoor
open Go.RowKit Go.Sort Go.Lib
theorem in9 : (Tryz.prog.info? 9).map (fun i => (i.zero, i.size, i.bytes)) = some (some (.string ⟨#[]⟩), 1, 16) := by kernel_rfl
def nmsL (x : List Pt) : List Bs := (x.map (·.s)).filter fun s => !s.isEmpty
def nmsS (x : List Pt) : List Bs := Lib.compact ((nmsL x).mergeSort fun a b => decide (a ≤ b))
theorem name_len {s : Bs} (h : nameB s = true) : s.length ≤ 24 := by
  unfold nameB at h
  rw [Bool.and_eq_true] at h
  have h2 := h.2
  unfold wordB at h2
  cases s with
  | nil => simp
  | cons c r =>
    simp only [Bool.and_eq_true, decide_eq_true_eq] at h2
    exact h2.1
theorem may_s {p : Pt} (h : mayP p = true) : p.s.length ≤ 24 := by
  have key : p.s = [] ∨ nameB p.s = true := by
    unfold mayP at h
    split at h
    · simp at h; exact .inl h.1
    · split at h
      · simp at h; exact .inr h.2.2.2
      · split at h
        · simp at h; exact .inr h.2.2.1
        · split at h
          · simp at h; exact .inl h.1
          · split at h
            · simp at h; exact .inl h.1
            · cases h
  rcases key with h | h
  · rw [h]; simp
  · exact name_len h
theorem nms_take (x : List Pt) (k : Nat) (p : Pt) (h : x[k]? = some p) : nmsL (x.take (k + 1)) = if p.s.isEmpty then nmsL (x.take k) else nmsL (x.take k) ++ [p.s] := by
  unfold nmsL
  rw [List.take_add_one, h, List.map_append, List.filter_append]
  show _ ++ [p.s].filter _ = _
  rw [List.filter_cons]
  cases p.s.isEmpty <;> simp
def NamesOut (base : Nat) (x : List Pt) (e : Ending) (w' : World) : Prop :=
  (checkP x ≠ 0 ∧ e = .returned (.tuple #[.slice none 0 0, .int .i64 (checkP x)])) ∨ (checkP x = 0 ∧ ∃ v, e = .returned (.tuple #[v, .int .i64 0]) ∧ w'.ownsRow base 9 1 v (nmsS x).length ((nmsS x).map encStr))
theorem check_parts {x : List Pt} (h : checkP x = 0) : x.length ≤ 500 ∧ ∀ p ∈ x, mayP p = true := by
  unfold checkP at h
  split at h
  · cases h
  · next h5 =>
    split at h
    · cases h
    · next ha =>
      refine ⟨by omega, fun p hp => ?_⟩
      have ha' : x.all mayP = true := by simpa using ha
      exact List.all_eq_true.1 ha' p hp
theorem one_str (w : World) (s : ByteArray) : ∀ j u, ([Value.string s])[j]? = some u → (w.alloc (.cells #[.string s] 9)).cell? ((⟨w.heap.size, 0, none⟩ : Addr).add j) = some u := fun j u hj => by
  match j, hj with
  | 0, hj => simp at hj; subst hj; simp [Addr.add]
set_option maxRecDepth 100000 in
set_option maxHeartbeats 3200000 in
theorem names_any (v : Value) (x : List Pv) (w : World) (hL : PLst w v x) (hlen : x.length ≤ 4398046510976) (hg : Glo w) : Calls Tryz.prog 22 #[v] w fun e w' => NamesOut w.heap.size (x.map ptV) e w' ∧ Below w.heap.size w w' := by
  have c0 := check_any v x w hL hlen hg
  have HL := hide hL
  obtain ⟨C, hC⟩ : ∃ C, C = checkP (x.map ptV) := ⟨_, rfl⟩
  rw [← hC] at c0
  obtain ⟨a, b, off, cap, rfl, hA, hI⟩ := hL
  by_cases h0 : C = 0
  · obtain ⟨hx5, hmay⟩ := check_parts (hC.symm.trans h0)
    rw [List.length_map] at hx5
    obtain ⟨i0, hi, hz0, hz1, hz2⟩ := info_parts in9
    have HA := hide hA
    have HI := hide hI
    have HM := hide hmay
    have HC0 : Hid (checkP (x.map ptV) = 0) := hC.symm.trans h0
    obtain ⟨N, hN⟩ : ∃ N, N = x.length := ⟨_, rfl⟩
    have HN := hide hN
    rw [← hN] at hx5 c0 ⊢
    have n5 : (N : Int) ≤ 500 := by omega
    subst h0
    clear hA hI hmay hN hC hlen hg HL
    go_enter Tryz.func22, Tryz.ntmps22
    go_wp2_with fail
    refine c0.mono ?_
    rintro e w0 ⟨rfl, hb0⟩
    have B0 := hide hb0
    clear c0 hb0
    go_wp2_with fail
    go_loopw [5, 15] (fun nv i wr => ∃ (k : Nat) (nv' : Value), k ≤ N ∧ i = .int .i64 (k : Int) ∧ nv' = nv ∧ Hid (wr.ownsRow w.heap.size 9 1 nv' (nmsL ((x.map ptV).take k)).length ((nmsL ((x.map ptV).take k)).map encStr) ∧ (nmsL ((x.map ptV).take k)).length ≤ k ∧ Below w.heap.size w wr)) (fun _ i _ => N - (intOf i).toNat)
    case atStart => exact ⟨0, .slice none 0 0, by omega, rfl, rfl, World.ownsRow_nil _ _ _ _, Nat.le_refl _, B0.out⟩
    case round =>
      clear B0
      obtain ⟨k, nv, hk, rfl, rfl, hh⟩ := hrel
      have O := hide hh.out.1
      have hnl := hh.out.2.1
      have HB := hide hh.out.2.2
      clear hh
      by_cases hlt : k < N
      · have j1 : (k : Int) < (N : Int) := by omega
        have j0 : (0 : Int) ≤ (k : Int) := by omega
        obtain ⟨y, hy⟩ : ∃ y, x[k]? = some y := ⟨_, List.getElem?_eq_getElem (by rw [← HN.out]; exact hlt)⟩
        have hy' : (x.map ptV)[k]? = some (ptV y) := by rw [List.getElem?_map, hy]; rfl
        have HTK := hide (nms_take _ k _ hy')
        have hsl := may_s (HM.out _ (List.mem_of_getElem? hy'))
        obtain ⟨hbw, rfl⟩ := HA.out (by rw [← HN.out]; omega)
        obtain ⟨q0, q1, q2, q3, q4⟩ := HI.out k y hy
        have c0 := (HB.out.cell (p := ⟨b, off + k * 5, none⟩) hbw).trans q0
        have c1 := (HB.out.cell (p := ⟨b, off + k * 5 + 1, none⟩) hbw).trans q1
        have c2 := (HB.out.cell (p := ⟨b, off + k * 5 + 2, none⟩) hbw).trans q2
        have c3 := (HB.out.cell (p := ⟨b, off + k * 5 + 3, none⟩) hbw).trans q3
        have c4 := (HB.out.cell (p := ⟨b, off + k * 5 + 4, none⟩) hbw).trans q4
        have hss : (ptV y).s = y.s.data.toList := rfl
        rw [hss] at HTK hsl
        have hsz : y.s.size ≤ 24 := by rw [← text_len]; exact hsl
        have zr := HB.out.size
        have b1 := HB.out.alloc zr (.cells #[.int .i64 y.k, .int .i64 y.n, .int .i64 y.t, .string y.s, .string y.f] 38)
        have o1 := own_on O.out ((Below.refl wr.heap.size wr).alloc (Nat.le_refl _) (.cells #[.int .i64 y.k, .int .i64 y.n, .int .i64 y.t, .string y.s, .string y.f] 38))
        have B1 := hide b1
        have O1 := hide o1
        have m1 := fun W => sclone_any y.s (by omega) W
        have hem : y.s.toList.isEmpty = y.s.data.toList.isEmpty := by rw [ByteArray.toList_eq]
        clear q0 q1 q2 q3 q4 hy hy' hss hsl b1 o1 O HB
        cases hq : y.s.data.toList.isEmpty with
        | true =>
          rw [hq] at hem HTK
          rw [if_pos rfl] at HTK
          clear hq m1
          go_wp2
          go_roundw
          case rel => exact ⟨k + 1, nv, by omega, by go_num, rfl, by rw [HTK.out]; exact O1.out, by rw [HTK.out]; omega, B1.out⟩
          case measure => simp [intOf]; omega
        | false =>
          rw [hq] at hem HTK
          rw [if_neg (by decide)] at HTK
          clear hq
          go_wp2_with fail
          refine (m1 _).mono ?_
          rintro e w2 ⟨rfl, hb2⟩
          have B2 := hide (B1.out.trans (hb2.mono B1.out.size))
          have O2 := hide (own_on O1.out hb2)
          have z2 := B2.out.size
          clear m1 hb2 c0 c1 c2 c3 c4 O1 B1
          go_wp2_with (at_builtin; go_must (refine wpList_append_own _ (by rfl) _ _ 44 (by rfl) w.heap.size 9 i0 (.string ⟨#[]⟩) 1 16 Tryz.underlying44 hi hz0 hz1 hz2 rfl (by decide) nv _ _ (by rfl) (O2.out.alloc _) ⟨w2.heap.size, 0, none⟩ 1 1 [.string y.s] (by rfl) (by rfl) (one_str w2 y.s) (by intro u hu; simp at hu; subst hu; rfl) (by unfold maxLen; omega) (by omega) (by rw [World.size_alloc]; omega) ?_; intro nv3 w3 hown3 hgrow3 _))
          have B3 := hide ((B2.out.alloc z2 _).grown hgrow3 (by rw [World.size_alloc]; omega) (fun r hr => (O2.out.lt r hr).1))
          have O3 : Hid (w3.ownsRow w.heap.size 9 1 nv3 (nmsL ((x.map ptV).take (k + 1))).length ((nmsL ((x.map ptV).take (k + 1))).map encStr)) := by
            show World.ownsRow _ _ _ _ _ _ _
            rw [HTK.out, List.length_append, List.map_append]
            rw [show [y.s.data.toList].map encStr = [.string y.s] from by show [Value.string ⟨y.s.data.toList.toArray⟩] = _; rw [text_back]]
            exact hown3
          clear hown3 hgrow3 O2 B2
          go_wp2
          go_roundw
          case rel => exact ⟨k + 1, nv3, by omega, by go_num, rfl, O3.out, by rw [HTK.out, List.length_append]; simp; omega, B3.out⟩
          case measure => simp [intOf]; omega
      · obtain rfl : k = N := by omega
        have htk : (x.map ptV).take k = x.map ptV := List.take_of_length_le (by rw [List.length_map, ← HN.out]; exact Nat.le_refl _)
        have ho := O.out
        rw [htk] at ho hnl
        clear htk O
        have HSS : Hid (nmsS (x.map ptV) = Lib.compact ((nmsL (x.map ptV)).mergeSort fun a b => decide (a ≤ b))) := rfl
        obtain ⟨ss, hss⟩ : ∃ ss, ss = nmsL (x.map ptV) := ⟨_, rfl⟩
        rw [← hss] at ho hnl HSS
        clear hss
        by_cases hnil : nv = .slice none 0 0
        · subst hnil
          have hs0 : ss = [] := by
            rcases ho.2 with ⟨_, h⟩ | ⟨_, _, _, h, _⟩
            · exact List.eq_nil_of_length_eq_zero h
            · cases h
          subst hs0
          have HS0 : Hid (nmsS (x.map ptV) = []) := by show _ = _; rw [HSS.out, List.mergeSort_nil]; rfl
          have d1 := fun W => Tryz.slices_Sort_string_none none 0 W
          have d2 := fun W => Tryz.slices_Compact_string_empty none 0 W
          clear ho hnl HSS
          go_wp2_with fail
          refine (d1 _).mono ?_
          rintro e w2 ⟨rfl, hw2⟩
          subst hw2
          go_wp2_with fail
          refine (d2 _).mono ?_
          rintro e w3 ⟨rfl, hw3⟩
          subst hw3
          clear d1 d2
          go_wp2
          go_ret2
          refine ⟨.inr ⟨HC0.out, .slice none 0 0, rfl, ?_⟩, HB.out⟩
          rw [HS0.out]
          exact World.ownsRow_nil _ _ _ _
        · obtain ⟨g, cap2, rfl, hbg, hgl, hncap, hcm, _, hH⟩ := Lib.holds_of_ownsRow ho hnil
          have d1 := Tryz.slices_Sort_string g 0 cap2 ss wr hH hgl (by omega)
          obtain ⟨ts, hts⟩ : ∃ ts, ts = ss.mergeSort fun a b => decide (a ≤ b) := ⟨_, rfl⟩
          have hl2 : ts.length = ss.length := by rw [hts]; exact List.length_mergeSort ss
          rw [← hts] at d1 HSS
          have HX := hide (And.intro ho (And.intro hbg (And.intro hgl (And.intro hncap hH))))
          obtain ⟨n, hn⟩ : ∃ n, n = ss.length := ⟨_, rfl⟩
          have HNN := hide hn
          rw [← hn] at d1 hl2 hnl hncap ⊢
          have HL2 := hide hl2
          clear ho hH hnil hts hn hl2 hbg hgl hcm
          go_wp2_with fail
          refine d1.mono ?_
          rintro e w2 ⟨rfl, nn, os, rfl⟩
          have hH2 : Holds encStr (grow (putRow encStr (Sort.ahead wr nn) g 0 ts.toArray) os) g 0 ts.toArray :=
            holds_grow encStr _ os g 0 _ (by simpa [putRow, mapBlock, Sort.ahead] using HX.out.2.2.1) (holds_putRow encStr _ g 0 _ _ (holds_ahead encStr wr nn g 0 _ HX.out.2.2.2.2) (by simp [HL2.out, HNN.out]))
          have d2 := Tryz.slices_Compact_string g 0 cap2 ts _ hH2 (by rw [HL2.out]; omega) (by rw [HL2.out]; exact hncap)
          rw [HL2.out] at d2
          clear d1 hH2
          obtain ⟨W2, hW2⟩ : ∃ W2, W2 = grow (putRow encStr (Sort.ahead wr nn) g 0 ts.toArray) os := ⟨_, rfl⟩
          rw [← hW2] at d2 ⊢
          have HW2 := hide hW2
          clear hW2
          go_wp2_with fail
          refine d2.mono ?_
          rintro e w3 ⟨rfl, q, hw3⟩
          have HW3 := hide hw3
          clear d2 hw3
          go_wp2
          go_ret2
          have hle2 := Lib.compact_length_le ts
          rcases HX.out.1.2 with ⟨hx0, _⟩ | ⟨g', cap', cur, hv, hbase, hb, h1, h2, h3, h4⟩
          · cases hx0
          cases hv
          have hs := ownsRow_sorted (n := nn) (os := os) (ts := ts) (ss := ss) (by rw [HL2.out, HNN.out]) hbase hb h1 h2 h3
          have hc := Lib.ownsRow_putRow (q := q) (k := (Lib.compact ts).length) (ys := Lib.compact ts ++ List.replicate (n - (Lib.compact ts).length) []) hs (by rw [List.length_append, List.length_replicate, ← HNN.out]; have := HL2.out; omega) (by have := HL2.out; have := HNN.out; omega)
          rw [List.take_left] at hc
          refine ⟨.inr ⟨HC0.out, _, rfl, ?_⟩, ?_⟩
          · rw [HSS.out, HW3.out, HW2.out]
            exact hc
          · rw [HW3.out, HW2.out]
            exact Lib.below_putRow (HB.out.grown (grownBy_sorted _) HB.out.size (fun j hj => by cases hj; exact hbase)) hbase
  · have HE : Hid (checkP (x.map ptV) ≠ 0) := by show ¬ _; rw [← hC]; exact h0
    have HC := hide hC
    have h0' : (C == 0) = false := by rw [beq_eq_false_iff_ne]; exact h0
    clear hA hI hC hlen hg h0
    generalize x.length = N at *
    go_enter Tryz.func22, Tryz.ntmps22
    go_wp2_with fail
    refine c0.mono ?_
    rintro e w0 ⟨rfl, hb0⟩
    have B0 := hide hb0
    clear c0 hb0
    go_wp2
    go_ret2
    exact ⟨.inl ⟨HE.out, by rw [← HC.out]; rfl⟩, B0.out⟩
end Go.Proofs.YtldjiieckddhkaaGreatDoor
