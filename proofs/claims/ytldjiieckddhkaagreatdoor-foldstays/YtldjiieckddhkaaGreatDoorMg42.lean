/- The contracts of fold.Resolve and fold.Fold. | The contract of fold.Fold. | The contracts of slices.Sort and slices.Compact at strings. -/
import Derived.Test.YtldjiieckddhkaaGreatDoorRsW
import Derived.Shelf.Small.Bits
import Derived.Shelf.Strconv.Itoa0
import Derived.Shelf.LaysM
import Derived.Shelf.Strconv.Clone
import Derived.Shelf.Sort.Plain
import Derived.Shelf.Slices.CompactS
import Derived.Shelf.Slices.Cells
import Derived.Shelf.Slices.In.SortNone
import Derived.Test.YtldjiieckddhkaaGreatDoorProg
namespace Go.Proofs.YtldjiieckddhkaaGreatDoor
open Go.RowKit
theorem well_may : ∀ {e : Ex}, well e → ∀ p ∈ flat e, mayP p = true
  | .leaf q, h, p, hp => by
    have hp : p ∈ [q] := hp
    obtain rfl := List.mem_singleton.1 hp
    exact h.2
  | .one q e, h, p, hp => by
    have hp : p ∈ flat e ++ [q] := hp
    rcases List.mem_append.1 hp with hp | hp
    · exact well_may h.2.2 p hp
    · obtain rfl := List.mem_singleton.1 hp
      exact h.2.1
  | .two q a b, h, p, hp => by
    have hp : p ∈ flat a ++ (flat b ++ [q]) := hp
    rcases List.mem_append.1 hp with hp | hp
    · exact well_may h.2.2.1 p hp
    · rcases List.mem_append.1 hp with hp | hp
      · exact well_may h.2.2.2 p hp
      · obtain rfl := List.mem_singleton.1 hp
        exact h.2.1
theorem find_err : ∀ {vs : List Vr} {s : Bs} {a : Bool × Bool} {er : Int}, findV vs s a = .error er → er ≠ 0
  | [], s, a, er, h => by
    unfold findV at h
    obtain rfl := Except.error.inj h
    decide
  | v :: vs, s, a, er, h => by
    unfold findV at h
    split at h
    · split at h
      · first | (obtain rfl := Except.error.inj h; decide) | cases h
      · first | (obtain rfl := Except.error.inj h; decide) | cases h
    · exact find_err h
theorem op_err {op : Int} {l r : Kd} {er : Int} (h : opK op l r = .error er) : er ≠ 0 := by
  unfold opK at h
  split at h
  · rename_i h1; rw [← Except.error.inj h]; exact h1
  · split at h
    · cases h
    · split at h
      · rename_i h1; rw [← Except.error.inj h]; exact h1
      · split at h
        · rename_i h1; rw [← Except.error.inj h]; exact h1
        · cases h
theorem part_err {vs : List Vr} {p : Pt} {on : List Kd} {er : Int} (h : partK vs p on = .error er) : er ≠ 0 := by
  unfold partK at h
  split at h
  · cases h
  · split at h
    · split at h
      · rename_i hf; rw [← Except.error.inj h]; exact find_err hf
      · cases h
    · split at h
      · split at h
        · rename_i hf; rw [← Except.error.inj h]; exact find_err hf
        · split at h
          · rename_i h1; rw [← Except.error.inj h]; exact h1
          · cases h
      · split at h
        · split at h
          · rename_i hf; rw [← Except.error.inj h]; exact find_err hf
          · split at h
            · rw [← Except.error.inj h]; decide
            · cases h
        · split at h
          · split at h
            · rename_i h1; rw [← Except.error.inj h]; exact h1
            · cases h
          · exact op_err h
theorem ev_err {vs : List Vr} : ∀ {e : Ex} {er : Int}, evT (partK vs) e = .error er → er ≠ 0
  | .leaf p, er, h => part_err (show partK vs p [] = .error er from h)
  | .one p e, er, h => by
    rw [evT_one] at h
    cases hk : evT (partK vs) e with
    | error q => rw [hk] at h; rw [← Except.error.inj h]; exact ev_err hk
    | ok u => rw [hk] at h; exact part_err h
  | .two p a b, er, h => by
    rw [evT_two] at h
    cases hk : evT (partK vs) a with
    | error q => rw [hk] at h; rw [← Except.error.inj h]; exact ev_err hk
    | ok u =>
      rw [hk] at h
      cases hk2 : evT (partK vs) b with
      | error q => rw [hk2] at h; rw [← Except.error.inj h]; exact ev_err hk2
      | ok u' => rw [hk2] at h; exact part_err h
/-- what fits is a tree, with a kind -/
theorem fits_tree {vs : List Vr} {x : List Pt} {t : Int} (h : fitsP vs x t = 0) : mayV vs = 0 ∧ checkP x = 0 ∧ ∃ e k, well e ∧ flat e = x ∧ dep e ≤ 24 ∧ x.length ≤ 500 ∧ evT (partK vs) e = .ok k ∧ kFits k t = 0 := by
  unfold fitsP at h
  cases ha : askP vs x with
  | error er =>
    rw [ha] at h
    have h : er = 0 := h
    subst h
    unfold askP at ha
    split at ha
    · rename_i h1; exact absurd (Except.error.inj ha) h1
    · split at ha
      · rename_i h1; exact absurd (Except.error.inj ha) h1
      · rename_i h1
        have hc : checkP x = 0 := Classical.byContradiction h1
        obtain ⟨e, h3, h4, -⟩ := check_tree hc
        unfold kindP at ha
        rw [← h4, run_tree _ h3] at ha
        cases hk : evT (partK vs) e with
        | error er =>
          rw [hk] at ha
          exact absurd (Except.error.inj ha) (ev_err hk)
        | ok k =>
          rw [hk] at ha
          have ha : (if k.typ = 0 ∧ kFits k 3 ≠ 0 then (Except.error 1 : Except Int Kd) else Except.ok k) = Except.error 0 := ha
          split at ha
          · cases ha
          · cases ha
  | ok k =>
    rw [ha] at h
    have h : kFits k t = 0 := h
    unfold askP at ha
    split at ha
    · cases ha
    · rename_i h1
      split at ha
      · cases ha
      · rename_i h2
        have hc : checkP x = 0 := Classical.byContradiction h2
        obtain ⟨e, h3, h4, h5, h6, h7⟩ := check_tree hc
        refine ⟨Classical.byContradiction h1, hc, e, k, h3, h4, h6, h7, ?_, h⟩
        unfold kindP at ha
        rw [← h4, run_tree _ h3] at ha
        cases hk : evT (partK vs) e with
        | error er => rw [hk] at ha; cases ha
        | ok k' =>
          rw [hk] at ha
          have ha : (if k'.typ = 0 ∧ kFits k' 3 ≠ 0 then (Except.error 1 : Except Int Kd) else Except.ok k') = Except.ok k := ha
          split at ha
          · cases ha
          · exact ha
theorem plst_nil (w : World) : PLst w (.slice none 0 0) [] := ⟨none, 0, 0, 0, rfl, fun h => absurd h (Nat.lt_irrefl 0), fun i x hx => by cases hx⟩
def StrOk (x : List Pv) : Prop := ∀ y ∈ x, y.s.size ≤ 140737488355000 ∧ y.f.size ≤ 140737488355000
def ResOut (vs : List Vr) (x : List Pt) (t : Int) (w : World) (e : Ending) (w' : World) : Prop :=
  (∃ (v : Value) (o : List Pv), e = .returned (.tuple #[v, .int .i64 (resolveP vs x t).2]) ∧ o.map ptV = (resolveP vs x t).1 ∧ PLst w' v o ∧ o.length ≤ x.length) ∧ Below w.heap.size w w'
set_option maxRecDepth 100000 in
set_option maxHeartbeats 1600000 in
theorem resolve_any (vv v : Value) (l : List Vv) (x : List Pv) (t : Int) (w : World) (hV : VLst w vv l) (hvl : l.length ≤ 4398046510976) (hcp : CapOk vv) (hX : PLst w v x) (hxl : x.length ≤ 4398046510976) (hs : StrOk x) (hg : Glo w) :
    Calls Tryz.prog 9 #[vv, v, .int .i64 t] w (ResOut (l.map vrV) (x.map ptV) t w) := by
  have m1 := fitsT_any vv v l x t w hV hvl hcp hX hxl hg
  have shV := hV
  have shX := hX
  obtain ⟨va, vb, voff, vcap, rfl, -⟩ := shV
  obtain ⟨xa, xb, xoff, xcap, rfl, -⟩ := shX
  by_cases h0 : fitsP (l.map vrV) (x.map ptV) t = 0
  · obtain ⟨hmv, hc, e, k, he1, he2, he3, he4, he5, he6⟩ := fits_tree h0
    have hv := may_vOk hmv
    have hrun : mRun (partR (l.map vrV)) (x.map ptV) [] = .ok [⟨k, flat (resE (l.map vrV) e)⟩] := by rw [← he2, run_tree _ he1, evR_tree hv he1 he5]
    have hpos : 1 ≤ x.length := by have := flat_pos e; rw [he2, List.length_map] at this; exact this
    have m2 : Hid (∀ W, Below w.heap.size w W → Calls Tryz.prog 24 #[.slice va l.length vcap, .slice xa x.length xcap, .int .i64 t] W fun e w' => (∃ (ov : Value) (o : List Pv), e = .returned ov ∧ o.map ptV = resP (l.map vrV) (x.map ptV) t ∧ PLst w' ov o ∧ o.length = x.length) ∧ Below W.heap.size W w') := fun W hb =>
      resolved_any _ _ l x t W _ (hV.below hb (Nat.le_refl _)) hvl hcp (hX.below hb (Nat.le_refl _)) (hg.below hb hg.lt) (by rw [List.length_map] at he4; exact he4) hpos (by rw [← he2]; exact well_may he1) (by rw [← he2]; exact wf_tree he1) hmv hs hrun (by rw [← he2]; exact nf_flat he1 (fits_nums hv he1 he5 he6))
    have HR : Hid (∀ v' o w', o.map ptV = resP (l.map vrV) (x.map ptV) t → PLst w' v' o → o.length = x.length → Below w.heap.size w w' → ResOut (l.map vrV) (x.map ptV) t w (.returned (.tuple #[v', .int .i64 0])) w') := fun v' o w' e1 e2 e3 e4 => by
      unfold ResOut resolveP
      rw [if_neg (fun h => h h0)]
      exact ⟨⟨v', o, rfl, e1, e2, by rw [List.length_map]; omega⟩, e4⟩
    rw [h0] at m1
    generalize ResOut (l.map vrV) (x.map ptV) t w = Post at *
    generalize l.length = LL at *
    generalize x.length = XL at *
    clear hV hX hg hs h0 hc hrun hcp
    go_enter Tryz.func9, Tryz.ntmps9
    go_wp2_with (first | (go_at_call 23; refine m1.mono ?_; rintro e w1 ⟨rfl, hb1⟩) | (go_at_call 24; refine (m2.out _ hb1).mono ?_; rintro e w2 ⟨⟨ov, o, rfl, ho1, ho2, ho3⟩, hb2⟩))
    exact HR.out _ o _ ho1 ho2 ho3 (hb1.trans (hb2.mono hb1.size))
  · have HR : Hid (∀ w', Below w.heap.size w w' → ResOut (l.map vrV) (x.map ptV) t w (.returned (.tuple #[.slice none 0 0, .int .i64 (fitsP (l.map vrV) (x.map ptV) t)])) w') := fun w' hb => by
      unfold ResOut resolveP
      rw [if_pos h0]
      exact ⟨⟨_, [], rfl, rfl, plst_nil w', Nat.zero_le _⟩, hb⟩
    generalize ResOut (l.map vrV) (x.map ptV) t w = Post at *
    generalize fitsP (l.map vrV) (x.map ptV) t = F at *
    generalize l.length = LL at *
    generalize x.length = XL at *
    clear hV hX hg hs hcp
    go_enter Tryz.func9, Tryz.ntmps9
    go_wp2_with (first | (go_at_call 23; refine m1.mono ?_; rintro e w1 ⟨rfl, hb1⟩))
    exact HR.out _ hb1
end Go.Proofs.YtldjiieckddhkaaGreatDoor
namespace Go.Proofs.YtldjiieckddhkaaGreatDoor
open Go.RowKit
theorem plst_own {w : World} {base : Nat} {v : Value} {o : List Pv} (h : w.ownsRow base 38 5 v o.length (pvsC o)) : PLst w v o := by
  rcases h.2 with ⟨hv, h0⟩ | ⟨g, cap, cur, hv, hb, hg, hn, hm, hc, ht⟩
  · obtain rfl := List.eq_nil_of_length_eq_zero h0
    subst hv
    exact plst_nil w
  · subst hv
    exact plst_block (rest := cur.toList.drop (o.length * 5)) hg (by rw [← ht, List.take_append_drop]) rfl
def FoldOut (vs : List Vr) (x : List Pt) (t : Int) (w : World) (e : Ending) (w' : World) : Prop :=
  (∃ (v : Value) (o : List Pv), e = .returned (.tuple #[v, .int .i64 (foldAll vs x t).2]) ∧ o.map ptV = (foldAll vs x t).1 ∧ PLst w' v o) ∧ Below w.heap.size w w'
/-- what is resolved is a tree too -/
theorem res_is {vs : List Vr} {x : List Pt} {t : Int} (h : (resolveP vs x t).2 = 0) : ∃ e r, well e ∧ flat e = x ∧ Rt vs e r t ∧ (resolveP vs x t).1 = flat r ∧ x.length ≤ 500 ∧ vOk vs := by
  unfold resolveP at h ⊢
  by_cases h0 : fitsP vs x t = 0
  · rw [if_neg (fun h => h h0)] at h ⊢
    obtain ⟨hmv, hc, e, k, he1, he2, he3, he4, he5, he6⟩ := fits_tree h0
    obtain ⟨r1, r2⟩ := res_tree (may_vOk hmv) he1 he5 he6
    rw [he2] at r2
    exact ⟨e, _, he1, he2, r1, r2, he4, may_vOk hmv⟩
  · rw [if_pos h0] at h
    exact absurd h h0
set_option maxRecDepth 100000 in
set_option maxHeartbeats 1600000 in
theorem fold_any (vv v : Value) (l : List Vv) (x : List Pv) (t : Int) (w : World) (hV : VLst w vv l) (hvl : l.length ≤ 4398046510976) (hcp : CapOk vv) (hX : PLst w v x) (hxl : x.length ≤ 4398046510976) (hs : StrOk x) (hg : Glo w) :
    Calls Tryz.prog 11 #[vv, v, .int .i64 t] w (FoldOut (l.map vrV) (x.map ptV) t w) := by
  have m1 := resolve_any vv v l x t w hV hvl hcp hX hxl hs hg
  unfold ResOut at m1
  have shV := hV
  have shX := hX
  obtain ⟨va, vb, voff, vcap, rfl, -⟩ := shV
  obtain ⟨xa, xb, xoff, xcap, rfl, -⟩ := shX
  by_cases h0 : (resolveP (l.map vrV) (x.map ptV) t).2 = 0
  · obtain ⟨e, r, he1, he2, hr, hr1, hx5, hvo⟩ := res_is h0
    have m2 : Hid (∀ W v' o, Below w.heap.size w W → o.map ptV = (resolveP (l.map vrV) (x.map ptV) t).1 → PLst W v' o → o.length ≤ (x.map ptV).length → Calls Tryz.prog 27 #[v'] W fun e w' => (∃ (ov : Value) (o' : List Pv), e = .returned ov ∧ o'.map ptV = foldP (resolveP (l.map vrV) (x.map ptV) t).1 ∧ PLst w' ov o') ∧ Below W.heap.size W w') := fun W v' o hb ho hP hl => by
      have hpos : 1 ≤ o.length := by have := flat_pos r; rw [← hr1, ← ho, List.length_map] at this; exact this
      refine (folded_any v' o W hP (hg.below hb hg.lt) (by omega) hpos (by rw [ho, hr1]; exact well_may hr.wel) (by rw [ho, hr1]; exact wf_tree hr.wel)).mono ?_
      rintro e w' ⟨⟨ov, o', h1, h2, h3⟩, h4⟩
      exact ⟨⟨ov, o', h1, by rw [h2, ho], plst_own h3⟩, h4⟩
    have HR : Hid (∀ v' o w', o.map ptV = foldP (resolveP (l.map vrV) (x.map ptV) t).1 → PLst w' v' o → Below w.heap.size w w' → FoldOut (l.map vrV) (x.map ptV) t w (.returned (.tuple #[v', .int .i64 0])) w') := fun v' o w' e1 e2 e4 => by
      unfold FoldOut foldAll
      rw [if_neg (fun h => h h0)]
      exact ⟨⟨v', o, rfl, e1, e2⟩, e4⟩
    rw [h0] at m1
    generalize FoldOut (l.map vrV) (x.map ptV) t w = Post at *
    generalize (resolveP (l.map vrV) (x.map ptV) t).1 = R at *
    generalize (x.map ptV).length = XL2 at *
    generalize l.length = LL at *
    generalize x.length = XL at *
    clear hV hX hg hs h0 hcp he2 hr hr1
    go_enter Tryz.func11, Tryz.ntmps11
    go_wp2_with (first | (go_at_call 9; refine m1.mono ?_; rintro e w1 ⟨⟨v1, o1, rfl, ho1, ho2, ho3⟩, hb1⟩) | (go_at_call 27; refine (m2.out _ _ o1 hb1 ho1 ho2 ho3).mono ?_; rintro e w2 ⟨⟨ov, o, rfl, hp1, hp2⟩, hb2⟩))
    exact HR.out _ o _ hp1 hp2 (hb1.trans (hb2.mono hb1.size))
  · have HR : Hid (∀ w', Below w.heap.size w w' → FoldOut (l.map vrV) (x.map ptV) t w (.returned (.tuple #[.slice none 0 0, .int .i64 (resolveP (l.map vrV) (x.map ptV) t).2])) w') := fun w' hb => by
      unfold FoldOut foldAll
      rw [if_pos h0]
      exact ⟨⟨_, [], rfl, rfl, plst_nil w'⟩, hb⟩
    generalize FoldOut (l.map vrV) (x.map ptV) t w = Post at *
    generalize (resolveP (l.map vrV) (x.map ptV) t).1 = R at *
    generalize (resolveP (l.map vrV) (x.map ptV) t).2 = F at *
    generalize (x.map ptV).length = XL2 at *
    generalize l.length = LL at *
    generalize x.length = XL at *
    clear hV hX hg hs hcp
    go_enter Tryz.func11, Tryz.ntmps11
    go_wp2_with (first | (go_at_call 9; refine m1.mono ?_; rintro e w1 ⟨⟨v1, o1, rfl, ho1, ho2, ho3⟩, hb1⟩))
    exact HR.out _ hb1
end Go.Proofs.YtldjiieckddhkaaGreatDoor
namespace Go.Proofs
open Go.Shelf
def Tryz.lays190_ren : Go.Shelf.Ren := ⟨fun | 190 => 38 | 125 => 80 | 258 => 79 | 128 => 119 | 129 => 120 | 302 => 110 | 303 => 111 | 304 => 112 | 305 => 113 | 306 => 114 | 307 => 115 | 308 => 116 | 309 => 117 | 310 => 118 | 333 => 145 | 329 => 146 | 330 => 147 | 334 => 148 | 335 => 149 | 336 => 150 | 344 => 164 | n => n, fun | 31 => 44 | 9 => 9 | 3 => 3 | 46 => 105 | 0 => 0 | 51 => 144 | 53 => 40 | 4 => 4 | 183 => 137 | 182 => 136 | 131 => 101 | 5 => 5 | 218 => 167 | 222 => 171 | 228 => 189 | 229 => 174 | n => n, fun | n => n⟩
theorem Tryz.lays190 : Go.Proofs.Lays.n190 Tryz.prog Tryz.lays190_ren := {
  mixed := by kernel_rfl
  f125 := Tryz.func80.trans (congrArg some (by kernel_rfl))
  f128 := Tryz.func119.trans (congrArg some (by kernel_rfl))
  f129 := Tryz.func120.trans (congrArg some (by kernel_rfl))
  f190 := Tryz.func38.trans (congrArg some (by kernel_rfl))
  f258 := Tryz.func79.trans (congrArg some (by kernel_rfl))
  f302 := Tryz.func110.trans (congrArg some (by kernel_rfl))
  f303 := Tryz.func111.trans (congrArg some (by kernel_rfl))
  f304 := Tryz.func112.trans (congrArg some (by kernel_rfl))
  f305 := Tryz.func113.trans (congrArg some (by kernel_rfl))
  f306 := Tryz.func114.trans (congrArg some (by kernel_rfl))
  f307 := Tryz.func115.trans (congrArg some (by kernel_rfl))
  f308 := Tryz.func116.trans (congrArg some (by kernel_rfl))
  f309 := Tryz.func117.trans (congrArg some (by kernel_rfl))
  f310 := Tryz.func118.trans (congrArg some (by kernel_rfl))
  f329 := Tryz.func146.trans (congrArg some (by kernel_rfl))
  f330 := Tryz.func147.trans (congrArg some (by kernel_rfl))
  f333 := Tryz.func145.trans (congrArg some (by kernel_rfl))
  f334 := Tryz.func148.trans (congrArg some (by kernel_rfl))
  f335 := Tryz.func149.trans (congrArg some (by kernel_rfl))
  f336 := Tryz.func150.trans (congrArg some (by kernel_rfl))
  f344 := Tryz.func164.trans (congrArg some (by kernel_rfl))
  t0 := Tryz.underlying0
  a0 := Tryz.isAgg0
  z0 := Tryz.sizeOf0
  v0 := Tryz.zeroValue0
  t3 := Tryz.underlying3
  a3 := Tryz.isAgg3
  z3 := Tryz.sizeOf3
  v3 := Tryz.zeroValue3
  t4 := Tryz.underlying4
  a4 := Tryz.isAgg4
  z4 := Tryz.sizeOf4
  v4 := Tryz.zeroValue4
  t5 := Tryz.underlying5
  a5 := Tryz.isAgg5
  z5 := Tryz.sizeOf5
  v5 := Tryz.zeroValue5
  t9 := Tryz.underlying9
  a9 := Tryz.isAgg9
  z9 := Tryz.sizeOf9
  v9 := Tryz.zeroValue9
  t31 := Tryz.underlying44
  a31 := Tryz.isAgg44
  z31 := Tryz.sizeOf44
  v31 := Tryz.zeroValue44
  t46 := Tryz.underlying105
  a46 := Tryz.isAgg105
  z46 := Tryz.sizeOf105
  v46 := Tryz.zeroValue105
  t51 := Tryz.underlying144
  a51 := Tryz.isAgg144
  z51 := Tryz.sizeOf144
  v51 := Tryz.zeroValue144
  t53 := Tryz.underlying40
  a53 := Tryz.isAgg40
  z53 := Tryz.sizeOf40
  v53 := Tryz.zeroValue40
  t131 := Tryz.underlying101
  a131 := Tryz.isAgg101
  z131 := Tryz.sizeOf101
  v131 := Tryz.zeroValue101
  t182 := Tryz.underlying136
  a182 := Tryz.isAgg136
  z182 := Tryz.sizeOf136
  v182 := Tryz.zeroValue136
  t183 := Tryz.underlying137
  a183 := Tryz.isAgg137
  z183 := Tryz.sizeOf137
  v183 := Tryz.zeroValue137
  t218 := Tryz.underlying167
  a218 := Tryz.isAgg167
  z218 := Tryz.sizeOf167
  v218 := Tryz.zeroValue167
  t222 := Tryz.underlying171
  a222 := Tryz.isAgg171
  z222 := Tryz.sizeOf171
  v222 := Tryz.zeroValue171
  t228 := Tryz.underlying189
  a228 := Tryz.isAgg189
  z228 := Tryz.sizeOf189
  v228 := Tryz.zeroValue189
  t229 := Tryz.underlying174
  a229 := Tryz.isAgg174
  z229 := Tryz.sizeOf174
  v229 := Tryz.zeroValue174 }
open Go.Sort Go.RowKit in
theorem Tryz.slices_Sort_string (blk off cap : Nat) (ss : List (List UInt8)) (w : World) (hH : Holds encStr w blk off ss.toArray) (hblk : blk < w.heap.size) (hsz : ss.length < 4611686018427387904) :
    Calls Tryz.prog 38 #[.slice (some ⟨blk, off, none⟩) ss.length cap] w fun e w' =>
      e = .returned (.tuple #[]) ∧ ∃ n os, w' = grow (putRow encStr (Sort.ahead w n) blk off (ss.mergeSort fun x y => decide (x ≤ y)).toArray) os := Any.slices_Sort_string Tryz.lays190 blk off cap ss w hH hblk hsz
def Tryz.lays194_ren : Go.Shelf.Ren := ⟨fun | 194 => 39 | n => n, fun | 31 => 44 | 9 => 9 | 3 => 3 | 4 => 4 | 0 => 0 | n => n, fun | n => n⟩
theorem Tryz.lays194 : Go.Proofs.Lays.n194 Tryz.prog Tryz.lays194_ren := {
  mixed := by kernel_rfl
  f194 := Tryz.func39.trans (congrArg some (by kernel_rfl))
  t0 := Tryz.underlying0
  a0 := Tryz.isAgg0
  z0 := Tryz.sizeOf0
  v0 := Tryz.zeroValue0
  t3 := Tryz.underlying3
  a3 := Tryz.isAgg3
  z3 := Tryz.sizeOf3
  v3 := Tryz.zeroValue3
  t4 := Tryz.underlying4
  a4 := Tryz.isAgg4
  z4 := Tryz.sizeOf4
  v4 := Tryz.zeroValue4
  t9 := Tryz.underlying9
  a9 := Tryz.isAgg9
  z9 := Tryz.sizeOf9
  v9 := Tryz.zeroValue9
  t31 := Tryz.underlying44
  a31 := Tryz.isAgg44
  z31 := Tryz.sizeOf44
  v31 := Tryz.zeroValue44 }
open Go.RowKit Go.Lib Go.Sort in
theorem Tryz.slices_Compact_string (blk off cap : Nat) (zs : List (List UInt8)) (w : World) (hH : Holds encStr w blk off zs.toArray) (hsz : zs.length ≤ 9223372036854775807) (hcap : zs.length ≤ cap) :
    Calls Tryz.prog 39 #[.slice (some ⟨blk, off, none⟩) zs.length cap] w fun e w' => e = .returned (.slice (some ⟨blk, off, none⟩) (Lib.compact zs).length cap) ∧ ∃ q, w' = putRow encStr (Sort.ahead w q) blk off (Lib.compact zs ++ List.replicate (zs.length - (Lib.compact zs).length) []).toArray := Any.slices_Compact_string Tryz.lays194 blk off cap zs w hH hsz hcap
open Go.RowKit Go.Lib Go.Sort in
theorem Tryz.slices_Compact_string_empty (a : Option Addr) (cap : Nat) (w : World) :
    Calls Tryz.prog 39 #[.slice a 0 cap] w fun e w' => e = .returned (.slice a 0 cap) ∧ w' = w := Any.slices_Compact_string_empty Tryz.lays194 a cap w
open Go.RowKit Go.Sort in
theorem Tryz.slices_Sort_string_none (p : Option Addr) (cap : Nat) (w : World) :
    Calls Tryz.prog 38 #[.slice p 0 cap] w fun e w' => e = .returned (.tuple #[]) ∧ w' = w := Any.slices_Sort_string_none Tryz.lays190 p cap w
end Go.Proofs
