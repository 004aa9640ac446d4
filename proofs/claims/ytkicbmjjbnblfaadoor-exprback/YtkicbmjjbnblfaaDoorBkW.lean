/- The walk of ExprBack. -/
import Derived.Test.YtkicbmjjbnblfaaDoorWoW
import Derived.Test.YtkicbmjjbnblfaaDoorTkW
import Derived.Test.YtkicbmjjbnblfaaDoorTkB
import Derived.Test.YtkicbmjjbnblfaaDoorBkP
namespace Go.Proofs.YtkicbmjjbnblfaaDoor
open Go.RowKit
theorem lst_zero (L : List Tv) : lst L 0 = L.map tkV := by
  unfold lst
  rw [List.drop_zero]
/-- tokens that Parse reads as the parts x, all of them -/
def Again (x : List Pv) (V : Value) (n : Nat) (w : World) : Prop := ∀ W, Below w.heap.size w W → Glo W → Calls Tryd.prog 9 #[V, .int .i64 0] W fun e W' => ∃ pv, e = .returned (.tuple #[pv, .int .i64 (n : Int), .agg #[.int .i64 0, .int .i64 0]]) ∧ W'.ownsRow W.heap.size 46 5 pv x.length (pvsC x) ∧ Below W.heap.size W W'
theorem again_of {x : List Pv} {V : Value} {L : List Tv} {ex : Ex} {w : World} (hL : Lst w V L) (hw : well ex) (hf : flat ex = x.map ptV) (hd : dep ex ≤ 24) (hs : L.map tkV = showE ex false) (h5 : x.length ≤ 500) : Again x V L.length w := fun W hW hg => by
  have hlen : L.length ≤ 1500 := by
    have h1 := show_len ex false
    rw [← hs, List.length_map, hf, List.length_map] at h1
    omega
  have hp : parse (lst L 0) = .ok (x.map ptV, []) := by
    rw [lst_zero, hs, parse_shown hw hd (by rw [hf, List.length_map]; exact h5), hf]
  have c := parse_any V L 0 W (Nat.zero_le _) (by omega) (fun i => by
    unfold tokAt
    rw [List.getD_eq_getElem?_getD]
    cases hq : L[i]? with
    | none => decide
    | some y =>
      have h1 := show_short ex false hw (tkV y) (by rw [← hs]; exact List.mem_map_of_mem (List.mem_of_getElem? hq))
      have h2 : y.s.data.toList.length ≤ 24 := h1
      rw [Array.length_toList] at h2
      show y.s.size ≤ _
      have h3 : y.s.size ≤ 24 := h2
      omega) (hL.below hW (Nat.le_refl _)) hg
  refine c.mono fun e W' h => ?_
  obtain ⟨hb, h⟩ := h
  rw [hp] at h
  obtain ⟨pv, xs, hxs, rfl, hown⟩ := h
  have : xs = x := by rw [pvs_back hxs, ← pvs_back (xs := x) rfl]
  subst this
  exact ⟨pv, rfl, hown, hb⟩
/-- Tokens where Check takes the parts -/
def ShownOk (x : List Pv) (w : World) (e : Ending) (w' : World) : Prop := ∃ a n cap, e = .returned (.tuple #[.slice a n cap, .int .i64 0]) ∧ n ≤ 1500 ∧ Below w.heap.size w w' ∧ Hid (Again x (.slice a n cap) n w')
theorem tok_good (v : Value) (x : List Pv) (w : World) (hL : PLst w v x) (hg : Glo w) (hx : checkP (x.map ptV) = 0) : Calls Tryd.prog 14 #[v] w (ShownOk x w) := by
  have h5 : x.length ≤ 500 := by
    have := (check_parts hx).1
    rw [List.length_map] at this
    omega
  refine (tokens_ok v x w hL (by omega) hg hx).mono fun e w' h => ?_
  obtain ⟨V, L, ex, rfl, hV, hw, hf, hd, hs, hb⟩ := h
  have hag := again_of hV hw hf hd hs h5
  obtain ⟨a, b, off, cap, rfl, _, _⟩ := hV
  have hlen : L.length ≤ 1500 := by
    have h1 := show_len ex false
    rw [← hs, List.length_map, hf, List.length_map] at h1
    omega
  exact ⟨a, L.length, cap, rfl, hlen, hb, hag⟩
set_option maxRecDepth 100000 in
set_option maxHeartbeats 6400000 in
theorem back_good_err (xv lv : Value) (x : List Pv) (l : List Tv) (w : World) (hX : PLst w xv x) (hL : Lst w lv l) (hxl : x.length ≤ 3000000000000) (hll : l.length ≤ 3000000000000) (hls : ∀ i, (tokAt l i).s.size ≤ 140737488355000) (hg : Glo w) (hx : checkP (x.map ptV) = 0) {k : Nat} {c : Int} (hl : parse (lst l 0) = .error (k, c)) : Calls Tryd.prog 4 #[xv, lv] w fun e w' => e = .returned (.bool true) ∧ Below w.heap.size w w' := by
  have c1 := works_ok w hg
  have HG := hide hg
  have HX := hide hX
  have HL := hide hL
  have HC := hide hx
  have HP := hide hl
  obtain ⟨xa, _, _, xcap, hxv, _, _⟩ := hX
  obtain ⟨la, _, _, lcap, hlv, _, _⟩ := hL
  have HLS := hide hls
  have HXL := hide hxl
  have HLL := hide hll
  obtain ⟨NX, hNX⟩ : ∃ NX, NX = x.length := ⟨_, rfl⟩
  obtain ⟨NL, hNL⟩ : ∃ NL, NL = l.length := ⟨_, rfl⟩
  rw [← hNX] at hxv hxl
  rw [← hNL] at hlv hll
  have i1 : (NX : Int) ≤ 3000000000000 := by omega
  have i2 : (NL : Int) ≤ 3000000000000 := by omega
  have HNX := hide hNX
  have HNL := hide hNL
  subst hxv hlv
  clear hx hl hls hxl hll hNX hNL hg
  go_enter Tryd.func4, Tryd.ntmps4
  go_wp2_with fail
  refine c1.mono ?_
  rintro e w1 ⟨rfl, hb1⟩
  have B1 := hide hb1
  have cA := tok_good _ x w1 (HX.out.below hb1 (Nat.le_refl _)) (HG.out.on hb1) HC.out
  clear c1 hb1
  go_wp2_with fail
  refine cA.mono ?_
  rintro e w2 ⟨a, n, cap, rfl, hn, hb2, hre⟩
  have B2 := hide (B1.out.trans (hb2.mono B1.out.size))
  have c3 := hre.out w2 (Below.refl _ _) (HG.out.on B2.out)
  have n1 : (n : Int) ≤ 1500 := by omega
  clear cA hb2 hre B1
  go_wp2_with fail
  refine c3.mono ?_
  rintro e w3 ⟨pv, rfl, hown, hb3⟩
  have B3 := hide (B2.out.trans (hb3.mono B2.out.size))
  obtain ⟨pa, pcap, hpv, hpc⟩ := own_form3 hown
  have BA := hide (B3.out.alloc B3.out.size (.cells #[.int .i64 0, .int .i64 0] 27))
  have c4 := sameParts_any _ pv x x (w3.alloc (.cells #[.int .i64 0, .int .i64 0] 27)) (HX.out.below BA.out (Nat.le_refl _)) (PLst.own hown ((Below.refl w3.heap.size w3).alloc (Nat.le_refl _) _)) HXL.out HXL.out
  rw [← HNX.out] at hpv hpc
  subst hpv
  clear c3 hb3 hown B2 hn
  go_wp2_with fail
  refine c4.mono ?_
  rintro e w4 ⟨⟨bb, rfl, hbb⟩, hb4⟩
  obtain rfl : bb = true := by first | exact hbb.2 rfl | exact hbb.2 trivial
  have B4 := hide (BA.out.trans (hb4.mono BA.out.size))
  clear c4 hbb hb4 BA B3
  have c5 := parse_any _ l 0 w4 (Nat.zero_le _) HLL.out HLS.out (HL.out.below B4.out (Nat.le_refl _)) (HG.out.on B4.out)
  go_wp2_with fail
  refine c5.mono ?_
  rintro e w5 ⟨hb5, hp5⟩
  rw [HP.out] at hp5
  have B5 := hide (B4.out.trans (hb5.mono B4.out.size))
  have hc0 : (c == 0) = false := by rw [beq_eq_false_iff_ne]; exact parse_code HP.out
  simp only [] at hp5
  subst hp5
  obtain ⟨AT, hAT⟩ : ∃ AT : Int, AT = ((l.length - k : Nat) : Int) := ⟨_, rfl⟩
  rw [← hAT]
  have BA5 := hide (B5.out.alloc B5.out.size (.cells #[.int .i64 AT, .int .i64 c] 27))
  clear c5 hb5 hAT
  go_wp2
  go_ret
  exact ⟨rfl, BA5.out⟩
set_option maxRecDepth 100000 in
set_option maxHeartbeats 6400000 in
theorem back_good_odd (xv lv : Value) (x : List Pv) (l : List Tv) (w : World) (hX : PLst w xv x) (hL : Lst w lv l) (hxl : x.length ≤ 3000000000000) (hll : l.length ≤ 3000000000000) (hls : ∀ i, (tokAt l i).s.size ≤ 140737488355000) (hg : Glo w) (hx : checkP (x.map ptV) = 0) {ys : List Pt} {r : List Tk} (hl : parse (lst l 0) = .ok (ys, r)) (hy : checkP ys ≠ 0) : Calls Tryd.prog 4 #[xv, lv] w fun e w' => e = .returned (.bool true) ∧ Below w.heap.size w w' := by
  have c1 := works_ok w hg
  have HG := hide hg
  have HX := hide hX
  have HL := hide hL
  have HC := hide hx
  have HP := hide hl
  obtain ⟨xa, _, _, xcap, hxv, _, _⟩ := hX
  obtain ⟨la, _, _, lcap, hlv, _, _⟩ := hL
  have HY := hide hy
  clear hy
  have HLS := hide hls
  have HXL := hide hxl
  have HLL := hide hll
  obtain ⟨NX, hNX⟩ : ∃ NX, NX = x.length := ⟨_, rfl⟩
  obtain ⟨NL, hNL⟩ : ∃ NL, NL = l.length := ⟨_, rfl⟩
  rw [← hNX] at hxv hxl
  rw [← hNL] at hlv hll
  have i1 : (NX : Int) ≤ 3000000000000 := by omega
  have i2 : (NL : Int) ≤ 3000000000000 := by omega
  have HNX := hide hNX
  have HNL := hide hNL
  subst hxv hlv
  clear hx hl hls hxl hll hNX hNL hg
  go_enter Tryd.func4, Tryd.ntmps4
  go_wp2_with fail
  refine c1.mono ?_
  rintro e w1 ⟨rfl, hb1⟩
  have B1 := hide hb1
  have cA := tok_good _ x w1 (HX.out.below hb1 (Nat.le_refl _)) (HG.out.on hb1) HC.out
  clear c1 hb1
  go_wp2_with fail
  refine cA.mono ?_
  rintro e w2 ⟨a, n, cap, rfl, hn, hb2, hre⟩
  have B2 := hide (B1.out.trans (hb2.mono B1.out.size))
  have c3 := hre.out w2 (Below.refl _ _) (HG.out.on B2.out)
  have n1 : (n : Int) ≤ 1500 := by omega
  clear cA hb2 hre B1
  go_wp2_with fail
  refine c3.mono ?_
  rintro e w3 ⟨pv, rfl, hown, hb3⟩
  have B3 := hide (B2.out.trans (hb3.mono B2.out.size))
  obtain ⟨pa, pcap, hpv, hpc⟩ := own_form3 hown
  have BA := hide (B3.out.alloc B3.out.size (.cells #[.int .i64 0, .int .i64 0] 27))
  have c4 := sameParts_any _ pv x x (w3.alloc (.cells #[.int .i64 0, .int .i64 0] 27)) (HX.out.below BA.out (Nat.le_refl _)) (PLst.own hown ((Below.refl w3.heap.size w3).alloc (Nat.le_refl _) _)) HXL.out HXL.out
  rw [← HNX.out] at hpv hpc
  subst hpv
  clear c3 hb3 hown B2 hn
  go_wp2_with fail
  refine c4.mono ?_
  rintro e w4 ⟨⟨bb, rfl, hbb⟩, hb4⟩
  obtain rfl : bb = true := by first | exact hbb.2 rfl | exact hbb.2 trivial
  have B4 := hide (BA.out.trans (hb4.mono BA.out.size))
  clear c4 hbb hb4 BA B3
  have c5 := parse_any _ l 0 w4 (Nat.zero_le _) HLL.out HLS.out (HL.out.below B4.out (Nat.le_refl _)) (HG.out.on B4.out)
  go_wp2_with fail
  refine c5.mono ?_
  rintro e w5 ⟨hb5, hp5⟩
  rw [HP.out] at hp5
  have B5 := hide (B4.out.trans (hb5.mono B4.out.size))
  obtain ⟨pw, zs, hzs, rfl, hown5⟩ := hp5
  have hz5 : zs.length ≤ 500 := by have := parse_len HP.out; rw [← hzs, List.length_map] at this; exact this
  obtain ⟨qa, qcap, hpw, hqc⟩ := own_form3 hown5
  have BA5 := hide (B5.out.alloc B5.out.size (.cells #[.int .i64 0, .int .i64 0] 27))
  have HPL := hide (PLst.own hown5 ((Below.refl w5.heap.size w5).alloc (Nat.le_refl _) (.cells #[.int .i64 0, .int .i64 0] 27)))
  have HZC : Hid (checkP (zs.map ptV) ≠ 0) := by rw [hzs]; exact HY.out
  have c6 := tokens_bad pw zs (w5.alloc (.cells #[.int .i64 0, .int .i64 0] 27)) HPL.out (by omega) (HG.out.on BA5.out) HZC.out
  have h60 : checkP (zs.map ptV) = 60 := by
    rcases check_two (x := zs.map ptV) (by rw [List.length_map]; exact hz5) with h | h
    · exact absurd h HZC.out
    · exact h
  rw [h60] at c6
  obtain ⟨NZ, hNZ⟩ : ∃ NZ, NZ = zs.length := ⟨_, rfl⟩
  rw [← hNZ] at hpw hz5
  have z1 : (NZ : Int) ≤ 500 := by omega
  subst hpw
  obtain ⟨AT, hAT⟩ : ∃ AT : Int, AT = ((l.length - r.length : Nat) : Int) := ⟨_, rfl⟩
  rw [← hAT]
  clear c5 hb5 hown5 h60 hNZ hzs hAT hqc hz5
  go_wp2_with fail
  refine c6.mono ?_
  rintro e w6 ⟨rfl, hb6⟩
  have B6 := hide (BA5.out.trans (hb6.mono BA5.out.size))
  clear c6 hb6
  go_wp2
  go_ret
  exact ⟨rfl, B6.out⟩
set_option maxRecDepth 100000 in
set_option maxHeartbeats 6400000 in
theorem back_good_all (xv lv : Value) (x : List Pv) (l : List Tv) (w : World) (hX : PLst w xv x) (hL : Lst w lv l) (hxl : x.length ≤ 3000000000000) (hll : l.length ≤ 3000000000000) (hls : ∀ i, (tokAt l i).s.size ≤ 140737488355000) (hg : Glo w) (hx : checkP (x.map ptV) = 0) {ys : List Pt} {r : List Tk} (hl : parse (lst l 0) = .ok (ys, r)) (hy : checkP ys = 0) : Calls Tryd.prog 4 #[xv, lv] w fun e w' => e = .returned (.bool true) ∧ Below w.heap.size w w' := by
  have c1 := works_ok w hg
  have HG := hide hg
  have HX := hide hX
  have HL := hide hL
  have HC := hide hx
  have HP := hide hl
  obtain ⟨xa, _, _, xcap, hxv, _, _⟩ := hX
  obtain ⟨la, _, _, lcap, hlv, _, _⟩ := hL
  have HY := hide hy
  clear hy
  have HLS := hide hls
  have HXL := hide hxl
  have HLL := hide hll
  obtain ⟨NX, hNX⟩ : ∃ NX, NX = x.length := ⟨_, rfl⟩
  obtain ⟨NL, hNL⟩ : ∃ NL, NL = l.length := ⟨_, rfl⟩
  rw [← hNX] at hxv hxl
  rw [← hNL] at hlv hll
  have i1 : (NX : Int) ≤ 3000000000000 := by omega
  have i2 : (NL : Int) ≤ 3000000000000 := by omega
  have HNX := hide hNX
  have HNL := hide hNL
  subst hxv hlv
  clear hx hl hls hxl hll hNX hNL hg
  go_enter Tryd.func4, Tryd.ntmps4
  go_wp2_with fail
  refine c1.mono ?_
  rintro e w1 ⟨rfl, hb1⟩
  have B1 := hide hb1
  have cA := tok_good _ x w1 (HX.out.below hb1 (Nat.le_refl _)) (HG.out.on hb1) HC.out
  clear c1 hb1
  go_wp2_with fail
  refine cA.mono ?_
  rintro e w2 ⟨a, n, cap, rfl, hn, hb2, hre⟩
  have B2 := hide (B1.out.trans (hb2.mono B1.out.size))
  have c3 := hre.out w2 (Below.refl _ _) (HG.out.on B2.out)
  have n1 : (n : Int) ≤ 1500 := by omega
  clear cA hb2 hre B1
  go_wp2_with fail
  refine c3.mono ?_
  rintro e w3 ⟨pv, rfl, hown, hb3⟩
  have B3 := hide (B2.out.trans (hb3.mono B2.out.size))
  obtain ⟨pa, pcap, hpv, hpc⟩ := own_form3 hown
  have BA := hide (B3.out.alloc B3.out.size (.cells #[.int .i64 0, .int .i64 0] 27))
  have c4 := sameParts_any _ pv x x (w3.alloc (.cells #[.int .i64 0, .int .i64 0] 27)) (HX.out.below BA.out (Nat.le_refl _)) (PLst.own hown ((Below.refl w3.heap.size w3).alloc (Nat.le_refl _) _)) HXL.out HXL.out
  rw [← HNX.out] at hpv hpc
  subst hpv
  clear c3 hb3 hown B2 hn
  go_wp2_with fail
  refine c4.mono ?_
  rintro e w4 ⟨⟨bb, rfl, hbb⟩, hb4⟩
  obtain rfl : bb = true := by first | exact hbb.2 rfl | exact hbb.2 trivial
  have B4 := hide (BA.out.trans (hb4.mono BA.out.size))
  clear c4 hbb hb4 BA B3
  have c5 := parse_any _ l 0 w4 (Nat.zero_le _) HLL.out HLS.out (HL.out.below B4.out (Nat.le_refl _)) (HG.out.on B4.out)
  go_wp2_with fail
  refine c5.mono ?_
  rintro e w5 ⟨hb5, hp5⟩
  rw [HP.out] at hp5
  have B5 := hide (B4.out.trans (hb5.mono B4.out.size))
  obtain ⟨pw, zs, hzs, rfl, hown5⟩ := hp5
  have hz5 : zs.length ≤ 500 := by have := parse_len HP.out; rw [← hzs, List.length_map] at this; exact this
  obtain ⟨qa, qcap, hpw, hqc⟩ := own_form3 hown5
  have BA5 := hide (B5.out.alloc B5.out.size (.cells #[.int .i64 0, .int .i64 0] 27))
  have HPL := hide (PLst.own hown5 ((Below.refl w5.heap.size w5).alloc (Nat.le_refl _) (.cells #[.int .i64 0, .int .i64 0] 27)))
  have HZC : Hid (checkP (zs.map ptV) = 0) := by rw [hzs]; exact HY.out
  have c6 := tok_good pw zs (w5.alloc (.cells #[.int .i64 0, .int .i64 0] 27)) HPL.out (HG.out.on BA5.out) HZC.out
  obtain ⟨NZ, hNZ⟩ : ∃ NZ, NZ = zs.length := ⟨_, rfl⟩
  rw [← hNZ] at hpw hz5
  have HNZ := hide hNZ
  have z1 : (NZ : Int) ≤ 500 := by omega
  subst hpw
  obtain ⟨AT, hAT⟩ : ∃ AT : Int, AT = ((l.length - r.length : Nat) : Int) := ⟨_, rfl⟩
  rw [← hAT]
  clear c5 hb5 hown5 hNZ hzs hAT hqc
  go_wp2_with fail
  refine c6.mono ?_
  rintro e w6 ⟨a6, n6, cap6, rfl, hn6, hb6, hre6⟩
  have B6 := hide (BA5.out.trans (hb6.mono BA5.out.size))
  have c7 := hre6.out w6 (Below.refl _ _) (HG.out.on B6.out)
  have HPL6 := hide (HPL.out.below hb6 (Nat.le_refl _))
  have n2 : (n6 : Int) ≤ 1500 := by omega
  clear c6 hb6 hre6 hn6
  go_wp2_with fail
  refine c7.mono ?_
  rintro e w7 ⟨pu, rfl, hown7, hb7⟩
  have B7 := hide (B6.out.trans (hb7.mono B6.out.size))
  obtain ⟨ua, ucap, hpu, huc⟩ := own_form3 hown7
  have BA7 := hide (B7.out.alloc B7.out.size (.cells #[.int .i64 0, .int .i64 0] 27))
  have c8 := sameParts_any _ pu zs zs (w7.alloc (.cells #[.int .i64 0, .int .i64 0] 27)) (HPL6.out.below (hb7.trans (((Below.refl w7.heap.size w7).alloc (Nat.le_refl _) _).mono hb7.size)) (Nat.le_refl _)) (PLst.own hown7 ((Below.refl w7.heap.size w7).alloc (Nat.le_refl _) _)) (by rw [← HNZ.out]; omega) (by rw [← HNZ.out]; omega)
  rw [← HNZ.out] at hpu huc
  subst hpu
  clear c7 hb7 hown7 hz5
  go_wp2_with fail
  refine c8.mono ?_
  rintro e w8 ⟨⟨bb, rfl, hbb⟩, hb8⟩
  obtain rfl : bb = true := by first | exact hbb.2 rfl | exact hbb.2 trivial
  have B8 := hide (BA7.out.trans (hb8.mono BA7.out.size))
  clear c8 hbb hb8
  go_wp2
  go_ret
  exact ⟨rfl, B8.out⟩
set_option maxRecDepth 100000 in
set_option maxHeartbeats 6400000 in
theorem back_bad_err (xv lv : Value) (x : List Pv) (l : List Tv) (w : World) (hX : PLst w xv x) (hL : Lst w lv l) (hxl : x.length ≤ 3000000000000) (hll : l.length ≤ 3000000000000) (hls : ∀ i, (tokAt l i).s.size ≤ 140737488355000) (hg : Glo w) (hx : checkP (x.map ptV) ≠ 0) {k : Nat} {c : Int} (hl : parse (lst l 0) = .error (k, c)) : Calls Tryd.prog 4 #[xv, lv] w fun e w' => e = .returned (.bool true) ∧ Below w.heap.size w w' := by
  have c1 := works_ok w hg
  have HG := hide hg
  have HX := hide hX
  have HL := hide hL
  have HC := hide hx
  have HP := hide hl
  obtain ⟨xa, _, _, xcap, hxv, _, _⟩ := hX
  obtain ⟨la, _, _, lcap, hlv, _, _⟩ := hL
  have HLS := hide hls
  have HXL := hide hxl
  have HLL := hide hll
  obtain ⟨NX, hNX⟩ : ∃ NX, NX = x.length := ⟨_, rfl⟩
  obtain ⟨NL, hNL⟩ : ∃ NL, NL = l.length := ⟨_, rfl⟩
  rw [← hNX] at hxv hxl
  rw [← hNL] at hlv hll
  have i1 : (NX : Int) ≤ 3000000000000 := by omega
  have i2 : (NL : Int) ≤ 3000000000000 := by omega
  have HNX := hide hNX
  have HNL := hide hNL
  subst hxv hlv
  clear hx hl hls hxl hll hNX hNL hg
  go_enter Tryd.func4, Tryd.ntmps4
  go_wp2_with fail
  refine c1.mono ?_
  rintro e w1 ⟨rfl, hb1⟩
  have B1 := hide hb1
  have cA := tokens_bad _ x w1 (HX.out.below hb1 (Nat.le_refl _)) (by have := HXL.out; omega) (HG.out.on hb1) HC.out
  obtain ⟨C, hC⟩ : ∃ C, C = checkP (x.map ptV) := ⟨_, rfl⟩
  have HCC := HC.out
  rw [← hC] at cA HCC
  have i3 : (C == 0) = false := by rw [beq_eq_false_iff_ne]; exact HCC
  clear c1 hb1 hC HCC
  go_wp2_with fail
  refine cA.mono ?_
  rintro e w4 ⟨rfl, hb2⟩
  have B4 := hide (B1.out.trans (hb2.mono B1.out.size))
  clear cA hb2 B1
  have c5 := parse_any _ l 0 w4 (Nat.zero_le _) HLL.out HLS.out (HL.out.below B4.out (Nat.le_refl _)) (HG.out.on B4.out)
  go_wp2_with fail
  refine c5.mono ?_
  rintro e w5 ⟨hb5, hp5⟩
  rw [HP.out] at hp5
  have B5 := hide (B4.out.trans (hb5.mono B4.out.size))
  have hc0 : (c == 0) = false := by rw [beq_eq_false_iff_ne]; exact parse_code HP.out
  simp only [] at hp5
  subst hp5
  obtain ⟨AT, hAT⟩ : ∃ AT : Int, AT = ((l.length - k : Nat) : Int) := ⟨_, rfl⟩
  rw [← hAT]
  have BA5 := hide (B5.out.alloc B5.out.size (.cells #[.int .i64 AT, .int .i64 c] 27))
  clear c5 hb5 hAT
  go_wp2
  go_ret
  exact ⟨rfl, BA5.out⟩
set_option maxRecDepth 100000 in
set_option maxHeartbeats 6400000 in
theorem back_bad_odd (xv lv : Value) (x : List Pv) (l : List Tv) (w : World) (hX : PLst w xv x) (hL : Lst w lv l) (hxl : x.length ≤ 3000000000000) (hll : l.length ≤ 3000000000000) (hls : ∀ i, (tokAt l i).s.size ≤ 140737488355000) (hg : Glo w) (hx : checkP (x.map ptV) ≠ 0) {ys : List Pt} {r : List Tk} (hl : parse (lst l 0) = .ok (ys, r)) (hy : checkP ys ≠ 0) : Calls Tryd.prog 4 #[xv, lv] w fun e w' => e = .returned (.bool true) ∧ Below w.heap.size w w' := by
  have c1 := works_ok w hg
  have HG := hide hg
  have HX := hide hX
  have HL := hide hL
  have HC := hide hx
  have HP := hide hl
  obtain ⟨xa, _, _, xcap, hxv, _, _⟩ := hX
  obtain ⟨la, _, _, lcap, hlv, _, _⟩ := hL
  have HY := hide hy
  clear hy
  have HLS := hide hls
  have HXL := hide hxl
  have HLL := hide hll
  obtain ⟨NX, hNX⟩ : ∃ NX, NX = x.length := ⟨_, rfl⟩
  obtain ⟨NL, hNL⟩ : ∃ NL, NL = l.length := ⟨_, rfl⟩
  rw [← hNX] at hxv hxl
  rw [← hNL] at hlv hll
  have i1 : (NX : Int) ≤ 3000000000000 := by omega
  have i2 : (NL : Int) ≤ 3000000000000 := by omega
  have HNX := hide hNX
  have HNL := hide hNL
  subst hxv hlv
  clear hx hl hls hxl hll hNX hNL hg
  go_enter Tryd.func4, Tryd.ntmps4
  go_wp2_with fail
  refine c1.mono ?_
  rintro e w1 ⟨rfl, hb1⟩
  have B1 := hide hb1
  have cA := tokens_bad _ x w1 (HX.out.below hb1 (Nat.le_refl _)) (by have := HXL.out; omega) (HG.out.on hb1) HC.out
  obtain ⟨C, hC⟩ : ∃ C, C = checkP (x.map ptV) := ⟨_, rfl⟩
  have HCC := HC.out
  rw [← hC] at cA HCC
  have i3 : (C == 0) = false := by rw [beq_eq_false_iff_ne]; exact HCC
  clear c1 hb1 hC HCC
  go_wp2_with fail
  refine cA.mono ?_
  rintro e w4 ⟨rfl, hb2⟩
  have B4 := hide (B1.out.trans (hb2.mono B1.out.size))
  clear cA hb2 B1
  have c5 := parse_any _ l 0 w4 (Nat.zero_le _) HLL.out HLS.out (HL.out.below B4.out (Nat.le_refl _)) (HG.out.on B4.out)
  go_wp2_with fail
  refine c5.mono ?_
  rintro e w5 ⟨hb5, hp5⟩
  rw [HP.out] at hp5
  have B5 := hide (B4.out.trans (hb5.mono B4.out.size))
  obtain ⟨pw, zs, hzs, rfl, hown5⟩ := hp5
  have hz5 : zs.length ≤ 500 := by have := parse_len HP.out; rw [← hzs, List.length_map] at this; exact this
  obtain ⟨qa, qcap, hpw, hqc⟩ := own_form3 hown5
  have BA5 := hide (B5.out.alloc B5.out.size (.cells #[.int .i64 0, .int .i64 0] 27))
  have HPL := hide (PLst.own hown5 ((Below.refl w5.heap.size w5).alloc (Nat.le_refl _) (.cells #[.int .i64 0, .int .i64 0] 27)))
  have HZC : Hid (checkP (zs.map ptV) ≠ 0) := by rw [hzs]; exact HY.out
  have c6 := tokens_bad pw zs (w5.alloc (.cells #[.int .i64 0, .int .i64 0] 27)) HPL.out (by omega) (HG.out.on BA5.out) HZC.out
  have h60 : checkP (zs.map ptV) = 60 := by
    rcases check_two (x := zs.map ptV) (by rw [List.length_map]; exact hz5) with h | h
    · exact absurd h HZC.out
    · exact h
  rw [h60] at c6
  obtain ⟨NZ, hNZ⟩ : ∃ NZ, NZ = zs.length := ⟨_, rfl⟩
  rw [← hNZ] at hpw hz5
  have z1 : (NZ : Int) ≤ 500 := by omega
  subst hpw
  obtain ⟨AT, hAT⟩ : ∃ AT : Int, AT = ((l.length - r.length : Nat) : Int) := ⟨_, rfl⟩
  rw [← hAT]
  clear c5 hb5 hown5 h60 hNZ hzs hAT hqc hz5
  go_wp2_with fail
  refine c6.mono ?_
  rintro e w6 ⟨rfl, hb6⟩
  have B6 := hide (BA5.out.trans (hb6.mono BA5.out.size))
  clear c6 hb6
  go_wp2
  go_ret
  exact ⟨rfl, B6.out⟩
set_option maxRecDepth 100000 in
set_option maxHeartbeats 6400000 in
theorem back_bad_all (xv lv : Value) (x : List Pv) (l : List Tv) (w : World) (hX : PLst w xv x) (hL : Lst w lv l) (hxl : x.length ≤ 3000000000000) (hll : l.length ≤ 3000000000000) (hls : ∀ i, (tokAt l i).s.size ≤ 140737488355000) (hg : Glo w) (hx : checkP (x.map ptV) ≠ 0) {ys : List Pt} {r : List Tk} (hl : parse (lst l 0) = .ok (ys, r)) (hy : checkP ys = 0) : Calls Tryd.prog 4 #[xv, lv] w fun e w' => e = .returned (.bool true) ∧ Below w.heap.size w w' := by
  have c1 := works_ok w hg
  have HG := hide hg
  have HX := hide hX
  have HL := hide hL
  have HC := hide hx
  have HP := hide hl
  obtain ⟨xa, _, _, xcap, hxv, _, _⟩ := hX
  obtain ⟨la, _, _, lcap, hlv, _, _⟩ := hL
  have HY := hide hy
  clear hy
  have HLS := hide hls
  have HXL := hide hxl
  have HLL := hide hll
  obtain ⟨NX, hNX⟩ : ∃ NX, NX = x.length := ⟨_, rfl⟩
  obtain ⟨NL, hNL⟩ : ∃ NL, NL = l.length := ⟨_, rfl⟩
  rw [← hNX] at hxv hxl
  rw [← hNL] at hlv hll
  have i1 : (NX : Int) ≤ 3000000000000 := by omega
  have i2 : (NL : Int) ≤ 3000000000000 := by omega
  have HNX := hide hNX
  have HNL := hide hNL
  subst hxv hlv
  clear hx hl hls hxl hll hNX hNL hg
  go_enter Tryd.func4, Tryd.ntmps4
  go_wp2_with fail
  refine c1.mono ?_
  rintro e w1 ⟨rfl, hb1⟩
  have B1 := hide hb1
  have cA := tokens_bad _ x w1 (HX.out.below hb1 (Nat.le_refl _)) (by have := HXL.out; omega) (HG.out.on hb1) HC.out
  obtain ⟨C, hC⟩ : ∃ C, C = checkP (x.map ptV) := ⟨_, rfl⟩
  have HCC := HC.out
  rw [← hC] at cA HCC
  have i3 : (C == 0) = false := by rw [beq_eq_false_iff_ne]; exact HCC
  clear c1 hb1 hC HCC
  go_wp2_with fail
  refine cA.mono ?_
  rintro e w4 ⟨rfl, hb2⟩
  have B4 := hide (B1.out.trans (hb2.mono B1.out.size))
  clear cA hb2 B1
  have c5 := parse_any _ l 0 w4 (Nat.zero_le _) HLL.out HLS.out (HL.out.below B4.out (Nat.le_refl _)) (HG.out.on B4.out)
  go_wp2_with fail
  refine c5.mono ?_
  rintro e w5 ⟨hb5, hp5⟩
  rw [HP.out] at hp5
  have B5 := hide (B4.out.trans (hb5.mono B4.out.size))
  obtain ⟨pw, zs, hzs, rfl, hown5⟩ := hp5
  have hz5 : zs.length ≤ 500 := by have := parse_len HP.out; rw [← hzs, List.length_map] at this; exact this
  obtain ⟨qa, qcap, hpw, hqc⟩ := own_form3 hown5
  have BA5 := hide (B5.out.alloc B5.out.size (.cells #[.int .i64 0, .int .i64 0] 27))
  have HPL := hide (PLst.own hown5 ((Below.refl w5.heap.size w5).alloc (Nat.le_refl _) (.cells #[.int .i64 0, .int .i64 0] 27)))
  have HZC : Hid (checkP (zs.map ptV) = 0) := by rw [hzs]; exact HY.out
  have c6 := tok_good pw zs (w5.alloc (.cells #[.int .i64 0, .int .i64 0] 27)) HPL.out (HG.out.on BA5.out) HZC.out
  obtain ⟨NZ, hNZ⟩ : ∃ NZ, NZ = zs.length := ⟨_, rfl⟩
  rw [← hNZ] at hpw hz5
  have HNZ := hide hNZ
  have z1 : (NZ : Int) ≤ 500 := by omega
  subst hpw
  obtain ⟨AT, hAT⟩ : ∃ AT : Int, AT = ((l.length - r.length : Nat) : Int) := ⟨_, rfl⟩
  rw [← hAT]
  clear c5 hb5 hown5 hNZ hzs hAT hqc
  go_wp2_with fail
  refine c6.mono ?_
  rintro e w6 ⟨a6, n6, cap6, rfl, hn6, hb6, hre6⟩
  have B6 := hide (BA5.out.trans (hb6.mono BA5.out.size))
  have c7 := hre6.out w6 (Below.refl _ _) (HG.out.on B6.out)
  have HPL6 := hide (HPL.out.below hb6 (Nat.le_refl _))
  have n2 : (n6 : Int) ≤ 1500 := by omega
  clear c6 hb6 hre6 hn6
  go_wp2_with fail
  refine c7.mono ?_
  rintro e w7 ⟨pu, rfl, hown7, hb7⟩
  have B7 := hide (B6.out.trans (hb7.mono B6.out.size))
  obtain ⟨ua, ucap, hpu, huc⟩ := own_form3 hown7
  have BA7 := hide (B7.out.alloc B7.out.size (.cells #[.int .i64 0, .int .i64 0] 27))
  have c8 := sameParts_any _ pu zs zs (w7.alloc (.cells #[.int .i64 0, .int .i64 0] 27)) (HPL6.out.below (hb7.trans (((Below.refl w7.heap.size w7).alloc (Nat.le_refl _) _).mono hb7.size)) (Nat.le_refl _)) (PLst.own hown7 ((Below.refl w7.heap.size w7).alloc (Nat.le_refl _) _)) (by rw [← HNZ.out]; omega) (by rw [← HNZ.out]; omega)
  rw [← HNZ.out] at hpu huc
  subst hpu
  clear c7 hb7 hown7 hz5
  go_wp2_with fail
  refine c8.mono ?_
  rintro e w8 ⟨⟨bb, rfl, hbb⟩, hb8⟩
  obtain rfl : bb = true := by first | exact hbb.2 rfl | exact hbb.2 trivial
  have B8 := hide (BA7.out.trans (hb8.mono BA7.out.size))
  clear c8 hbb hb8
  go_wp2
  go_ret
  exact ⟨rfl, B8.out⟩
theorem back_row (xv : Value) (x : List Pv) (lv : Value) (l : List Tv) (w : World) (hX : PLst w xv x) (hL : Lst w lv l) (hxl : x.length ≤ 3000000000000) (hll : l.length ≤ 3000000000000) (hls : ∀ i, (tokAt l i).s.size ≤ 140737488355000) (hg : Glo w) : Calls Tryd.prog 4 #[xv, lv] w fun e w' => e = .returned (.bool true) ∧ Below w.heap.size w w' := by
  by_cases hx : checkP (x.map ptV) = 0
  · cases hl : parse (lst l 0) with
    | error z => obtain ⟨k, c⟩ := z; exact back_good_err xv lv x l w hX hL hxl hll hls hg hx hl
    | ok z =>
      obtain ⟨ys, r⟩ := z
      by_cases hy : checkP ys = 0
      · exact back_good_all xv lv x l w hX hL hxl hll hls hg hx hl hy
      · exact back_good_odd xv lv x l w hX hL hxl hll hls hg hx hl hy
  · cases hl : parse (lst l 0) with
    | error z => obtain ⟨k, c⟩ := z; exact back_bad_err xv lv x l w hX hL hxl hll hls hg hx hl
    | ok z =>
      obtain ⟨ys, r⟩ := z
      by_cases hy : checkP ys = 0
      · exact back_bad_all xv lv x l w hX hL hxl hll hls hg hx hl hy
      · exact back_bad_odd xv lv x l w hX hL hxl hll hls hg hx hl hy
end Go.Proofs.YtkicbmjjbnblfaaDoor
