/- Signs, plain. | The contract of lex.sign. | The contract of lex.sign. | Byte slices of the call's own; the contracts of the program's and the document's Upper. -/
import Derived.Test.YtkicbmjjbnblfaaGreatDoorGlo
import Derived.Test.YtkicbmjjbnblfaaGreatDoorNumW
import Derived.Test.YtkicbmjjbnblfaaGreatDoorShelf
import Derived.ArgAppend
import Derived.OwnWalk
import Derived.Deep.AppendLies
import Derived.Laws.IdiomStrings
namespace Go.Proofs.YtkicbmjjbnblfaaGreatDoor
open Go.RowKit
def signAll : List Bs := [[58, 61], [60, 61], [62, 61], [60, 62], [42, 42], [46, 46], [40], [41], [91], [93], [44], [59], [58], [46], [43], [45], [42], [47], [61], [60], [62], [38]]
theorem pre_iff (g l : Bs) : g.isPrefixOf l = true ↔ g = l.take g.length := by
  rw [List.isPrefixOf_iff_prefix, List.prefix_iff_eq_take]
theorem find_len {n : Nat} (l : Bs) : ∀ L : List Bs, (∀ g ∈ L, g.length = n) → L.find? (fun g => g.isPrefixOf l) = if l.take n ∈ L then some (l.take n) else none
  | [], _ => by simp
  | g :: L, h => by
    have hg := h g List.mem_cons_self
    have ih := find_len l L fun x hx => h x (List.mem_cons_of_mem _ hx)
    rw [List.find?_cons]
    by_cases e : g = l.take n
    · have : g.isPrefixOf l = true := (pre_iff g l).2 (by rw [hg]; exact e)
      rw [this]
      simp only []
      rw [if_pos (by rw [← e]; exact List.mem_cons_self), e]
    · have : g.isPrefixOf l = false := by
        cases hq : g.isPrefixOf l with
        | false => rfl
        | true => exact absurd ((pre_iff g l).1 hq) (by rw [hg]; exact e)
      rw [this]
      simp only []
      rw [ih]
      by_cases hm : l.take n ∈ L
      · rw [if_pos hm, if_pos (List.mem_cons_of_mem _ hm)]
      · rw [if_neg hm, if_neg]
        intro hc
        rcases List.mem_cons.1 hc with hc | hc
        · exact e hc.symm
        · exact hm hc
theorem signs_split : signAll = signs2 ++ signs1.map (fun c => [c]) := by decide
theorem sign_find (l : Bs) : signL l = (signAll.find? fun g => g.isPrefixOf l).map fun g => (signT g, l.drop g.length) := by
  rw [signs_split, List.find?_append, find_len (n := 2) l signs2 (by decide), find_len (n := 1) l (signs1.map fun c => [c]) (by decide)]
  unfold signL
  by_cases h : l.take 2 ∈ signs2
  · rw [if_pos h, if_pos h]
    have : (l.take 2).length = 2 := (show ∀ g ∈ signs2, g.length = 2 by decide) _ h
    simp [this]
  · rw [if_neg h, if_neg h]
    match l with
    | [] => simp [signs1]
    | c :: r =>
      simp only [Option.none_or]
      by_cases hc : c ∈ signs1
      · rw [if_pos hc, if_pos (by simpa using hc)]
        simp
      · rw [if_neg hc, if_neg (by simpa using hc)]
        rfl
end Go.Proofs.YtkicbmjjbnblfaaGreatDoor
namespace Go.Proofs.YtkicbmjjbnblfaaGreatDoor
open Go.RowKit
theorem sign_tab (k : Nat) (h : k < 22) : signTab[k]? = some (.string ⟨(signAll[k]'h).toArray⟩) := by
  have : ∀ k : Fin 22, signTab[k.val]? = some (.string ⟨(signAll[k.val]'k.isLt).toArray⟩) := by
    intro k
    obtain ⟨k, h⟩ := k
    have : k = 0 ∨ k = 1 ∨ k = 2 ∨ k = 3 ∨ k = 4 ∨ k = 5 ∨ k = 6 ∨ k = 7 ∨ k = 8 ∨ k = 9 ∨ k = 10 ∨ k = 11 ∨ k = 12 ∨ k = 13 ∨ k = 14 ∨ k = 15 ∨ k = 16 ∨ k = 17 ∨ k = 18 ∨ k = 19 ∨ k = 20 ∨ k = 21 := by omega
    rcases this with rfl | rfl | rfl | rfl | rfl | rfl | rfl | rfl | rfl | rfl | rfl | rfl | rfl | rfl | rfl | rfl | rfl | rfl | rfl | rfl | rfl | rfl <;> rfl
  exact this ⟨k, h⟩
end Go.Proofs.YtkicbmjjbnblfaaGreatDoor
namespace Go.Proofs.YtkicbmjjbnblfaaGreatDoor
open Go.RowKit
theorem size140' : (Tryz.prog.info? 140).map (·.size) = some 22 := by kernel_rfl
theorem size140 : (Tryz.prog.info? 140).map (·.size) = some signTab.length := size140'
set_option maxRecDepth 100000 in
set_option maxHeartbeats 1600000 in
theorem sign_any (l : Bs) (w : World) (hg : Glo w) : Calls Tryz.prog 86 #[.string ⟨l.toArray⟩] w fun e w' => (∃ v, e = .returned v ∧ TokOut (signL l) l.length v) ∧ Below w.heap.size w w' := by
  have ht : ∀ o, TabAt (w.alloc o) 5 signTab := hg.sign.alloc (by have := hg.lt; omega)
  have ix : Hid (∀ (k : Nat) (h : k < 22) W, (Instr.index 140 (.agg signTab.toArray) (.int .i64 (k : Int))).run Tryz.prog W = .ok (.string ⟨(signAll[k]'h).toArray⟩) W) := fun k h W => index_cell Tryz.underlying140 (fun _ => Tryz.isAgg9 _) (fun _ => Tryz.sizeOf9 _) _ k h _ (by rw [List.getElem?_toArray]; exact sign_tab k h) W
  have hp := fun (p : Bs) W => Tryz.strings_HasPrefix ⟨l.toArray⟩ ⟨p.toArray⟩ W
  have E := hide (sign_find l)
  obtain ⟨T, hT⟩ : ∃ T, Value.agg signTab.toArray = T := ⟨_, rfl⟩
  rw [hT] at ix
  clear hg
  go_enter Tryz.func86, Tryz.ntmps86
  go_wp2_with ((with_reducible refine at_load (ty := 140) ?_); go_must (refine load_tab (b := 5) (t := signTab) (T := T) rfl (ht _) hT Tryz.underlying140 rfl size140 ?_))
  clear ht hT
  go_loop [8] (fun i => ∃ k : Nat, k ≤ 22 ∧ i = .int .i64 (k : Int) ∧ (signAll.drop k).find? (fun g => g.isPrefixOf l) = signAll.find? fun g => g.isPrefixOf l) (fun i => 22 - (intOf i).toNat)
  case atStart => exact ⟨0, by omega, rfl, rfl⟩
  case round =>
    obtain ⟨k, hk, rfl, hf⟩ := hrel
    by_cases hlt : k < 22
    · have x0 := ix.out k hlt
      have i1 : (k : Int) < 22 := by omega
      have h1 := hp (signAll[k]'hlt)
      rw [List.drop_eq_getElem_cons (show k < signAll.length from hlt), List.find?_cons] at hf
      have hlen := list_size (signAll[k]'hlt)
      have h1' : ∀ W, Calls Tryz.prog 79 #[.string ⟨l.toArray⟩, .string ⟨(signAll[k]'hlt).toArray⟩] W fun e w' => e = .returned (.bool ((signAll[k]'hlt).isPrefixOf l)) ∧ w' = W := h1
      clear h1 ix hp
      generalize (signAll[k]'hlt) = g at *
      have hfe := hf
      clear hf
      obtain ⟨u, HU⟩ : ∃ u : ByteArray, Hid ((⟨g.toArray⟩ : ByteArray) = u) := ⟨_, rfl⟩
      rw [HU.out] at x0 hlen h1'
      replace hlen := hide hlen
      cases hq : g.isPrefixOf l with
      | true =>
        rw [hq] at h1' hfe
        replace hfe := hide hfe
        have HS : Hid ((u.size : Int) = ((l.length - (l.drop g.length).length : Nat) : Int)) := by
          show _ = _
          have h2 := (pre_iff g l).1 hq
          have h3 := congrArg List.length h2
          rw [List.length_take] at h3
          rw [hlen.out, List.length_drop]
          omega
        clear hq
        go_wp2_with fail
        refine (h1' _).mono ?_
        rintro e w1 ⟨rfl, rfl⟩
        go_wp2
        refine bodyPost_ret (v := .tuple #[tkA (signT g) 0, .int .i64 (u.size : Int), .bool true]) ?_ rfl ⟨⟨_, rfl, ?_⟩, ?_⟩
        · simp [results, Tryz.results86, go_sem, tkA, signT, HU.out]
        · rw [E.out, ← hfe.out]
          show _ = _
          rw [HS.out]
        · exact (Below.refl _ _).alloc (Nat.le_refl _) _
      | false =>
        rw [hq] at h1' hfe
        replace hfe := hide hfe
        clear hq
        go_wp2_with fail
        refine (h1' _).mono ?_
        rintro e w1 ⟨rfl, hw1⟩
        subst hw1
        go_wp2
        go_round
        case rel => exact ⟨k + 1, by omega, by go_num, hfe.out⟩
        case measure => simp only [intOf]; omega
    · obtain rfl : k = 22 := by omega
      have HN := hide (show signL l = none by
        rw [E.out, ← hf]; rfl)
      clear hf
      go_wp2
      refine bodyPost_ret (v := .tuple #[tkA ⟨0, [], 0, 0⟩ 0, .int .i64 0, .bool false]) ?_ rfl ⟨⟨_, rfl, ?_⟩, ?_⟩
      · simp [results, Tryz.results86, go_sem, tkA]
      · rw [HN.out]
        exact ⟨_, _, rfl⟩
      · exact (Below.refl _ _).alloc (Nat.le_refl _) _
end Go.Proofs.YtkicbmjjbnblfaaGreatDoor
namespace Go.Proofs.YtkicbmjjbnblfaaGreatDoor
open Go.RowKit
def encBL (b : UInt8) : Value := .int .u8 (b.toNat : Int)
theorem addr_addL (g j : Nat) : (⟨g, 0, none⟩ : Addr).add j = ⟨g, j, none⟩ := by unfold Addr.add; split <;> simp_all
theorem in5L : (Tryz.prog.info? 5).map (fun i => (i.zero, i.size, i.bytes)) = some (some (.int .u8 0), 1, 1) := by kernel_rfl
theorem info_parts {t : TypeId} {z : Value} {a b : Nat} (h : (Tryz.prog.info? t).map (fun i => (i.zero, i.size, i.bytes)) = some (some z, a, b)) : ∃ i, Tryz.prog.info? t = some i ∧ i.zero = some z ∧ i.size = a ∧ i.bytes = b := by
  cases hi : Tryz.prog.info? t with
  | none => rw [hi] at h; cases h
  | some i =>
    rw [hi] at h
    simp only [Option.map_some, Option.some.injEq, Prod.mk.injEq] at h
    exact ⟨i, rfl, h.1, h.2.1, h.2.2⟩
theorem heap_setCell_any (w : World) (g i : Nat) (cs : Array Value) (t : TypeId) (fz : Nat × Nat) (v : Value) (hg : w.heap[g]? = some (.cells cs t fz)) :
    (w.setCell ⟨g, i, none⟩ v).heap[g]? = some (.cells (cs.setIfInBounds i v) t fz) := by
  rw [setCell_eq_setRow w g i cs t fz v hg]
  exact setRow_heap w g cs _ t _ hg
def ownsG (w : World) (base : Nat) (v : Value) (n : Nat) (xs : List Value) : Prop :=
  xs.length = n ∧ ∃ g cap cur fz, v = .slice (some ⟨g, 0, none⟩) n cap ∧ base ≤ g ∧ w.heap[g]? = some (.cells cur 5 fz) ∧ (fz.2 = 0 ∨ cur.size ≤ fz.1) ∧ n ≤ cap ∧ cap ≤ maxLen ∧ cur.size = cap ∧ cur.toList.take n = xs
theorem ownsG.form {w : World} {base : Nat} {v : Value} {n : Nat} {xs : List Value} (h : ownsG w base v n xs) : ∃ g cap, v = .slice (some ⟨g, 0, none⟩) n cap ∧ base ≤ g ∧ g < w.heap.size ∧ n ≤ cap := by
  obtain ⟨_, g, cap, cur, fz, hv, hb, hg, _, hn, _⟩ := h
  exact ⟨g, cap, hv, hb, (Array.getElem?_eq_some_iff.1 hg).1, hn⟩
theorem ownsG.cell {w : World} {base g cap : Nat} {n : Nat} {xs : List Value} (h : ownsG w base (.slice (some ⟨g, 0, none⟩) n cap) n xs) (j : Nat) (hj : j < n) : w.cell? ⟨g, j, none⟩ = xs[j]? := by
  obtain ⟨_, g', cap', cur, fz, hv, hb, hg, _, hn, _, _, ht⟩ := h
  injection hv with h1 h2 h3
  injection h1 with h1
  injection h1 with h1
  subst h1
  rw [cell_of_row _ _ _ _ _ _ hg, ← ht, List.getElem?_take_of_lt hj]
  simp
theorem ownsG.kept {w w' : World} {base : Nat} {v : Value} {n : Nat} {xs : List Value} (h : ownsG w base v n xs) (hk : ∀ k, k < w.heap.size → w'.heap[k]? = w.heap[k]?) : ownsG w' base v n xs := by
  obtain ⟨h1, g, cap, cur, fz, hv, hb, hg, r⟩ := h
  exact ⟨h1, g, cap, cur, fz, hv, hb, by rw [hk g (Array.getElem?_eq_some_iff.1 hg).1]; exact hg, r⟩
theorem frozen_of_marks {w : World} {g j : Nat} {cur : Array Value} {t : TypeId} {fz : Nat × Nat} (hg : w.heap[g]? = some (.cells cur t fz)) (hf : fz.2 = 0 ∨ cur.size ≤ fz.1) (hj : j < cur.size) : w.frozen? ⟨g, j, none⟩ = false := by
  unfold World.frozen?
  simp only [hg]
  rcases hf with h | h <;> simp <;> omega
theorem ownsG.setCell {w : World} {base g cap n : Nat} {xs : List Value} (h : ownsG w base (.slice (some ⟨g, 0, none⟩) n cap) n xs) (j : Nat) (v : Value) : ownsG (w.setCell ⟨g, j, none⟩ v) base (.slice (some ⟨g, 0, none⟩) n cap) n (xs.set j v) := by
  obtain ⟨hxl, g', cap', cur, fz, hv, hb, hg, hf, hn, hm, hs, ht⟩ := h
  injection hv with h1 h2 h3
  injection h1 with h1
  injection h1 with h1
  subst h1 h3
  refine ⟨by rw [List.length_set]; exact hxl, g, cap, _, fz, rfl, hb, heap_setCell_any w g j cur 5 fz v hg, ?_, hn, hm, by rw [Array.size_setIfInBounds]; exact hs, ?_⟩
  · rw [Array.size_setIfInBounds]; exact hf
  · rw [Array.toList_setIfInBounds, ← ht, List.take_set]
theorem ownsG.free {w : World} {base g cap n : Nat} {xs : List Value} (h : ownsG w base (.slice (some ⟨g, 0, none⟩) n cap) n xs) (j : Nat) (hj : j < n) : w.frozen? ⟨g, j, none⟩ = false := by
  obtain ⟨hxl, g', cap', cur, fz, hv, hb, hg, hf, hn, hm, hs, ht⟩ := h
  injection hv with h1 h2 h3
  injection h1 with h1
  injection h1 with h1
  subst h1 h3
  exact frozen_of_marks hg hf (by omega)
theorem conv_own (w : World) (s : ByteArray) (hn : s.size ≤ 140737488355000) : ∃ cap W1, (convert 9 89 (.string s)).run Tryz.prog w = .ok (.slice (some ⟨w.heap.size, 0, none⟩) s.size cap) W1 ∧
    ownsG W1 w.heap.size (.slice (some ⟨w.heap.size, 0, none⟩) s.size cap) s.size (s.data.toList.map encBL) ∧ Below w.heap.size w W1 := by
  have h := run_bytes_of_string (P := Tryz.prog) w 9 89 5 s Tryz.underlying9 Tryz.underlying89 Tryz.underlying5
  have hge := grownCap_ge w s.size 0 5
  have hcm := grownCap_le_maxLen w s.size 0 5 (by unfold maxLen; omega)
  have hsz : (bytesRow s (grownCap w s.size 0 5)).size = grownCap w s.size 0 5 := by
    unfold bytesRow
    simp only [Array.size_append, Array.size_map, Array.size_replicate]
    show s.size + (grownCap w s.size 0 5 - s.size) = _
    omega
  refine ⟨_, _, h, ⟨by rw [List.length_map, Array.length_toList]; rfl, w.heap.size, _, _, _, rfl, Nat.le_refl _, heap_alloc_new w.drew _, .inr (Nat.le_refl _), hge, hcm, hsz, ?_⟩, ((Below.refl _ _).drew).alloc (Nat.le_refl _) _⟩
  unfold bytesRow
  rw [Array.toList_append, List.take_left' (by simp)]
  simp [encBL]
theorem upC_int (c : UInt8) : ((upC c).toNat : Int) = if (97 : Int) ≤ (c.toNat : Int) ∧ (c.toNat : Int) ≤ 122 then (c.toNat : Int) - 97 + 65 else (c.toNat : Int) :=
  all8 (P := fun c => ((upC c).toNat : Int) = if (97 : Int) ≤ (c.toNat : Int) ∧ (c.toNat : Int) ≤ 122 then (c.toNat : Int) - 97 + 65 else (c.toNat : Int)) (by decide +kernel) c
theorem up_set (l : Bs) (k : Nat) (h : k < l.length) : ((upL (l.take k) ++ l.drop k).map encBL).set k (encBL (upC l[k])) = (upL (l.take (k + 1)) ++ l.drop (k + 1)).map encBL := by
  rw [← List.map_set]
  congr 1
  have hk : (upL (l.take k)).length = k := by rw [up_length, List.length_take]; omega
  rw [List.set_append_right _ _ (by omega), hk, Nat.sub_self, drop_at h, List.set_cons_zero, ← List.take_append_getElem h]
  unfold upL
  rw [List.map_append, List.append_assoc]
  rfl
theorem up_keep (l : Bs) (k : Nat) (h : k < l.length) (hc : upC l[k] = l[k]) : (upL (l.take k) ++ l.drop k).map encBL = (upL (l.take (k + 1)) ++ l.drop (k + 1)).map encBL := by
  congr 1
  rw [drop_at h, ← List.take_append_getElem h]
  unfold upL
  rw [List.map_append, List.append_assoc]
  show _ = _ ++ (upC l[k] :: _)
  rw [hc]
  rfl
theorem up_get (l : Bs) (k : Nat) (h : k < l.length) : ((upL (l.take k) ++ l.drop k).map encBL)[k]? = some (encBL l[k]) := by
  have hk : (upL (l.take k)).length = k := by rw [up_length, List.length_take]; omega
  rw [List.getElem?_map, List.getElem?_append_right (by omega), hk, Nat.sub_self, drop_at h]
  rfl
set_option maxRecDepth 100000 in
set_option maxHeartbeats 1600000 in
theorem upper_any (l : Bs) (hl : l.length ≤ 140737488355000) (w : World) : Calls Tryz.prog 96 #[.string ⟨l.toArray⟩] w fun e w' => e = .returned (.string ⟨(upL l).toArray⟩) ∧ Below w.heap.size w w' := by
  obtain ⟨cap, W1, hcv, hown, hbel⟩ := conv_own w ⟨l.toArray⟩ (by rw [list_size]; exact hl)
  rw [list_size] at hcv hown
  have hown : Hid (ownsG W1 w.heap.size (.slice (some ⟨w.heap.size, 0, none⟩) l.length cap) l.length (l.map encBL)) := hown
  have hbel := hide hbel
  have hback : Hid (∀ W2, ownsG W2 w.heap.size (.slice (some ⟨w.heap.size, 0, none⟩) l.length cap) l.length ((upL l).map encBL) → (convert 89 9 (.slice (some ⟨w.heap.size, 0, none⟩) l.length cap)).run Tryz.prog W2 = .ok (.string ⟨(upL l).toArray⟩) W2) := fun W2 ho => by
    have h := run_convert_bytes_back (P := Tryz.prog) W2 89 9 5 ⟨w.heap.size, 0, none⟩ cap (upL l) Tryz.underlying89 Tryz.underlying5 Tryz.underlying9 (fun j hj => by
      rw [up_length] at hj
      rw [addr_addL, ho.cell j hj, List.getElem?_map, List.getElem?_eq_getElem (by rw [up_length]; exact hj)]; rfl)
    rw [up_length] at h
    exact h
  have hnl : (l.length : Int) ≤ 140737488355000 := by omega
  clear hl
  obtain ⟨B, hB⟩ : ∃ B, Hid (B = w.heap.size) := ⟨_, rfl⟩
  go_enter Tryz.func96, Tryz.ntmps96
  go_wp2_with fail
  go_loopw [10] (fun i wr => ∃ k : Nat, k ≤ l.length ∧ i = .int .i64 (k : Int) ∧ Hid (ownsG wr w.heap.size (.slice (some ⟨w.heap.size, 0, none⟩) l.length cap) l.length ((upL (l.take k) ++ l.drop k).map encBL) ∧ Below w.heap.size w wr)) (fun i _ => l.length - (intOf i).toNat)
  case atStart => exact ⟨0, by omega, rfl, hown.out, hbel.out⟩
  case round =>
    obtain ⟨k, hk, rfl, ho⟩ := hrel
    by_cases hlt : k < l.length
    · have i1 : (k : Int) < (l.length : Int) := by omega
      have i0 : (0 : Int) ≤ (k : Int) := by omega
      have g0 := (ho.out.1.cell k hlt).trans (up_get l k hlt)
      have f0 := ho.out.1.free k hlt
      have E := hide (upC_int l[k])
      have hx := byte_lt l[k]
      have hx0 : (0 : Int) ≤ (l[k].toNat : Int) := by omega
      unfold encBL at g0
      by_cases hc : (97 : Int) ≤ (l[k].toNat : Int) ∧ (l[k].toNat : Int) ≤ 122
      · have e := hide E.out
        rw [if_pos hc] at e
        have HS := hide (up_set l k hlt)
        unfold encBL at HS
        rw [e.out] at HS
        obtain ⟨c1, c2⟩ := hc
        generalize (l[k].toNat : Int) = x at *
        clear E hcv hback hown hbel
        go_wp2
        go_roundw
        case rel =>
          refine ⟨k + 1, by omega, by go_num, ?_⟩
          have hs := ho.out.1.setCell k (.int .u8 (x - 97 + 65))
          have h2 := HS.out
          unfold encBL at hs
          rw [h2] at hs
          exact ⟨hs, ho.out.2.setCell (Nat.le_refl _) _⟩
        case measure => simp only [intOf]; omega
      · have hu : upC l[k] = l[k] := by
          have e := E.out
          rw [if_neg hc] at e
          exact u8_eq.2 e
        have HS := hide (up_keep l k hlt hu)
        clear E hu
        generalize (l[k].toNat : Int) = x at *
        clear hcv hback hown hbel
        by_cases h97 : 97 ≤ x
        · have h122 : ¬ x ≤ 122 := fun h => hc ⟨h97, h⟩
          clear hc
          go_wp2
          go_roundw
          case rel => exact ⟨k + 1, by omega, by go_num, HS.out ▸ ho.out⟩
          case measure => simp only [intOf]; omega
        · clear hc
          go_wp2
          go_roundw
          case rel => exact ⟨k + 1, by omega, by go_num, HS.out ▸ ho.out⟩
          case measure => simp only [intOf]; omega
    · obtain rfl : k = l.length := by omega
      have i1 : ¬ (l.length : Int) < (l.length : Int) := by omega
      have ho' := ho.out.1
      rw [List.take_length, List.drop_length, List.append_nil] at ho'
      have hb := hback.out wr ho'
      clear ho' hback hcv hown hbel
      go_wp2
      go_ret
      exact ⟨rfl, ho.out.2⟩
end Go.Proofs.YtkicbmjjbnblfaaGreatDoor
