/- The contracts of slices.Sort and slices.Compact at strings. | The contract of expr.Names. -/
import Derived.Shelf.Small.Bits
import Derived.Shelf.Small.Strs
import Derived.Shelf.Small.Wraps
import Derived.Shelf.Strconv.Itoa0
import Derived.Shelf.LaysM
import Derived.Shelf.Strconv.Clone
import Derived.Shelf.Strings.Search1
import Derived.Shelf.Strings.Search2
import Derived.Shelf.Strings.Search3
import Derived.Shelf.Strings.Shaped
import Derived.Shelf.Sort.Plain
import Derived.Shelf.Strings.Prefix
import Derived.Shelf.Slices.CompactS
import Derived.Shelf.Slices.Cells
import Derived.Shelf.Slices.In.SortNone
import Derived.Test.YtkicbmjjbnblfaaGreatDoorProg
import Derived.Test.YtkicbmjjbnblfaaGreatDoorDcA
import Derived.Test.YtkicbmjjbnblfaaGreatDoorRxA
import Derived.Sort.OwnSorted
import Derived.Sort.Grow
import Derived.Lib.OwnBridge
namespace Go.Proofs
open Go.Shelf
def Tryz.lays190_ren : Go.Shelf.Ren := ⟨fun | 190 => 21 | 125 => 46 | 258 => 45 | 128 => 63 | 129 => 64 | 302 => 54 | 303 => 55 | 304 => 56 | 305 => 57 | 306 => 58 | 307 => 59 | 308 => 60 | 309 => 61 | 310 => 62 | 333 => 71 | 329 => 72 | 330 => 73 | 334 => 74 | 335 => 75 | 336 => 76 | 344 => 91 | n => n, fun | 31 => 28 | 9 => 9 | 3 => 3 | 46 => 75 | 0 => 0 | 51 => 100 | 53 => 102 | 4 => 4 | 183 => 93 | 182 => 92 | 131 => 50 | 5 => 5 | 218 => 112 | 222 => 116 | 228 => 127 | 229 => 128 | n => n, fun | n => n⟩
theorem Tryz.lays190 : Go.Proofs.Lays.n190 Tryz.prog Tryz.lays190_ren := {
  mixed := by kernel_rfl
  f125 := Tryz.func46.trans (congrArg some (by kernel_rfl))
  f128 := Tryz.func63.trans (congrArg some (by kernel_rfl))
  f129 := Tryz.func64.trans (congrArg some (by kernel_rfl))
  f190 := Tryz.func21.trans (congrArg some (by kernel_rfl))
  f258 := Tryz.func45.trans (congrArg some (by kernel_rfl))
  f302 := Tryz.func54.trans (congrArg some (by kernel_rfl))
  f303 := Tryz.func55.trans (congrArg some (by kernel_rfl))
  f304 := Tryz.func56.trans (congrArg some (by kernel_rfl))
  f305 := Tryz.func57.trans (congrArg some (by kernel_rfl))
  f306 := Tryz.func58.trans (congrArg some (by kernel_rfl))
  f307 := Tryz.func59.trans (congrArg some (by kernel_rfl))
  f308 := Tryz.func60.trans (congrArg some (by kernel_rfl))
  f309 := Tryz.func61.trans (congrArg some (by kernel_rfl))
  f310 := Tryz.func62.trans (congrArg some (by kernel_rfl))
  f329 := Tryz.func72.trans (congrArg some (by kernel_rfl))
  f330 := Tryz.func73.trans (congrArg some (by kernel_rfl))
  f333 := Tryz.func71.trans (congrArg some (by kernel_rfl))
  f334 := Tryz.func74.trans (congrArg some (by kernel_rfl))
  f335 := Tryz.func75.trans (congrArg some (by kernel_rfl))
  f336 := Tryz.func76.trans (congrArg some (by kernel_rfl))
  f344 := Tryz.func91.trans (congrArg some (by kernel_rfl))
  t0 := Tryz.underlying0
  a0 := Tryz.isAgg0
  z0 := Tryz.sizeOf0
  v0 := Tryz.zeroValue0
  t3 := Tryz.underlying3
  a3 := Tryz.isAgg3
  z3 := Tryz.sizeOf3
  v3 := Tryz.zeroValue3
  t4 := Tryz.underlying4
  a4 := Tryz.isAgg4
  z4 := Tryz.sizeOf4
  v4 := Tryz.zeroValue4
  t5 := Tryz.underlying5
  a5 := Tryz.isAgg5
  z5 := Tryz.sizeOf5
  v5 := Tryz.zeroValue5
  t9 := Tryz.underlying9
  a9 := Tryz.isAgg9
  z9 := Tryz.sizeOf9
  v9 := Tryz.zeroValue9
  t31 := Tryz.underlying28
  a31 := Tryz.isAgg28
  z31 := Tryz.sizeOf28
  v31 := Tryz.zeroValue28
  t46 := Tryz.underlying75
  a46 := Tryz.isAgg75
  z46 := Tryz.sizeOf75
  v46 := Tryz.zeroValue75
  t51 := Tryz.underlying100
  a51 := Tryz.isAgg100
  z51 := Tryz.sizeOf100
  v51 := Tryz.zeroValue100
  t53 := Tryz.underlying102
  a53 := Tryz.isAgg102
  z53 := Tryz.sizeOf102
  v53 := Tryz.zeroValue102
  t131 := Tryz.underlying50
  a131 := Tryz.isAgg50
  z131 := Tryz.sizeOf50
  v131 := Tryz.zeroValue50
  t182 := Tryz.underlying92
  a182 := Tryz.isAgg92
  z182 := Tryz.sizeOf92
  v182 := Tryz.zeroValue92
  t183 := Tryz.underlying93
  a183 := Tryz.isAgg93
  z183 := Tryz.sizeOf93
  v183 := Tryz.zeroValue93
  t218 := Tryz.underlying112
  a218 := Tryz.isAgg112
  z218 := Tryz.sizeOf112
  v218 := Tryz.zeroValue112
  t222 := Tryz.underlying116
  a222 := Tryz.isAgg116
  z222 := Tryz.sizeOf116
  v222 := Tryz.zeroValue116
  t228 := Tryz.underlying127
  a228 := Tryz.isAgg127
  z228 := Tryz.sizeOf127
  v228 := Tryz.zeroValue127
  t229 := Tryz.underlying128
  a229 := Tryz.isAgg128
  z229 := Tryz.sizeOf128
  v229 := Tryz.zeroValue128 }
open Go.Sort Go.RowKit in
theorem Tryz.slices_Sort_string (blk off cap : Nat) (ss : List (List UInt8)) (w : World) (hH : Holds encStr w blk off ss.toArray) (hblk : blk < w.heap.size) (hsz : ss.length < 4611686018427387904) :
    Calls Tryz.prog 21 #[.slice (some ⟨blk, off, none⟩) ss.length cap] w fun e w' =>
      e = .returned (.tuple #[]) ∧ ∃ n os, w' = grow (putRow encStr (Sort.ahead w n) blk off (ss.mergeSort fun x y => decide (x ≤ y)).toArray) os := Any.slices_Sort_string Tryz.lays190 blk off cap ss w hH hblk hsz
def Tryz.lays194_ren : Go.Shelf.Ren := ⟨fun | 194 => 22 | n => n, fun | 31 => 28 | 9 => 9 | 3 => 3 | 4 => 4 | 0 => 0 | n => n, fun | n => n⟩
theorem Tryz.lays194 : Go.Proofs.Lays.n194 Tryz.prog Tryz.lays194_ren := {
  mixed := by kernel_rfl
  f194 := Tryz.func22.trans (congrArg some (by kernel_rfl))
  t0 := Tryz.underlying0
  a0 := Tryz.isAgg0
  z0 := Tryz.sizeOf0
  v0 := Tryz.zeroValue0
  t3 := Tryz.underlying3
  a3 := Tryz.isAgg3
  z3 := Tryz.sizeOf3
  v3 := Tryz.zeroValue3
  t4 := Tryz.underlying4
  a4 := Tryz.isAgg4
  z4 := Tryz.sizeOf4
  v4 := Tryz.zeroValue4
  t9 := Tryz.underlying9
  a9 := Tryz.isAgg9
  z9 := Tryz.sizeOf9
  v9 := Tryz.zeroValue9
  t31 := Tryz.underlying28
  a31 := Tryz.isAgg28
  z31 := Tryz.sizeOf28
  v31 := Tryz.zeroValue28 }
open Go.RowKit Go.Lib Go.Sort in
theorem Tryz.slices_Compact_string (blk off cap : Nat) (zs : List (List UInt8)) (w : World) (hH : Holds encStr w blk off zs.toArray) (hsz : zs.length ≤ 9223372036854775807) (hcap : zs.length ≤ cap) :
    Calls Tryz.prog 22 #[.slice (some ⟨blk, off, none⟩) zs.length cap] w fun e w' => e = .returned (.slice (some ⟨blk, off, none⟩) (Lib.compact zs).length cap) ∧ ∃ q, w' = putRow encStr (Sort.ahead w q) blk off (Lib.compact zs ++ List.replicate (zs.length - (Lib.compact zs).length) []).toArray := Any.slices_Compact_string Tryz.lays194 blk off cap zs w hH hsz hcap
open Go.RowKit Go.Lib Go.Sort in
theorem Tryz.slices_Compact_string_empty (a : Option Addr) (cap : Nat) (w : World) :
    Calls Tryz.prog 22 #[.slice a 0 cap] w fun e w' => e = .returned (.slice a 0 cap) ∧ w' = w := Any.slices_Compact_string_empty Tryz.lays194 a cap w
open Go.RowKit Go.Sort in
theorem Tryz.slices_Sort_string_none (p : Option Addr) (cap : Nat) (w : World) :
    Calls Tryz.prog 21 #[.slice p 0 cap] w fun e w' => e = .returned (.tuple #[]) ∧ w' = w := Any.slices_Sort_string_none Tryz.lays190 p cap w
end Go.Proofs
namespace Go.Proofs.YtkicbmjjbnblfaaGreatDoor
open Go.RowKit Go.Sort Go.Lib
theorem in9 : (Tryz.prog.info? 9).map (fun i => (i.zero, i.size, i.bytes)) = some (some (.string ⟨#[]⟩), 1, 16) := by kernel_rfl
/-- all the names, as they come -/
def nmsL (x : List Pt) : List Bs := (x.map (·.s)).filter fun s => !s.isEmpty
/-- each once, rising -/
def nmsS (x : List Pt) : List Bs := Lib.compact ((nmsL x).mergeSort fun a b => decide (a ≤ b))
theorem may_s {p : Pt} (h : mayP p = true) : p.s.length ≤ 24 := by
  have key : p.s = [] ∨ nameB p.s = true := by
    unfold mayP at h
    split at h
    · simp at h; exact .inl h.1
    · split at h
      · simp at h; exact .inr h.2.2.2
      · split at h
        · simp at h; exact .inr h.2.2.1
        · split at h
          · simp at h; exact .inl h.1
          · split at h
            · simp at h; exact .inl h.1
            · cases h
  rcases key with h | h
  · rw [h]; simp
  · exact name_len h
theorem nms_take (x : List Pt) (k : Nat) (p : Pt) (h : x[k]? = some p) : nmsL (x.take (k + 1)) = if p.s.isEmpty then nmsL (x.take k) else nmsL (x.take k) ++ [p.s] := by
  unfold nmsL
  rw [List.take_add_one, h, List.map_append, List.filter_append]
  show _ ++ [p.s].filter _ = _
  rw [List.filter_cons]
  cases p.s.isEmpty <;> simp
def NamesOut (base : Nat) (x : List Pt) (e : Ending) (w' : World) : Prop :=
  (checkP x ≠ 0 ∧ e = .returned (.tuple #[.slice none 0 0, .int .i64 (checkP x)])) ∨ (checkP x = 0 ∧ ∃ v, e = .returned (.tuple #[v, .int .i64 0]) ∧ w'.ownsRow base 9 1 v (nmsS x).length ((nmsS x).map encStr))
theorem check_parts {x : List Pt} (h : checkP x = 0) : x.length ≤ 500 ∧ ∀ p ∈ x, mayP p = true := by
  unfold checkP at h
  split at h
  · cases h
  · next h5 =>
    split at h
    · cases h
    · next ha =>
      refine ⟨by omega, fun p hp => ?_⟩
      have ha' : x.all mayP = true := by simpa using ha
      exact List.all_eq_true.1 ha' p hp
theorem one_str (w : World) (s : ByteArray) : ∀ j u, ([Value.string s])[j]? = some u → (w.alloc (.cells #[.string s] 9)).cell? ((⟨w.heap.size, 0, none⟩ : Addr).add j) = some u := fun j u hj => by
  match j, hj with
  | 0, hj => simp at hj; subst hj; simp [Addr.add]
set_option maxRecDepth 100000 in
set_option maxHeartbeats 3200000 in
theorem names_any (v : Value) (x : List Pv) (w : World) (hL : PLst w v x) (hlen : x.length ≤ 4398046510976) (hg : Glo w) : Calls Tryz.prog 7 #[v] w fun e w' => NamesOut w.heap.size (x.map ptV) e w' ∧ Below w.heap.size w w' := by
  have c0 := check_any v x w hL hlen hg
  have HL := hide hL
  obtain ⟨C, hC⟩ : ∃ C, C = checkP (x.map ptV) := ⟨_, rfl⟩
  rw [← hC] at c0
  obtain ⟨a, b, off, cap, rfl, hA, hI⟩ := hL
  by_cases h0 : C = 0
  · obtain ⟨hx5, hmay⟩ := check_parts (hC.symm.trans h0)
    rw [List.length_map] at hx5
    obtain ⟨i0, hi, hz0, hz1, hz2⟩ := info_parts in9
    have HA := hide hA
    have HI := hide hI
    have HM := hide hmay
    have HC0 : Hid (checkP (x.map ptV) = 0) := hC.symm.trans h0
    obtain ⟨N, hN⟩ : ∃ N, N = x.length := ⟨_, rfl⟩
    have HN := hide hN
    rw [← hN] at hx5 c0 ⊢
    have n5 : (N : Int) ≤ 500 := by omega
    subst h0
    clear hA hI hmay hN hC hlen hg HL
    go_enter Tryz.func7, Tryz.ntmps7
    go_wp2_with fail
    refine c0.mono ?_
    rintro e w0 ⟨rfl, hb0⟩
    have B0 := hide hb0
    clear c0 hb0
    go_wp2_with fail
    go_loopw [5, 15] (fun nv i wr => ∃ (k : Nat) (nv' : Value), k ≤ N ∧ i = .int .i64 (k : Int) ∧ nv' = nv ∧ Hid (wr.ownsRow w.heap.size 9 1 nv' (nmsL ((x.map ptV).take k)).length ((nmsL ((x.map ptV).take k)).map encStr) ∧ (nmsL ((x.map ptV).take k)).length ≤ k ∧ Below w.heap.size w wr)) (fun _ i _ => N - (intOf i).toNat)
    case atStart => exact ⟨0, .slice none 0 0, by omega, rfl, rfl, World.ownsRow_nil _ _ _ _, Nat.le_refl _, B0.out⟩
    case round =>
      clear B0
      obtain ⟨k, nv, hk, rfl, rfl, hh⟩ := hrel
      have O := hide hh.out.1
      have hnl := hh.out.2.1
      have HB := hide hh.out.2.2
      clear hh
      by_cases hlt : k < N
      · have j1 : (k : Int) < (N : Int) := by omega
        have j0 : (0 : Int) ≤ (k : Int) := by omega
        obtain ⟨y, hy⟩ : ∃ y, x[k]? = some y := ⟨_, List.getElem?_eq_getElem (by rw [← HN.out]; exact hlt)⟩
        have hy' : (x.map ptV)[k]? = some (ptV y) := by rw [List.getElem?_map, hy]; rfl
        have HTK := hide (nms_take _ k _ hy')
        have hsl := may_s (HM.out _ (List.mem_of_getElem? hy'))
        obtain ⟨hbw, rfl⟩ := HA.out (by rw [← HN.out]; omega)
        obtain ⟨q0, q1, q2, q3, q4⟩ := HI.out k y hy
        have c0 := (HB.out.cell (p := ⟨b, off + k * 5, none⟩) hbw).trans q0
        have c1 := (HB.out.cell (p := ⟨b, off + k * 5 + 1, none⟩) hbw).trans q1
        have c2 := (HB.out.cell (p := ⟨b, off + k * 5 + 2, none⟩) hbw).trans q2
        have c3 := (HB.out.cell (p := ⟨b, off + k * 5 + 3, none⟩) hbw).trans q3
        have c4 := (HB.out.cell (p := ⟨b, off + k * 5 + 4, none⟩) hbw).trans q4
        have hss : (ptV y).s = y.s.data.toList := rfl
        rw [hss] at HTK hsl
        have hsz : y.s.size ≤ 24 := by rw [← text_len]; exact hsl
        have zr := HB.out.size
        have b1 := HB.out.alloc zr (.cells #[.int .i64 y.k, .int .i64 y.n, .int .i64 y.t, .string y.s, .string y.f] 39)
        have o1 := own_on O.out ((Below.refl wr.heap.size wr).alloc (Nat.le_refl _) (.cells #[.int .i64 y.k, .int .i64 y.n, .int .i64 y.t, .string y.s, .string y.f] 39))
        have B1 := hide b1
        have O1 := hide o1
        have m1 := fun W => sclone_any y.s (by omega) W
        have hem : y.s.toList.isEmpty = y.s.data.toList.isEmpty := by rw [ByteArray.toList_eq]
        clear q0 q1 q2 q3 q4 hy hy' hss hsl b1 o1 O HB
        cases hq : y.s.data.toList.isEmpty with
        | true =>
          rw [hq] at hem HTK
          rw [if_pos rfl] at HTK
          clear hq m1
          go_wp2
          go_roundw
          case rel => exact ⟨k + 1, nv, by omega, by go_num, rfl, by rw [HTK.out]; exact O1.out, by rw [HTK.out]; omega, B1.out⟩
          case measure => simp [intOf]; omega
        | false =>
          rw [hq] at hem HTK
          rw [if_neg (by decide)] at HTK
          clear hq
          go_wp2_with fail
          refine (m1 _).mono ?_
          rintro e w2 ⟨rfl, hb2⟩
          have B2 := hide (B1.out.trans (hb2.mono B1.out.size))
          have O2 := hide (own_on O1.out hb2)
          have z2 := B2.out.size
          clear m1 hb2 c0 c1 c2 c3 c4 O1 B1
          go_wp2_with (at_builtin; go_must (refine wpList_append_own _ (by rfl) _ _ 28 (by rfl) w.heap.size 9 i0 (.string ⟨#[]⟩) 1 16 Tryz.underlying28 hi hz0 hz1 hz2 rfl (by decide) nv _ _ (by rfl) (O2.out.alloc _) ⟨w2.heap.size, 0, none⟩ 1 1 [.string y.s] (by rfl) (by rfl) (one_str w2 y.s) (by intro u hu; simp at hu; subst hu; rfl) (by unfold maxLen; omega) (by omega) (by rw [World.size_alloc]; omega) ?_; intro nv3 w3 hown3 hgrow3 _))
          have B3 := hide ((B2.out.alloc z2 _).grown hgrow3 (by rw [World.size_alloc]; omega) (fun r hr => (O2.out.lt r hr).1))
          have O3 : Hid (w3.ownsRow w.heap.size 9 1 nv3 (nmsL ((x.map ptV).take (k + 1))).length ((nmsL ((x.map ptV).take (k + 1))).map encStr)) := by
            show World.ownsRow _ _ _ _ _ _ _
            rw [HTK.out, List.length_append, List.map_append]
            rw [show [y.s.data.toList].map encStr = [.string y.s] from by show [Value.string ⟨y.s.data.toList.toArray⟩] = _; rw [text_back]]
            exact hown3
          clear hown3 hgrow3 O2 B2
          go_wp2
          go_roundw
          case rel => exact ⟨k + 1, nv3, by omega, by go_num, rfl, O3.out, by rw [HTK.out, List.length_append]; simp; omega, B3.out⟩
          case measure => simp [intOf]; omega
      · obtain rfl : k = N := by omega
        have htk : (x.map ptV).take k = x.map ptV := List.take_of_length_le (by rw [List.length_map, ← HN.out]; exact Nat.le_refl _)
        have ho := O.out
        rw [htk] at ho hnl
        clear htk O
        have HSS : Hid (nmsS (x.map ptV) = Lib.compact ((nmsL (x.map ptV)).mergeSort fun a b => decide (a ≤ b))) := rfl
        obtain ⟨ss, hss⟩ : ∃ ss, ss = nmsL (x.map ptV) := ⟨_, rfl⟩
        rw [← hss] at ho hnl HSS
        clear hss
        by_cases hnil : nv = .slice none 0 0
        · subst hnil
          have hs0 : ss = [] := by
            rcases ho.2 with ⟨_, h⟩ | ⟨_, _, _, h, _⟩
            · exact List.eq_nil_of_length_eq_zero h
            · cases h
          subst hs0
          have HS0 : Hid (nmsS (x.map ptV) = []) := by show _ = _; rw [HSS.out, List.mergeSort_nil]; rfl
          have d1 := fun W => Tryz.slices_Sort_string_none none 0 W
          have d2 := fun W => Tryz.slices_Compact_string_empty none 0 W
          clear ho hnl HSS
          go_wp2_with fail
          refine (d1 _).mono ?_
          rintro e w2 ⟨rfl, hw2⟩
          subst hw2
          go_wp2_with fail
          refine (d2 _).mono ?_
          rintro e w3 ⟨rfl, hw3⟩
          subst hw3
          clear d1 d2
          go_wp2
          go_ret2
          refine ⟨.inr ⟨HC0.out, .slice none 0 0, rfl, ?_⟩, HB.out⟩
          rw [HS0.out]
          exact World.ownsRow_nil _ _ _ _
        · obtain ⟨g, cap2, rfl, hbg, hgl, hncap, hcm, _, hH⟩ := Lib.holds_of_ownsRow ho hnil
          have d1 := Tryz.slices_Sort_string g 0 cap2 ss wr hH hgl (by omega)
          obtain ⟨ts, hts⟩ : ∃ ts, ts = ss.mergeSort fun a b => decide (a ≤ b) := ⟨_, rfl⟩
          have hl2 : ts.length = ss.length := by rw [hts]; exact List.length_mergeSort ss
          rw [← hts] at d1 HSS
          have HX := hide (And.intro ho (And.intro hbg (And.intro hgl (And.intro hncap hH))))
          obtain ⟨n, hn⟩ : ∃ n, n = ss.length := ⟨_, rfl⟩
          have HNN := hide hn
          rw [← hn] at d1 hl2 hnl hncap ⊢
          have HL2 := hide hl2
          clear ho hH hnil hts hn hl2 hbg hgl hcm
          go_wp2_with fail
          refine d1.mono ?_
          rintro e w2 ⟨rfl, nn, os, rfl⟩
          have hH2 : Holds encStr (grow (putRow encStr (Sort.ahead wr nn) g 0 ts.toArray) os) g 0 ts.toArray :=
            holds_grow encStr _ os g 0 _ (by simpa [putRow, mapBlock, Sort.ahead] using HX.out.2.2.1) (holds_putRow encStr _ g 0 _ _ (holds_ahead encStr wr nn g 0 _ HX.out.2.2.2.2) (by simp [HL2.out, HNN.out]))
          have d2 := Tryz.slices_Compact_string g 0 cap2 ts _ hH2 (by rw [HL2.out]; omega) (by rw [HL2.out]; exact hncap)
          rw [HL2.out] at d2
          clear d1 hH2
          obtain ⟨W2, hW2⟩ : ∃ W2, W2 = grow (putRow encStr (Sort.ahead wr nn) g 0 ts.toArray) os := ⟨_, rfl⟩
          rw [← hW2] at d2 ⊢
          have HW2 := hide hW2
          clear hW2
          go_wp2_with fail
          refine d2.mono ?_
          rintro e w3 ⟨rfl, q, hw3⟩
          have HW3 := hide hw3
          clear d2 hw3
          go_wp2
          go_ret2
          have hle2 := Lib.compact_length_le ts
          rcases HX.out.1.2 with ⟨hx0, _⟩ | ⟨g', cap', cur, hv, hbase, hb, h1, h2, h3, h4⟩
          · cases hx0
          cases hv
          have hs := ownsRow_sorted (n := nn) (os := os) (ts := ts) (ss := ss) (by rw [HL2.out, HNN.out]) hbase hb h1 h2 h3
          have hc := Lib.ownsRow_putRow (q := q) (k := (Lib.compact ts).length) (ys := Lib.compact ts ++ List.replicate (n - (Lib.compact ts).length) []) hs (by rw [List.length_append, List.length_replicate, ← HNN.out]; have := HL2.out; omega) (by have := HL2.out; have := HNN.out; omega)
          rw [List.take_left] at hc
          refine ⟨.inr ⟨HC0.out, _, rfl, ?_⟩, ?_⟩
          · rw [HSS.out, HW3.out, HW2.out]
            exact hc
          · rw [HW3.out, HW2.out]
            exact Lib.below_putRow (HB.out.grown (grownBy_sorted _) HB.out.size (fun j hj => by cases hj; exact hbase)) hbase
  · have HE : Hid (checkP (x.map ptV) ≠ 0) := by show ¬ _; rw [← hC]; exact h0
    have HC := hide hC
    have h0' : (C == 0) = false := by rw [beq_eq_false_iff_ne]; exact h0
    clear hA hI hC hlen hg h0
    generalize x.length = N at *
    go_enter Tryz.func7, Tryz.ntmps7
    go_wp2_with fail
    refine c0.mono ?_
    rintro e w0 ⟨rfl, hb0⟩
    have B0 := hide hb0
    clear c0 hb0
    go_wp2
    go_ret2
    exact ⟨.inl ⟨HE.out, by rw [← HC.out]; rfl⟩, B0.out⟩
end Go.Proofs.YtkicbmjjbnblfaaGreatDoor
