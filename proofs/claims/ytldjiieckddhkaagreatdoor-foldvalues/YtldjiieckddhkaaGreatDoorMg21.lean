/- ChW | MbW | TqW -/
import Derived.RangeFuncNested
import Derived.RangeFuncBound
import Derived.RangeFuncCalls
import Derived.RangeFuncLeaves
import Derived.Shelf.Abstract
import Derived.Shelf.RegionOpen
import Derived.WalkKit
import Derived.OwnWalkIn
import Derived.TacticsInMore
import Derived.LoopNIn
import Derived.LoopIn
import Derived.Test.YtldjiieckddhkaaGreatDoorKpW
namespace Go.Proofs.YtldjiieckddhkaaGreatDoor
open Go.RowKit Go.Shelf
attribute [local go_sem] Oper.semAt_some
abbrev Ck (len : Nat) := { j : Nat // 64 * j < len }
def ckV (b off len j : Nat) : Value := .slice (some ⟨b, off + 64 * j * 5, none⟩) (min 64 (len - 64 * j)) (min 64 (len - 64 * j))
def upTo (len : Nat) : Nat → List (Ck len)
  | 0 => []
  | k + 1 => if h : 64 * k < len then upTo len k ++ [⟨k, h⟩] else upTo len k
theorem upTo_succ {len k : Nat} (h : 64 * k < len) : upTo len (k + 1) = upTo len k ++ [⟨k, h⟩] := by rw [upTo, dif_pos h]
theorem upTo_length {len : Nat} : ∀ {k : Nat}, 64 * k ≤ len + 63 → (upTo len k).length = k
  | 0, _ => rfl
  | k + 1, h => by rw [upTo_succ (by omega), List.length_append, upTo_length (by omega)]; rfl
set_option maxRecDepth 100000 in
set_option maxHeartbeats 3200000 in
theorem chunk1 (l Bs Bn n₀ b off len cap : Nat) (hreach : len ≤ 4398046510976) (hcap : len ≤ cap) (hBs : Bs < n₀) (hBn : Bn < n₀) (J Jx : List (Ck len) → World → Prop) (n : Nat) (hn : 1 ≤ n) (hJd : ∀ pre W, J pre W → J pre W.drew)
    (hY : ∀ pre x W, J pre W → pre.length < len → YieldAt Fence.wide (n - 1) Tryz.prog l #[ckV b off len x.1] W fun e W' =>
      (e = .returned (.bool true) ∧ J (pre ++ [x]) W' ∧ Below n₀ W W') ∨ (e = .returned (.bool false) ∧ Jx (pre ++ [x]) W'))
    (W : World) (hcs : W.cell? ⟨Bs, 0, none⟩ = some (.slice (some ⟨b, off, none⟩) len cap)) (hcn : W.cell? ⟨Bn, 0, none⟩ = some (.int .i64 64)) (h0 : J [] W) :
    CallsIn Fence.wide n Tryz.prog 135 #[.func (.yield l) #[] #[], .pointer (some ⟨Bs, 0, none⟩), .pointer (some ⟨Bn, 0, none⟩)] W fun e W' => (∃ v, e = .returned v) ∧
      ((∃ ys, (∃ k, 64 * k ≤ len + 63 ∧ len ≤ 64 * k ∧ ys = upTo len k) ∧ J ys W') ∨ (∃ pre, (∃ k, 64 * k ≤ len + 63 ∧ pre = upTo len k) ∧ Jx pre W')) := by
  refine callsIn_of_wp Tryz.func135 rfl trivial ?_ rfl
  simp only [Tryz.ntmps135, List.size_toArray, List.length_cons, List.length_nil, Nat.reduceAdd, Nat.reduceSub, Array.replicate_succ, Array.replicate_zero, List.push_toArray, List.append_toArray, List.nil_append, List.cons_append]
  gi_wp2
  gi_loopw [4] (fun i wr => ∃ k : Nat, 64 * k ≤ len + 63 ∧ i = .int .i64 ((64 * k : Nat) : Int) ∧ J (upTo len k) wr ∧ Below n₀ W wr) (fun i _ => len + 64 - (intOf i).toNat)
  case atStart => exact ⟨0, by omega, rfl, h0, Below.refl _ _⟩
  case round =>
    obtain ⟨k, hk, rfl, hJs, hnx⟩ := hrel
    have c1 := (hnx.cell (p := ⟨Bs, 0, none⟩) hBs).trans hcs
    have c2 := (hnx.cell (p := ⟨Bn, 0, none⟩) hBn).trans hcn
    have HNX := hide hnx
    by_cases hlt : 64 * k < len
    · obtain ⟨M, hM⟩ : ∃ M, M = min 64 (len - 64 * k) := ⟨_, rfl⟩
      have HY : Hid (∀ W', J (upTo len k) W' → YieldAt Fence.wide (n - 1) Tryz.prog l #[.slice (some ⟨b, off + 64 * k * 5, none⟩) M M] W' fun e W'' => (e = .returned (.bool true) ∧ J (upTo len (k + 1)) W'' ∧ Below n₀ W' W'') ∨ (e = .returned (.bool false) ∧ Jx (upTo len (k + 1)) W'')) := fun W' hJ' => by
        have h := hY _ ⟨k, hlt⟩ W' hJ' (by rw [upTo_length hk]; omega)
        unfold ckV at h
        dsimp only at h
        rw [← hM] at h
        simp only [← upTo_succ hlt] at h
        exact h
      have HLT := hide hlt
      have HJ := hide hJs
      clear hJs
      have m1 : (min (64 : Int) ((len : Int) - ((64 * k : Nat) : Int))) = (M : Int) := by rw [hM]; omega
      have m2 : M ≤ 64 := by omega
      have m3 : 64 * k + M ≤ len := by omega
      have m4 : 1 ≤ M := by omega
      clear hM hlt
      generalize hK : 64 * k = K at *
      have HK := hide hK
      have i1 : (K : Int) < (len : Int) := by have := HLT.out; omega
      clear hK
      have i2 : (len : Int) ≤ 4398046510976 := by omega
      have i3 : (len : Int) ≤ (cap : Int) := by omega
      have i0 : (0 : Int) ≤ (K : Int) := by omega
      have i5 : (K : Int) ≤ (cap : Int) := by omega
      have hne : ¬ cap = K := by omega
      have hs1 : ∀ W', (Instr.slice 22 (.slice (some ⟨b, off, none⟩) len cap) (some (.int .i64 (K : Int))) none none).run Tryz.prog W' = .ok (.slice (some ⟨b, off + K * 5, none⟩) (len - K) (cap - K)) W' := fun W' => by
        have : (K : Int) ≤ (len : Int) := by omega
        simp [go_sem, *]
      have hm1 : ∀ (ts : Array TypeId) (t : TypeId) (W' : World), (Builtin.min_ ts t #[.int .i64 64, .int .i64 ((len - K : Nat) : Int)]).run Tryz.prog W' = .ok (.int .i64 (M : Int)) W' := fun ts t W' => by
        rw [run_min_int2, show (if ((len - K : Nat) : Int) < 64 then ((len - K : Nat) : Int) else 64) = (M : Int) from by rw [← m1]; split <;> omega]
      have hmx : Tryz.prog.follows .mixedOrders = true := by kernel_rfl
      have k5 : (M : Int) ≤ 64 := by omega
      have k6 : (1 : Int) ≤ (M : Int) := by omega
      have k7 : (K : Int) + (M : Int) ≤ (len : Int) := by omega
      have k8 : (K : Int) + (M : Int) ≤ (cap : Int) := by omega
      have hs2 : ∀ W', (Instr.slice 22 (.slice (some ⟨b, off, none⟩) len cap) (some (.int .i64 (K : Int))) (some (.int .i64 ((K : Int) + (M : Int)))) (some (.int .i64 ((K : Int) + (M : Int))))).run Tryz.prog W' = .ok (.slice (some ⟨b, off + K * 5, none⟩) M M) W' := fun W' => by
        have : ((K : Int) + (M : Int)).toNat = K + M := by omega
        have : ¬ (K : Int) + (M : Int) < 0 := by omega
        have : ¬ M = 0 := by omega
        have : (0 : Int) ≤ (K : Int) + (M : Int) := by omega
        simp [go_sem, *]
      clear m1
      gi_wp2
      gi_region_with_o (fail)
      all_goals
        obtain ⟨fn, tmps, assign, body, hy, hR⟩ := HY.out wr.drew (hJd _ _ HJ.out)
        gi_wp2
        refine hR.mono ?_
        rintro e W3 (⟨rfl, hJ3, hk3⟩ | ⟨rfl, hJx3⟩)
        · have HN3 := hide ((HNX.out.drew).trans hk3)
          have c3 : W3.cell? ⟨Bn, 0, none⟩ = some (.int .i64 64) := (HN3.out.cell (p := ⟨Bn, 0, none⟩) hBn).trans hcn
          have HJ3 := hide hJ3
          clear hR hy hJ3 hk3 c1 c2
          gi_wp2
          go_roundw
          case rel => exact ⟨k + 1, by have := HK.out; omega, by have := HK.out; rw [show 64 * (k + 1) = K + 64 by omega]; go_num, HJ3.out, HN3.out⟩
          case measure => simp [intOf]; omega
        · gi_wp2
          refine bodyPost_ret (results_none rfl _ _ _) rfl ?_
          exact ⟨⟨_, rfl⟩, .inr ⟨_, ⟨k + 1, by have := HK.out; omega, rfl⟩, hJx3⟩⟩
    · have j1 : ¬ ((64 * k : Nat) : Int) < (len : Int) := by omega
      have HJ := hide hJs
      have HL := hide hlt
      have HKK := hide hk
      clear hJs hlt hk
      generalize ((64 * k : Nat) : Int) = K at *
      gi_wp2
      go_end0
      exact ⟨⟨_, rfl⟩, .inl ⟨_, ⟨k, HKK.out, by have := HL.out; omega, rfl⟩, HJ.out⟩⟩
end Go.Proofs.YtldjiieckddhkaaGreatDoor
namespace Go.Proofs.YtldjiieckddhkaaGreatDoor
open Go.RowKit Go.Shelf
theorem chunk_any (v : Value) (hv : ∃ a n cp, v = .slice a n cp) (w : World) : Calls Tryz.prog 100 #[v, .int .i64 64] w fun e w' => e = .returned (.func (.func 135) #[] #[.pointer (some ⟨w.heap.size, 0, none⟩), .pointer (some ⟨w.heap.size + 1, 0, none⟩)]) ∧ w' = (w.alloc (.cells #[v] 22)).alloc (.cells #[.int .i64 64] 3) := by
  obtain ⟨a, n, cp, rfl⟩ := hv
  go_enter Tryz.func100, Tryz.ntmps100
  go_wp2
  go_ret
  exact ⟨rfl, rfl⟩
attribute [local go_sem] Oper.semAt_some
set_option maxRecDepth 100000 in
set_option maxHeartbeats 1600000 in
theorem chunk1_nil (l Bs Bn cap : Nat) (a : Option Addr) (J : List (Ck 0) → World → Prop) (n : Nat) (W : World) (hcs : W.cell? ⟨Bs, 0, none⟩ = some (.slice a 0 cap)) (h0 : J [] W) :
    CallsIn Fence.wide n Tryz.prog 135 #[.func (.yield l) #[] #[], .pointer (some ⟨Bs, 0, none⟩), .pointer (some ⟨Bn, 0, none⟩)] W fun e W' => (∃ v, e = .returned v) ∧ J [] W' := by
  refine callsIn_of_wp Tryz.func135 rfl trivial ?_ rfl
  simp only [Tryz.ntmps135, List.size_toArray, List.length_cons, List.length_nil, Nat.reduceAdd, Nat.reduceSub, Array.replicate_succ, Array.replicate_zero, List.push_toArray, List.append_toArray, List.nil_append, List.cons_append]
  gi_wp2
  gi_loopw [4] (fun i wr => i = .int .i64 0 ∧ wr = W) (fun _ _ => 0)
  case atStart => exact ⟨rfl, rfl⟩
  case round =>
    obtain ⟨rfl, rfl⟩ := hrel
    gi_wp2
    go_end0
    exact ⟨⟨_, rfl⟩, h0⟩
theorem chunk_stops (n : Nat) (hn : 1 ≤ n) (Bs Bn n₀ b off len cap : Nat) (a : Option Addr) (ha : 0 < len → a = some ⟨b, off, none⟩) (hreach : len ≤ 4398046510976) (hcap : len ≤ cap) (w : World) (hBs : Bs < n₀) (hBn : Bn < n₀) (hn₀ : n₀ ≤ w.heap.size)
    (hcs : w.cell? ⟨Bs, 0, none⟩ = some (.slice a len cap)) (hcn : w.cell? ⟨Bn, 0, none⟩ = some (.int .i64 64)) :
    SeqStopsK Fence.wide n Tryz.prog 135 #[.pointer (some ⟨Bs, 0, none⟩), .pointer (some ⟨Bn, 0, none⟩)] (fun x : Ck len => #[ckV b off len x.1]) (Below n₀) (fun ys => ∃ k, 64 * k ≤ len + 63 ∧ len ≤ 64 * k ∧ ys = upTo len k) (fun pre => ∃ k, 64 * k ≤ len + 63 ∧ pre = upTo len k) len w := fun l J Jx W hW hJa _ hY h0 => by
  have c1 := (hW.cell (p := ⟨Bs, 0, none⟩) (Nat.lt_of_lt_of_le hBs hn₀)).trans hcs
  have c2 := (hW.cell (p := ⟨Bn, 0, none⟩) (Nat.lt_of_lt_of_le hBn hn₀)).trans hcn
  rcases Nat.eq_zero_or_pos len with h | h
  · subst h
    exact (chunk1_nil l Bs Bn cap a J n W c1 h0).mono fun e W' ⟨he, hj⟩ => ⟨he, .inl ⟨_, ⟨0, by omega, by omega, rfl⟩, hj⟩⟩
  · obtain rfl := ha h
    exact chunk1 l Bs Bn n₀ b off len cap hreach hcap hBs hBn J Jx n hn (fun pre W' hj => hJa pre W' W'.drew none hj ⟨rfl, rfl, rfl, Nat.le_refl _, fun _ _ _ => rfl⟩ (fun r e => by cases e)) hY W c1 c2 h0
def ckL (l : List Vv) (j : Nat) : List Vv := (l.drop (64 * j)).take 64
theorem ckL_length (l : List Vv) (j : Nat) : (ckL l j).length = min 64 (l.length - 64 * j) := by unfold ckL; rw [List.length_take, List.length_drop]
theorem ck_lst {w : World} {b off : Nat} {l : List Vv} (hb : b < w.heap.size) (h : VvAt w b off l) (j : Nat) : VLst w (ckV b off l.length j) (ckL l j) := by
  refine ⟨_, b, off + 64 * j * 5, _, by rw [ckL_length]; rfl, fun _ => ⟨hb, rfl⟩, fun i x hx => ?_⟩
  unfold ckL at hx
  rw [List.getElem?_take] at hx
  split at hx
  · rw [List.getElem?_drop] at hx
    have := h (64 * j + i) x hx
    rw [show off + (64 * j + i) * 5 = off + 64 * j * 5 + i * 5 by omega] at this
    exact this
  · cases hx
theorem all_chunks (l : List Vv) : ∀ k, (∀ x ∈ upTo l.length k, (ckL l x.1).map vrV |>.all varB) → ((l.take (64 * k)).map vrV).all varB = true
  | 0, _ => by simp
  | k + 1, h => by
    by_cases hk : 64 * k < l.length
    · rw [upTo_succ hk] at h
      have h1 := all_chunks l k (fun x hx => h x (List.mem_append_left _ hx))
      have h2 := h ⟨k, hk⟩ (by simp)
      have e : l.take (64 * (k + 1)) = l.take (64 * k) ++ ckL l k := by
        unfold ckL
        rw [show 64 * (k + 1) = 64 * k + 64 by omega, List.take_add]
      rw [e, List.map_append, List.all_append, h1, h2]; rfl
    · have e : upTo l.length (k + 1) = upTo l.length k := by rw [upTo, dif_neg hk]
      rw [e] at h
      have h1 := all_chunks l k h
      rw [List.take_of_length_le (by omega)] at h1 ⊢
      exact h1
theorem all_ck {l : List Vv} (h : (l.map vrV).all varB = true) (j : Nat) : ((ckL l j).map vrV).all varB = true := by
  rw [List.all_eq_true] at h ⊢
  intro p hp
  obtain ⟨x, hx, rfl⟩ := List.mem_map.1 hp
  exact h _ (List.mem_map.2 ⟨x, List.mem_of_mem_drop (List.mem_of_mem_take hx), rfl⟩)
set_option maxRecDepth 100000 in
set_option maxHeartbeats 6400000 in
theorem mayBe9_any (v : Value) (l : List Vv) (w : World) (hL : VLst w v l) (hlen : l.length ≤ 4398046510976) (hcp : ∀ a n cp, v = .slice a n cp → n ≤ cp) (hg : Glo w) : Calls Tryz.prog 56 #[v] w fun e w' => e = .returned (.int .i64 (mayV (l.map vrV))) ∧ Below w.heap.size w w' := by
  refine (callsIn_wide (n := 4)).1 ?_
  have hL0 := hL
  obtain ⟨a, b, off, cap, rfl, hA, hI⟩ := hL
  have hcap := hcp _ _ _ rfl
  refine callsIn_of_wp_marks Tryz.func56 rfl trivial ?_ rfl
  simp only [Tryz.ntmps56, List.size_toArray, List.length_cons, List.length_nil, Nat.reduceAdd, Nat.reduceSub, Array.replicate_succ, Array.replicate_zero, List.push_toArray, List.append_toArray, List.nil_append, List.cons_append]
  gi_wp2_with (refine ⟨trivial, ?_⟩; gi_at_call 100; refine (callsIn_wide.2 (chunk_any _ ⟨_, _, _, rfl⟩ _)).mono ?_; rintro e w' ⟨rfl, rfl⟩)
  obtain ⟨len, hlen2⟩ : ∃ len, len = l.length := ⟨_, rfl⟩
  obtain ⟨W0, hW0⟩ : ∃ W0, W0 = ((w.alloc (.cells #[.int .i64 0] 25)).alloc (.cells #[.slice a l.length cap] 22)).alloc (.cells #[.int .i64 64] 3) := ⟨_, rfl⟩
  have hz : W0.heap.size = w.heap.size + 3 := by rw [hW0]; simp
  have hB0 : Below w.heap.size w W0 := by rw [hW0]; exact (((Below.refl _ w).alloc (Nat.le_refl _) _).alloc (by simp) _).alloc (by simp; omega) _
  have e0 : W0.heap[w.heap.size]? = some (.cells #[.int .i64 0] 25) := by rw [hW0, Lib.alloc_old _ _ _ (by simp; omega), Lib.alloc_old _ _ _ (by simp)]; exact heap_alloc_new w _
  have e1 : W0.heap[w.heap.size + 1]? = some (.cells #[.slice a l.length cap] 22) := by
    rw [hW0, Lib.alloc_old _ _ _ (by simp)]
    have := heap_alloc_new (w.alloc (.cells #[.int .i64 0] 25)) (.cells #[.slice a l.length cap] 22)
    rwa [World.size_alloc] at this
  have e2 : W0.heap[w.heap.size + 2]? = some (.cells #[.int .i64 64] 3) := by
    rw [hW0]
    have := heap_alloc_new ((w.alloc (.cells #[.int .i64 0] 25)).alloc (.cells #[.slice a l.length cap] 22)) (.cells #[.int .i64 64] 3)
    rwa [World.size_alloc, World.size_alloc] at this
  have c0 : W0.cell? ⟨w.heap.size, 0, none⟩ = some (.int .i64 0) := by rw [Lib.cell_of_heap e0]; rfl
  have c1 : W0.cell? ⟨w.heap.size + 1, 0, none⟩ = some (.slice a l.length cap) := by rw [Lib.cell_of_heap e1]; rfl
  have c2 : W0.cell? ⟨w.heap.size + 2, 0, none⟩ = some (.int .i64 64) := by rw [Lib.cell_of_heap e2]; rfl
  have f0 : W0.frozen? ⟨w.heap.size, 0, none⟩ = false := Lib.frozen_of_heap e0 0
  rw [← hW0]
  refine wpIn_rangeFunc_ownF rfl (by omega) (gf := 135) (lb := #[.pointer (some ⟨w.heap.size + 1, 0, none⟩), .pointer (some ⟨w.heap.size + 1 + 1, 0, none⟩)]) rfl trivial (enters_of Tryz.func135 (by kernel_rfl) rfl)
    (chunk_stops 3 (by omega) (w.heap.size + 1) (w.heap.size + 1 + 1) (w.heap.size + 3) b off l.length cap a (fun h => (hA h).2) hlen hcap W0 (by omega) (by omega) (by omega) c1 c2) belowK_t (belowK_b (by omega)) (Below.refl _ _) (fun _ => rfl)
    (fun pre W => ((W.cell? ⟨w.heap.size, 0, none⟩ = some (.int .i64 0) ∧ W.frozen? ⟨w.heap.size, 0, none⟩ = false) ∧ W.cell? ⟨w.heap.size + 2, 0, none⟩ = some (.int .i64 64)) ∧ (∀ x ∈ pre, ((ckL l x.1).map vrV).all varB = true) ∧ Below w.heap.size w W)
    (fun c pre W => (c = .ret ∧ W.cell? ⟨w.heap.size, 0, none⟩ = some (.int .i64 80)) ∧ (∃ x ∈ pre, ((ckL l x.1).map vrV).all varB = false) ∧ Below w.heap.size w W)
    (OwnFrom.and (Own.from (fun s A B row hs hg hr => ⟨⟨cell_kept hs.1.1 hg hr, (frozen_kept hs.1.1 hg hr).trans hs.1.2⟩, cell_kept hs.2 hg hr⟩) _) (OwnFrom.and (ownFrom_pure _ _) (ownFrom_below (Nat.le_refl _) (by omega))))
    (fun c => OwnFrom.and (Own.from (fun s A B row hs hg hr => ⟨hs.1, cell_kept hs.2 hg hr⟩) _) (OwnFrom.and (ownFrom_pure _ _) (ownFrom_below (Nat.le_refl _) (by omega))))
    ⟨⟨⟨c0, f0⟩, c2⟩, fun x h => by simp at h, hB0⟩
    (fun x => { tmps := #[.slice a l.length cap, undef, .pointer (some ⟨w.heap.size, 0, none⟩), ckV b off l.length x.1, undef, .slice a l.length cap, .func (.func 135) #[] #[.pointer (some ⟨w.heap.size + 1, 0, none⟩), .pointer (some ⟨w.heap.size + 1 + 1, 0, none⟩)], ckV b off l.length x.1, undef, undef, undef, undef, undef, undef, undef, undef, undef], defers := [] }) ?assign ?body ?done ?stop
  case assign =>
    intro l x W K hK
    gi_wp2
    exact hK
  case body =>
    rintro lr pre x W ⟨⟨⟨hc, hf⟩, h64⟩, hp, hB⟩ _
    have hlt : w.heap.size + 2 < W.heap.size := World.block_lt_of_cell? W _ h64
    have hlen3 : 64 * x.1 < l.length := x.2
    obtain ⟨hbw, rfl⟩ := hA (by omega)
    have hVL : VLst W (ckV b off l.length x.1) (ckL l x.1) := by
      refine ck_lst (Nat.lt_of_lt_of_le hbw hB.size) (fun i y hy => ?_) x.1
      obtain ⟨h1, h2, h3, h4, h5⟩ := hI i y hy
      exact ⟨(hB.cell (p := ⟨b, _, none⟩) hbw).trans h1, (hB.cell (p := ⟨b, _, none⟩) hbw).trans h2, (hB.cell (p := ⟨b, _, none⟩) hbw).trans h3, (hB.cell (p := ⟨b, _, none⟩) hbw).trans h4, (hB.cell (p := ⟨b, _, none⟩) hbw).trans h5⟩
    have c := declCheck_any _ _ W hVL (by rw [ckL_length]; omega) (hg.below hB hg.lt)
    rw [show decide ((ckL l x.1).length ≤ 64) = true from decide_eq_true (by rw [ckL_length]; omega), Bool.true_and] at c
    have HP := hide hp
    have HB := hide hB
    have HX : Hid (∀ q, q = ((ckL l x.1).map vrV).all varB → q = ((ckL l x.1).map vrV).all varB) := fun q h => h
    clear hp hB hVL
    unfold ckV at c ⊢
    cases hall : ((ckL l x.1).map vrV).all varB with
    | true =>
      rw [hall] at c
      gi_wp2_with (refine ⟨trivial, ?_⟩; gi_at_call 101; refine (CallsIn.inRound lr (callsIn_wide.2 c)).mono ?_; rintro e W1 ⟨rfl, hb⟩)
      refine ⟨⟨hb.size, fun k o hk _ => (hb.block k (Array.getElem?_eq_some_iff.1 hk).1).trans hk⟩, hb.mono (by omega), ⟨⟨(hb.cell (p := ⟨w.heap.size, 0, none⟩) (by show w.heap.size < _; omega)).trans hc, (hb.frozen (p := ⟨w.heap.size, 0, none⟩) (by show w.heap.size < _; omega)).trans hf⟩, (hb.cell (p := ⟨w.heap.size + 2, 0, none⟩) hlt).trans h64⟩, fun y hy => ?_, HB.out.trans (hb.mono HB.out.size)⟩
      rcases List.mem_append.1 hy with h | h
      · exact HP.out y h
      · rw [List.mem_singleton.1 h]; exact hall
    | false =>
      rw [hall] at c
      gi_wp2_with (refine ⟨trivial, ?_⟩; gi_at_call 101; refine (CallsIn.inRound lr (callsIn_wide.2 c)).mono ?_; rintro e W1 ⟨rfl, hb⟩; have hc1 : W1.cell? ⟨w.heap.size, 0, none⟩ = some (.int .i64 0) := (hb.cell (p := ⟨w.heap.size, 0, none⟩) (Nat.lt_of_succ_lt (Nat.lt_of_succ_lt hlt))).trans hc; have hf1 : W1.frozen? ⟨w.heap.size, 0, none⟩ = false := (hb.frozen (p := ⟨w.heap.size, 0, none⟩) (Nat.lt_of_succ_lt (Nat.lt_of_succ_lt hlt))).trans hf)
      refine ⟨KeepsOthers.trans ⟨hb.size, fun k o hk _ => (hb.block k (Array.getElem?_eq_some_iff.1 hk).1).trans hk⟩ (KeepsOthers.setCell _ _ _), ⟨rfl, World.cell?_setCell_same' _ _ _ (by rw [hc1]; rfl)⟩, ⟨x, by simp, hall⟩, (HB.out.trans (hb.mono HB.out.size)).setCell (p := ⟨w.heap.size, 0, none⟩) (Nat.le_refl _) _⟩
  case done =>
    rintro D ys W hD ⟨k, hk1, hk2, rfl⟩ ⟨⟨⟨hc, hf⟩, h64⟩, hp, hB⟩ hK
    have hall := all_chunks l k hp
    rw [List.take_of_length_le hk2] at hall
    have HB := hide hB
    have HALL := hide hall
    clear hp hB hall
    by_cases h6 : 64 < l.length
    · have i6 : (64 : Int) < (l.length : Int) := by omega
      have i7 : (l.length : Int) ≤ 4398046510976 := by omega
      have HM : Hid (mayV (l.map vrV) = 2) := by show _ = _; unfold mayV; rw [HALL.out, if_neg (by decide), if_pos (by rw [List.length_map]; exact h6)]
      gi_wp2
      have hK' := (KeepsOthers.setCell W ⟨w.heap.size, 0, none⟩ (.int .i64 2)).same D _ hK rfl
      refine ⟨by simp, .inl ⟨_, _, rfl, run_takeDeferred hK', ?_⟩⟩
      have hc5 := cell_kept (World.cell?_setCell_same' W ⟨w.heap.size, 0, none⟩ (.int .i64 2) (by rw [hc]; rfl)) (grownBy_putObj' _ D (.deferred none)) (fun r e => by cases e; exact ⟨_, hK', rfl⟩)
      refine ⟨.int .i64 2, ?_, by rw [HM.out], (HB.out.setCell (p := ⟨w.heap.size, 0, none⟩) (Nat.le_refl _) _).trans (belowK_b (w := w) (Nat.le_refl _) _ D _ _ (by omega) hK' rfl rfl)⟩
      simp [results, Tryz.f56, go_sem, hc5]
    · have i6 : ¬ (64 : Int) < (l.length : Int) := by omega
      have HM : Hid (mayV (l.map vrV) = 0) := by show _ = _; unfold mayV; rw [HALL.out, if_neg (by decide), if_neg (by rw [List.length_map]; exact h6)]
      gi_wp2
      have hK' := (KeepsOthers.setCell W ⟨w.heap.size, 0, none⟩ (.int .i64 0)).same D _ hK rfl
      refine ⟨by simp, .inl ⟨_, _, rfl, run_takeDeferred hK', ?_⟩⟩
      have hc5 := cell_kept (World.cell?_setCell_same' W ⟨w.heap.size, 0, none⟩ (.int .i64 0) (by rw [hc]; rfl)) (grownBy_putObj' _ D (.deferred none)) (fun r e => by cases e; exact ⟨_, hK', rfl⟩)
      refine ⟨.int .i64 0, ?_, by rw [HM.out], (HB.out.setCell (p := ⟨w.heap.size, 0, none⟩) (Nat.le_refl _) _).trans (belowK_b (w := w) (Nat.le_refl _) _ D _ _ (by omega) hK' rfl rfl)⟩
      simp [results, Tryz.f56, go_sem, hc5]
  case stop =>
    rintro D c pre W hD _ ⟨⟨rfl, hc⟩, ⟨x, hx, hno⟩, hB⟩ hK
    have HM : Hid (mayV (l.map vrV) = 80) := by
      show _ = _
      unfold mayV
      rw [if_pos]
      cases h : (l.map vrV).all varB with
      | false => rfl
      | true => rw [all_ck h x.1] at hno; exact absurd hno (by decide)
    gi_wp2
    refine ⟨by simp, .inl ⟨_, _, rfl, run_takeDeferred hK, ?_⟩⟩
    have hc5 := cell_kept hc (grownBy_putObj' _ D (.deferred none)) (fun r e => by cases e; exact ⟨_, hK, rfl⟩)
    refine ⟨.int .i64 80, ?_, by rw [HM.out], hB.trans (belowK_b (w := w) (Nat.le_refl _) W D _ _ (by omega) hK rfl rfl)⟩
    simp [results, Tryz.f56, go_sem, hc5]
end Go.Proofs.YtldjiieckddhkaaGreatDoor
namespace Go.Proofs.YtldjiieckddhkaaGreatDoor
open Go.RowKit
def CapOk (v : Value) : Prop := ∀ a n cp, v = .slice a n cp → n ≤ cp
theorem may_vOk {vs : List Vr} (h : mayV vs = 0) : vOk vs := fun v hv => by
  unfold mayV at h
  split at h
  · exact absurd h (by decide)
  · rename_i hn
    cases e : vs.all varB with
    | false => exact absurd e hn
    | true => exact List.all_eq_true.1 e v hv
set_option maxRecDepth 100000 in
set_option maxHeartbeats 1600000 in
theorem askedT_any (v xv : Value) (l : List Vv) (x : List Pv) (w : World) (hL : VLst w v l) (hlen : l.length ≤ 4398046510976) (hcp : CapOk v) (hX : PLst w xv x) (hxl : x.length ≤ 4398046510976) (hg : Glo w) :
    Calls Tryz.prog 31 #[v, xv] w fun e w' => (∃ k e', e = .returned (.tuple #[.agg #[.int .i64 k.typ, .int .i64 k.lo, .int .i64 k.hi], .int .i64 e']) ∧ KOut (askP (l.map vrV) (x.map ptV)) k e') ∧ Below w.heap.size w w' := by
  have HAP : Hid (askP (l.map vrV) (x.map ptV) = if mayV (l.map vrV) ≠ 0 then .error (mayV (l.map vrV)) else if checkP (x.map ptV) ≠ 0 then .error (checkP (x.map ptV)) else kindP (l.map vrV) (x.map ptV)) := rfl
  generalize askP (l.map vrV) (x.map ptV) = R at *
  obtain ⟨W0, hW0⟩ : ∃ W0, W0 = w.alloc (.cells #[.int .i64 0, .int .i64 0, .int .i64 0] 52) := ⟨_, rfl⟩
  have B0 : Below w.heap.size w W0 := by rw [hW0]; exact (Below.refl w.heap.size w).alloc (Nat.le_refl _) _
  have hz : W0.heap.size = w.heap.size + 1 := by rw [hW0]; simp
  have hb0 : W0.heap[w.heap.size]? = some (.cells #[.int .i64 0, .int .i64 0, .int .i64 0] 52) := by rw [hW0]; exact heap_alloc_new w _
  have cm := mayBe9_any v l W0 (hL.below B0 (Nat.le_refl _)) hlen hcp (hg.below B0 hg.lt)
  have G : Hid (∀ W, Below (w.heap.size + 1) W0 W → Below w.heap.size w W ∧ VLst W v l ∧ PLst W xv x ∧ Glo W ∧ W.cell? ⟨w.heap.size, 0, none⟩ = some (.int .i64 0) ∧ W.cell? ⟨w.heap.size, 1, none⟩ = some (.int .i64 0) ∧ W.cell? ⟨w.heap.size, 2, none⟩ = some (.int .i64 0) ∧ (∀ j, W.frozen? ⟨w.heap.size, j, none⟩ = false)) := fun W hW =>
    have hb := B0.trans (hW.mono (by omega))
    have q := (hW.block _ (show w.heap.size < _ by omega)).trans hb0
    ⟨hb, hL.below hb (Nat.le_refl _), hX.below hb (Nat.le_refl _), hg.below hb hg.lt, by rw [Lib.cell_of_heap q]; rfl, by rw [Lib.cell_of_heap q]; rfl, by rw [Lib.cell_of_heap q]; rfl, fun j => Lib.frozen_of_heap q j⟩
  obtain ⟨va, vn, vcp, rfl⟩ : ∃ a n cp, v = .slice a n cp := by obtain ⟨a, b, off, cap, h, -⟩ := hL; exact ⟨a, _, cap, h⟩
  obtain ⟨xa, xn, xcp, rfl⟩ : ∃ a n cp, xv = .slice a n cp := by obtain ⟨a, b, off, cap, h, -⟩ := hX; exact ⟨a, _, cap, h⟩
  have HW0 := hide hW0
  have HZ := hide hz
  have HLX := hide (And.intro hlen hxl)
  clear hL hX hg hcp B0 hz hb0 hW0 hlen hxl
  obtain ⟨M, hM⟩ : ∃ M, M = mayV (l.map vrV) := ⟨_, rfl⟩
  rw [← hM] at cm
  have HMV := hide hM
  clear hM
  go_enter Tryz.func31, Tryz.ntmps31
  go_wp2_with fail
  rw [← HW0.out]
  refine cm.mono ?_
  rintro e W1 ⟨rfl, hb⟩
  have B1 := hide (show Below (w.heap.size + 1) W0 W1 from HZ.out ▸ hb)
  clear cm hb HW0
  obtain ⟨b1, v1, x1, g1, r0, r1, r2, rf⟩ := G.out W1 B1.out
  have HB1 := hide b1
  have cc := check_any _ x W1 x1 HLX.out.2 g1
  clear v1 x1 g1 b1
  by_cases hm : M = 0
  · subst hm
    have hvok := hide (may_vOk HMV.out.symm)
    obtain ⟨C, hC⟩ : ∃ C, C = checkP (x.map ptV) := ⟨_, rfl⟩
    rw [← hC] at cc
    have HC := hide hC
    clear hC
    have HR : Hid (R = if C ≠ 0 then .error C else kindP (l.map vrV) (x.map ptV)) := by show _ = _; rw [HAP.out, ← HMV.out, if_neg (by simp), HC.out]
    go_wp2_with fail
    refine cc.mono ?_
    rintro e W2 ⟨rfl, hb⟩
    have B2 := hide (B1.out.trans (hb.mono (HZ.out ▸ B1.out.size)))
    clear cc hb r0 r1 r2 rf
    obtain ⟨b2, v2, x2, g2, r0, r1, r2, rf⟩ := G.out W2 B2.out
    have HB2 := hide b2
    by_cases hc : C = 0
    · subst hc
      obtain ⟨ex, hwell, hflat, -, -, hl5⟩ := check_tree HC.out.symm
      have hmay : ∀ p ∈ x.map ptV, mayP p = true := by
        have h := HC.out.symm
        unfold checkP at h
        rw [if_neg (by omega)] at h
        split at h
        · exact absurd h (by decide)
        · rename_i hn
          cases e : (x.map ptV).all mayP with
          | false => exact absurd e hn
          | true => exact List.all_eq_true.1 e
      have hwf : Wf (x.map ptV) 0 := by rw [← hflat]; exact wf_tree hwell
      have h1 : 1 ≤ x.length := by have := flat_pos ex; rw [hflat, List.length_map] at this; exact this
      rw [List.length_map] at hl5
      have ck := kindOf_any _ _ l x W2 v2 HLX.out.1 hvok.out x2 g2 hl5 hmay hwf h1
      have HR2 : Hid (R = kindP (l.map vrV) (x.map ptV)) := by show _ = _; rw [HR.out, if_neg (by simp)]
      generalize kindP (l.map vrV) (x.map ptV) = K at *
      clear v2 x2 g2 b2 r0 r1 r2 rf hwell hflat hl5 hmay hwf h1
      go_wp2_with fail
      refine ck.mono ?_
      rintro e W3 ⟨⟨k, e', rfl, hk⟩, hb⟩
      have B3 := hide (B2.out.trans (hb.mono (HZ.out ▸ B2.out.size)))
      have HK := hide hk
      clear ck hb hk
      obtain ⟨b3, -, -, -, r0, r1, r2, rf⟩ := G.out W3 B3.out
      have HB3 := hide b3
      clear b3
      go_wp2
      refine bodyPost_ret (v := .tuple #[.agg #[.int .i64 k.typ, .int .i64 k.lo, .int .i64 k.hi], .int .i64 e']) (by simp [results, Tryz.results31, go_sem, *]) rfl ⟨⟨k, e', rfl, by rw [HR2.out]; exact HK.out⟩, ?_⟩
      exact set3 HB3.out (Nat.le_refl _) _ _ _
    · have hc' : (C != 0) = true := by rw [bne_iff_ne]; exact hc
      have HR2 : Hid (R = .error C ∧ C ≠ 0) := ⟨by rw [HR.out, if_pos hc], hc⟩
      clear hc v2 x2 g2 b2
      go_wp2
      refine bodyPost_ret (v := .tuple #[.agg #[.int .i64 0, .int .i64 0, .int .i64 0], .int .i64 C]) (by simp [results, Tryz.results31, go_sem, *]) rfl ⟨⟨kT 0, C, rfl, ?_⟩, ?_⟩
      · unfold KOut; rw [HR2.out.1]; exact ⟨rfl, HR2.out.2⟩
      · exact set3 HB2.out (Nat.le_refl _) _ _ _
  · have hm' : (M != 0) = true := by rw [bne_iff_ne]; exact hm
    have HR2 : Hid (R = .error M ∧ M ≠ 0) := ⟨by rw [HAP.out, ← HMV.out, if_pos hm], hm⟩
    clear hm cc
    go_wp2
    refine bodyPost_ret (v := .tuple #[.agg #[.int .i64 0, .int .i64 0, .int .i64 0], .int .i64 M]) (by simp [results, Tryz.results31, go_sem, *]) rfl ⟨⟨kT 0, M, rfl, ?_⟩, ?_⟩
    · unfold KOut; rw [HR2.out.1]; exact ⟨rfl, HR2.out.2⟩
    · exact set3 HB1.out (Nat.le_refl _) _ _ _
set_option maxRecDepth 100000 in
theorem typeT_any (v xv : Value) (l : List Vv) (x : List Pv) (w : World) (hL : VLst w v l) (hlen : l.length ≤ 4398046510976) (hcp : CapOk v) (hX : PLst w xv x) (hxl : x.length ≤ 4398046510976) (hg : Glo w) :
    Calls Tryz.prog 18 #[v, xv] w fun e w' => (∃ t e', e = .returned (.tuple #[.int .i64 t, .int .i64 e']) ∧ ∃ k, t = k.typ ∧ KOut (askP (l.map vrV) (x.map ptV)) k e') ∧ Below w.heap.size w w' := by
  have c := askedT_any v xv l x w hL hlen hcp hX hxl hg
  obtain ⟨va, vn, vcp, rfl⟩ : ∃ a n cp, v = .slice a n cp := by obtain ⟨a, b, off, cap, h, -⟩ := hL; exact ⟨a, _, cap, h⟩
  obtain ⟨xa, xn, xcp, rfl⟩ : ∃ a n cp, xv = .slice a n cp := by obtain ⟨a, b, off, cap, h, -⟩ := hX; exact ⟨a, _, cap, h⟩
  clear hL hX hg hcp
  go_enter Tryz.func18, Tryz.ntmps18
  go_wp2_with fail
  refine c.mono ?_
  rintro e W1 ⟨⟨k, e', rfl, hk⟩, hb⟩
  have HK := hide hk
  have HB := hide (hb.alloc hb.size (.cells #[.int .i64 k.typ, .int .i64 k.lo, .int .i64 k.hi] 52))
  clear c hk hb
  go_wp2
  go_ret2
  exact ⟨⟨_, _, rfl, k, rfl, HK.out⟩, HB.out⟩
set_option maxRecDepth 100000 in
theorem fitsT_any (v xv : Value) (l : List Vv) (x : List Pv) (t : Int) (w : World) (hL : VLst w v l) (hlen : l.length ≤ 4398046510976) (hcp : CapOk v) (hX : PLst w xv x) (hxl : x.length ≤ 4398046510976) (hg : Glo w) :
    Calls Tryz.prog 23 #[v, xv, .int .i64 t] w fun e w' => e = .returned (.int .i64 (fitsP (l.map vrV) (x.map ptV) t)) ∧ Below w.heap.size w w' := by
  have c := askedT_any v xv l x w hL hlen hcp hX hxl hg
  have HFP : Hid (fitsP (l.map vrV) (x.map ptV) t = match askP (l.map vrV) (x.map ptV) with
    | .error e => e
    | .ok k => kFits k t) := rfl
  generalize fitsP (l.map vrV) (x.map ptV) t = R at *
  generalize askP (l.map vrV) (x.map ptV) = A at *
  obtain ⟨va, vn, vcp, rfl⟩ : ∃ a n cp, v = .slice a n cp := by obtain ⟨a, b, off, cap, h, -⟩ := hL; exact ⟨a, _, cap, h⟩
  obtain ⟨xa, xn, xcp, rfl⟩ : ∃ a n cp, xv = .slice a n cp := by obtain ⟨a, b, off, cap, h, -⟩ := hX; exact ⟨a, _, cap, h⟩
  have HG := hide hg
  clear hL hX hg hcp
  go_enter Tryz.func23, Tryz.ntmps23
  go_wp2_with fail
  refine c.mono ?_
  rintro e W1 ⟨⟨k, e', rfl, hk⟩, hb⟩
  have HK := hide hk
  have HB := hide (hb.alloc hb.size (.cells #[.int .i64 k.typ, .int .i64 k.lo, .int .i64 k.hi] 52))
  have cf := kfits_any k.typ k.lo k.hi t _ (HG.out.below HB.out HG.out.lt)
  clear c hk hb
  by_cases he : e' = 0
  · subst he
    have HR : Hid (R = kFits k t) := by
      show _ = _
      rw [HFP.out]
      have h := HK.out
      unfold KOut at h
      cases hA : A with
      | ok k' => rw [hA] at h; show kFits k' t = _; rw [h.2]
      | error er => rw [hA] at h; exact absurd rfl h.2
    go_wp2_with fail
    refine cf.mono ?_
    rintro e W2 ⟨rfl, hb⟩
    have HB2 := hide (HB.out.trans (hb.mono HB.out.size))
    clear cf hb
    go_wp2
    go_ret
    exact ⟨by rw [HR.out]; rfl, HB2.out⟩
  · have he' : (e' != 0) = true := by rw [bne_iff_ne]; exact he
    have HR : Hid (R = e') := by
      show _ = _
      rw [HFP.out]
      have h := HK.out
      unfold KOut at h
      cases hA : A with
      | ok k' => rw [hA] at h; exact absurd h.1 he
      | error er => rw [hA] at h; exact h.1.symm
    clear he cf
    go_wp2
    go_ret
    exact ⟨by rw [HR.out]; rfl, HB.out⟩
end Go.Proofs.YtldjiieckddhkaaGreatDoor
