/- The contract of the law's read, at a text that is one expression. -/
import Derived.Test.YtkicbmjjbnblfaaGreatDoorToksW
import Derived.Test.YtkicbmjjbnblfaaGreatDoorRzA
import Derived.Test.YtkicbmjjbnblfaaGreatDoorWkP
namespace Go.Proofs.YtkicbmjjbnblfaaGreatDoor
open Go.RowKit
theorem tksC_tv (L : Nat) : ∀ ts : List (Tk × Nat), tksC L ts = tvsC (ts.map (tvOf L))
  | [] => rfl
  | x :: ts => by
    show tkC L x ++ tksC L ts = tvC (tvOf L x) ++ tvsC (ts.map (tvOf L))
    rw [tksC_tv L ts]
    rfl
theorem tv_back (L : Nat) (ts : List (Tk × Nat)) : lst (ts.map (tvOf L)) 0 = ts.map (·.1) := by
  unfold lst
  rw [List.drop_zero, List.map_map]
  refine List.map_congr_left fun x _ => ?_
  obtain ⟨⟨a, b, c, d⟩, n⟩ := x
  simp [tvOf, tkV]
theorem read_inv {l : Bs} {x : List Pt} (h : readP l = some x) : ∃ ts r, toks l = .ok ts ∧ (0 < ts.length ∧ ts.length ≤ 1000) ∧ (∀ t ∈ ts, t.1.s.length ≤ 1000) ∧ parse (ts.map (·.1)) = .ok (x, r) ∧ r.length = 1 := by
  unfold readP at h
  split at h
  · cases h
  · rename_i ts hts
    split at h
    · rename_i hc
      split at h
      · cases h
      · rename_i y r hp
        split at h
        · rename_i hr
          injection h with h
          subst h
          exact ⟨ts, r, hts, hc.1, fun t ht => of_decide_eq_true (List.all_eq_true.1 hc.2 t ht), hp, hr⟩
        · cases h
    · cases h
/-- a row of parts of the call's own -/
def ReadOk (w : World) (x : List Pt) (e : Ending) (w' : World) : Prop :=
  ∃ v xs, e = .returned (.tuple #[v, .bool true]) ∧ xs.map ptV = x ∧ w'.ownsRow w.heap.size 39 5 v xs.length (pvsC xs) ∧ Below w.heap.size w w'
set_option maxRecDepth 100000 in
set_option maxHeartbeats 3200000 in
theorem read_ok (l : Bs) (x : List Pt) (hr : readP l = some x) (w : World) (hg : Glo w) : Calls Tryz.prog 31 #[.string ⟨l.toArray⟩] w (ReadOk w x) := by
  obtain ⟨ts, r, hts, hlen, hsz, hpa, hr1⟩ := read_inv hr
  have c1 := tokens_any l w hg
  have HTS := hide hts
  have HG := hide hg
  have HSZ := hide hsz
  have HPA := hide hpa
  have HR1 := hide hr1
  obtain ⟨S, hS⟩ : ∃ S : ByteArray, S = ⟨l.toArray⟩ := ⟨_, rfl⟩
  rw [← hS] at c1 ⊢
  clear hr hts hg hsz hpa hr1 hS
  go_enter Tryz.func31, Tryz.ntmps31
  go_wp2_with fail
  refine c1.mono ?_
  rintro e w1 ⟨ho, hb1⟩
  unfold TksOut at ho
  rw [HTS.out] at ho
  obtain ⟨v, rfl, hown⟩ := ho
  have hown2 : w1.ownsRow w.heap.size 54 5 v (ts.map (tvOf l.length)).length (tvsC (ts.map (tvOf l.length))) := by
    rw [List.length_map, ← tksC_tv]; exact hown
  obtain ⟨va, vcap, hv, hvc⟩ := own_form3 hown2
  have B1 := hb1.alloc hb1.size (.cells #[.int .i64 0, .int .i64 0] 80)
  have hL : Lst (w1.alloc (.cells #[.int .i64 0, .int .i64 0] 80)) v (ts.map (tvOf l.length)) := (Lst.of_owns hown2).below ((Below.refl w1.heap.size w1).alloc (Nat.le_refl _) _) (Nat.le_refl _)
  have c2 := parse_any v (ts.map (tvOf l.length)) 0 (w1.alloc (.cells #[.int .i64 0, .int .i64 0] 80)) (Nat.zero_le _) (by rw [List.length_map]; omega) (fun i => by
    unfold tokAt
    rw [List.getD_eq_getElem?_getD]
    cases hq : (ts.map (tvOf l.length))[i]? with
    | none => decide
    | some y =>
      rw [List.getElem?_map, Option.map_eq_some_iff] at hq
      obtain ⟨t, ht, rfl⟩ := hq
      have := HSZ.out t (List.mem_of_getElem? ht)
      show (tvOf l.length t).s.size ≤ _
      show (⟨t.1.s.toArray⟩ : ByteArray).size ≤ _
      have e : (⟨t.1.s.toArray⟩ : ByteArray).size = t.1.s.length := by simp [ByteArray.size]
      omega) hL (HG.out.below B1 HG.out.lt)
  have BB1 := hide B1
  have HSE : Hid (w1.heap.size < (w1.alloc (.cells #[.int .i64 0, .int .i64 0] 80)).heap.size) := by show _ < _; rw [World.size_alloc]; omega
  have HF1 : Hid ((w1.alloc (.cells #[.int .i64 0, .int .i64 0] 80)).heap[w1.heap.size]? = some (.cells #[.int .i64 0, .int .i64 0] 80)) := heap_alloc_new w1 _
  obtain ⟨M, hM⟩ : ∃ M, M = (ts.map (tvOf l.length)).length := ⟨_, rfl⟩
  have HM : Hid (M ≤ 1000 ∧ 0 < M) := by
    have : M = ts.length := by rw [hM, List.length_map]
    refine ⟨by omega, by omega⟩
  rw [← hM] at hv
  have HMM := hide hM
  subst hv
  have m1 : (M : Int) ≤ 1000 := by have := HM.out.1; omega
  have HSZ1 := hide hb1.size
  clear c1 hb1 hown hown2 hL B1 hM hlen
  go_wp2_with fail
  refine c2.mono ?_
  rintro e w2 ⟨hb2, hp2⟩
  rw [tv_back, HPA.out] at hp2
  obtain ⟨pv, xs, hxs, rfl, hown⟩ := hp2
  have k0 : w2.cell? ⟨w1.heap.size, 0, none⟩ = some (.int .i64 0) := (hb2.cell (p := ⟨w1.heap.size, 0, none⟩) HSE.out).trans (by rw [Lib.cell_of_heap HF1.out]; rfl)
  have k1 : w2.cell? ⟨w1.heap.size, 1, none⟩ = some (.int .i64 0) := (hb2.cell (p := ⟨w1.heap.size, 1, none⟩) HSE.out).trans (by rw [Lib.cell_of_heap HF1.out]; rfl)
  have z0 : ∀ j, w2.frozen? ⟨w1.heap.size, j, none⟩ = false := fun j => (hb2.frozen (p := ⟨w1.heap.size, j, none⟩) HSE.out).trans (Lib.frozen_of_heap HF1.out j)
  have BB2 := hide (BB1.out.trans (hb2.mono BB1.out.size))
  have HXS := hide hxs
  have hone := HR1.out
  have hml : (ts.map (tvOf l.length)).length - r.length = M - 1 := by rw [← HMM.out, hone]
  rw [hml]
  have hsub : ((M - 1 : Nat) : Int) = (M : Int) - 1 := by have := HM.out.2; omega
  rw [hsub]
  have HO2 := hide hown
  clear c2 hb2 hxs hone hml hsub hown
  go_wp2
  go_ret2
  refine ⟨pv, xs, rfl, HXS.out, ?_, ?_⟩
  · exact own_base (ownsRow_setCell_below (ownsRow_setCell_below HO2.out (a := ⟨w1.heap.size, 0, none⟩) HSE.out _) (a := ⟨w1.heap.size, 1, none⟩) HSE.out _) (by have := HSE.out; have := HSZ1.out; omega)
  · exact (BB2.out.setCell (p := ⟨w1.heap.size, 0, none⟩) HSZ1.out _).setCell (p := ⟨w1.heap.size, 1, none⟩) HSZ1.out _
end Go.Proofs.YtkicbmjjbnblfaaGreatDoor
