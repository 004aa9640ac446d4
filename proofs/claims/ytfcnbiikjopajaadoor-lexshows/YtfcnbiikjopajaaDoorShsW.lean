/- The walk of the law LexShows. -/
import Derived.Test.YtfcnbiikjopajaaDoorShowW
import Derived.Test.YtfcnbiikjopajaaDoorRSoW
import Derived.Test.YtfcnbiikjopajaaDoorRShW
import Derived.Test.YtfcnbiikjopajaaDoorLendW
import Derived.Test.YtfcnbiikjopajaaDoorMgF
namespace Go.Proofs.YtfcnbiikjopajaaDoor
open Go.RowKit
theorem show_one_way {ts : List Tk} {u v : Value} (h : ShowOut ts u) (k : ShowOut ts v) : v = u := by
  rcases h with ⟨h1, h2⟩ | ⟨h1, h2, h3⟩ | ⟨h1, h2, h3⟩ <;> rcases k with ⟨k1, k2⟩ | ⟨k1, k2, k3⟩ | ⟨k1, k2, k3⟩
  · rw [h2, k2]
  · exact absurd k1 h1
  · exact absurd k1 h1
  · exact absurd h1 k1
  · rw [h3, k3]
  · omega
  · exact absurd h1 k1
  · omega
  · rw [h3, k3]
theorem show_form {ts : List Tk} {u : Value} (h : ShowOut ts u) : ∃ (S : ByteArray) (c : Int), u = .tuple #[.string S, .int .i64 c] := by
  rcases h with ⟨_, h⟩ | ⟨_, _, h⟩ | ⟨_, _, h⟩
  · exact ⟨_, _, h⟩
  · exact ⟨_, _, h⟩
  · exact ⟨_, _, h⟩
set_option maxRecDepth 100000 in
set_option maxHeartbeats 3200000 in
theorem shows_any (v : Value) (l : List Tv) (w : World) (hL : Lst w v l) (ho : OkV l) (hg : Glo w) (h3 : Lay3 w) :
    Calls Tryd.prog 4 #[v] w fun e w' => e = .returned (.bool true) ∧ Below w.heap.size w w' := by
  have HG := hide hg
  have H3 := hide h3
  have HL := hide hL
  have HO := hide ho
  have c0 := lend_any v l w hL ho
  clear hg h3 hL ho
  go_enter Tryd.func4, Tryd.ntmps4
  go_wp2_with fail
  refine c0.mono ?_
  rintro e w0 ⟨g, cap, rfl, hcap, hown, hb0⟩
  obtain ⟨hLst, hm, hgl⟩ := lent_list hown
  have B0 := hide hb0
  have L0 := hide hLst
  have M0 := hide hm
  have G0 := hide hgl
  have V0 := hide (HL.out.below hb0 (Nat.le_refl _))
  have HC := hide hcap
  have c1 := show_any _ l w0 hLst (fun a n cap h => by injection h with _ h1 h2; omega) HO.out (HG.out.below hb0 HG.out.lt) (H3.out.below hb0)
  obtain ⟨N, hN⟩ : ∃ N, N = l.length := ⟨_, rfl⟩
  have HN := hide hN
  rw [← hN] at c1 ⊢
  clear c0 hcap hown hb0 hLst hm hgl hN
  go_wp2_with fail
  refine c1.mono ?_
  rintro e w1 ⟨⟨u1, rfl, h1⟩, hb1⟩
  obtain ⟨S, c, rfl⟩ := show_form h1
  have B1 := hide (B0.out.trans (hb1.mono B0.out.size))
  have L1 := hide (L0.out.below hb1 (Nat.le_refl _))
  have V1 := hide (V0.out.below hb1 (Nat.le_refl _))
  have M1 : Hid (w1.cell? ⟨g, l.length * 5, none⟩ = some (.int .i64 (-77))) := (hb1.cell (p := ⟨g, l.length * 5, none⟩) G0.out).trans M0.out
  have G1 : Hid (g < w1.heap.size) := Nat.lt_of_lt_of_le G0.out hb1.size
  have c2 := rShow_any v l w1 V1.out HO.out (fun x a b W => rshow_v x a b W)
  have SO := hide h1
  clear c1 hb1 h1 L0 V0 M0 G0
  go_wp2_with fail
  refine c2.mono ?_
  rintro e w2 ⟨⟨u2, rfl, h2⟩, hb2⟩
  obtain rfl := show_one_way SO.out h2
  have B2 := hide (B1.out.trans (hb2.mono B1.out.size))
  have L2 := hide (L1.out.below hb2 (Nat.le_refl _))
  have V2 := hide (V1.out.below hb2 (Nat.le_refl _))
  have M2 : w2.cell? ⟨g, l.length * 5, none⟩ = some (.int .i64 (-77)) := (hb2.cell (p := ⟨g, l.length * 5, none⟩) G1.out).trans M1.out
  have G2 : g < w2.heap.size := Nat.lt_of_lt_of_le G1.out hb2.size
  have c3 := kept_any g cap v l w2 L2.out V2.out HO.out HC.out M2 G2
  rw [← HN.out] at c3
  clear c2 hb2 h2 SO M2 G2
  go_wp2_with fail
  refine c3.mono ?_
  rintro e w3 ⟨rfl, hb3⟩
  have B3 := hide (B2.out.trans (hb3.mono B2.out.size))
  have c4 := works_any w3 (HG.out.below B3.out HG.out.lt)
  clear c3 hb3
  go_wp2_with fail
  refine c4.mono ?_
  rintro e w4 ⟨rfl, hb4⟩
  have B4 := hide (B3.out.trans (hb4.mono B3.out.size))
  clear c4 hb4
  go_wp2
  go_ret
  exact ⟨rfl, B4.out⟩
theorem shows_row {u : World} (v : Value) (l : List Tv) (hL : Lst u v l) (_ : ∀ a n cap, v = .slice a n cap → n ≤ cap) (ho : OkV l) (w : World) (hg : Glo w ∧ Lay3 w) (e : u = w := by rfl) :
    Calls Tryd.prog 4 #[v] w fun e w' => e = .returned (.bool true) ∧ Below w.heap.size w w' := by
  subst e
  exact shows_any v l u hL ho hg.1 hg.2
end Go.Proofs.YtfcnbiikjopajaaDoor
