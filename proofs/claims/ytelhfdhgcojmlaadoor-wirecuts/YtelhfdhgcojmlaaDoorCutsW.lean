/- The walk of the law WireCuts. -/
import Derived.Test.YtelhfdhgcojmlaaDoorBackW
namespace Go.Proofs.YtelhfdhgcojmlaaDoor
open Go.RowKit
theorem take_text (t : ByteArray) (n : Nat) : (t.extract 0 n).data.toList = t.data.toList.take n := by
  rw [ByteArray.data_extract, Array.toList_extract, List.extract_eq_take_drop]
  rfl
theorem slice_to (s : ByteArray) (n : Nat) (h : n ≤ s.size) (W : World) : (Instr.slice 9 (.string s) none (some (.int .i64 (n : Int))) none).run Tryd.prog W = .ok (.string ⟨(s.data.toList.take n).toArray⟩) W := by
  rw [run_slice_string_to_if _ _ _ _ _ Tryd.underlying9, if_pos ⟨by omega, by omega⟩, Int.toNat_natCast, of_list _ _ (take_text s n)]
set_option maxRecDepth 100000 in
set_option maxHeartbeats 3200000 in
theorem cuts_any (v : Value) (l : List It) (at' : Int) (m : UInt8) (w : World) (hL : Lst w v l) (ho : okL l) (hg : Glo w) :
    Calls Tryd.prog 5 #[v, .int .i64 at', .int .u8 (m.toNat : Int)] w fun e w' => e = .returned (.bool true) ∧ Below w.heap.size w w' := by
  have HG := hide hg
  have h0 := hg.lt
  have c0 := works_any w hg
  have c1 := fun W hl => encode_any v l W hl ho
  have HL := hide hL
  have HF := hide ho.2
  clear hg hL ho
  by_cases hE : encE l = 0
  · have hel : encL l = bytesB l := by unfold encL; rw [if_pos hE]
    obtain ⟨g1, g2, g3⟩ := encE_zero hE
    have hlen := bytesB_length l
    obtain ⟨n, hn⟩ : ∃ n, n = (bytesB l).length := ⟨_, rfl⟩
    have DC := hide (fun c (hc : c < (bytesB l).length) => dec_cut l hE HF.out c hc)
    have DM := hide (fun c hs => dec_more l hE HF.out c hs)
    rw [hE, hel] at c1
    rw [← hn] at DC DM
    clear hE hel g1 g2
    have hS := list_size (bytesB l)
    have hD : (⟨(bytesB l).toArray⟩ : ByteArray).data.toList = bytesB l := rfl
    rw [← hn] at hS g3
    have hT : ∀ c, c < n → ∀ W, (Instr.slice 9 (.string ⟨(bytesB l).toArray⟩) none (some (.int .i64 (c : Int))) none).run Tryd.prog W = .ok (.string ⟨((bytesB l).take c).toArray⟩) W := fun c hc W => by
      have h := slice_to ⟨(bytesB l).toArray⟩ c (by omega) W
      rw [hD] at h; exact h
    generalize (⟨(bytesB l).toArray⟩ : ByteArray) = S at *
    generalize bytesB l = B at *
    have n2 : 2 ≤ n := by omega
    obtain ⟨A, hA⟩ : ∃ A, A = nb at' := ⟨_, rfl⟩
    have hw : IntKind.u64.wrap at' = (A : Int) := by rw [hA]; exact nb_wrap at'
    have hAl := nb_lt at'
    rw [← hA] at hAl
    obtain ⟨c, hc⟩ : ∃ c, c = A % n := ⟨_, rfl⟩
    have hcn : c < n := by rw [hc]; exact Nat.mod_lt _ (by omega)
    have x1 := hT c hcn
    have CD : Hid (∀ W, Glo W → Calls Tryd.prog 10 #[.string ⟨(B.take c).toArray⟩] W (DecOut (B.take c) W)) := fun W hG => decode_any ⟨(B.take c).toArray⟩ (by rw [list_size, List.length_take]; omega) W hG
    obtain ⟨p, hp, hpc⟩ := DC.out c hcn
    have HP := hide hp
    generalize (⟨(B.take c).toArray⟩ : ByteArray) = T at *
    have hcw : (A : Int) % (n : Int) = (c : Int) := by rw [hc]; simp
    have i4 : (c : Int) < (n : Int) := by omega
    have i5 : (p : Int) ≤ (c : Int) := by omega
    have i6 : (0 : Int) ≤ (c : Int) := by omega
    have Hn := hide hn
    clear hT hA hp hlen DC hn hc hpc hcn
    have i1 : (S.size : Int) = (n : Int) := by omega
    have i2 : (n : Int) ≤ 1000000 := by omega
    have i3 : (0 : Int) < (n : Int) := by omega
    have HS := hide hS
    have HD := hide hD
    clear hS hD
    go_enter Tryd.func5, Tryd.ntmps5
    go_wp2_with fail
    refine c0.mono ?_
    rintro e w1 ⟨rfl, hb1⟩
    have B1 := hide hb1
    clear hb1 c0
    go_wp2_with fail
    refine (c1 _ (HL.out.below B1.out (Nat.le_refl _))).mono ?_
    rintro e w2 ⟨rfl, hb2⟩
    have B2 : Hid (Below w.heap.size w w2) := B1.out.trans (hb2.mono B1.out.size)
    clear hb2 B1 c1
    go_wp2_with fail
    refine (CD.out _ (HG.out.below B2.out h0)).mono ?_
    rintro e w3 ⟨v3, l3, p3, k3, hdec, rfl, hown, hb3⟩
    rw [HP.out] at hdec
    injection hdec with e1 e2
    injection e2 with e2 e3
    subst e1 e2 e3
    have B3 : Hid (Below w.heap.size w w3) := B2.out.trans (hb3.mono B2.out.size)
    obtain ⟨a3, b3, off3, cap3, rfl, _, _⟩ := Lst.of_owns hown
    clear hb3 hown B2 CD HP x1 hw
    by_cases hfull : n = 65536
    · have hfb : ((n : Int) == 65536) = true := by rw [hfull]; rfl
      clear hfull
      go_wp2
      go_ret
      exact ⟨rfl, B3.out.alloc B3.out.size _⟩
    · have hfb : ((n : Int) == 65536) = false := by rw [beq_eq_false_iff_ne]; omega
      have hdm := hide (DM.out m hfull)
      have hconv := run_convert_bytes_back (P := Tryd.prog) ((w3.alloc (.cells #[.int .i64 (p : Int), .int .i64 30] 28)).alloc (.cells #[.int .u8 (m.toNat : Int)] 5)) 35 9 5 ⟨w3.heap.size + 1, 0, none⟩ 1 [m] Tryd.underlying35 Tryd.underlying5 Tryd.underlying9 (fun j hj => by
        have hj0 : j = 0 := by simpa using hj
        subst hj0
        rw [addr_add, cell_of_row _ _ _ _ _ _ (alloc2_at w3 _ _)]; rfl)
      rw [List.length_singleton] at hconv
      have a1 : ∀ W : World, (Op.stringOp .add S ⟨#[m]⟩).run Tryd.prog W = .ok (.string ⟨(B ++ [m]).toArray⟩) W := fun W => by
        rw [run_string_add_sum W _ _ (by rw [HS.out]; show n + 1 ≤ _; omega)]
        congr 2
        apply text_ext
        rw [ByteArray.data_append, Array.toList_append, HD.out]
      have CD : Hid (∀ W, Glo W → Calls Tryd.prog 10 #[.string ⟨(B ++ [m]).toArray⟩] W (DecOut (B ++ [m]) W)) := fun W hG => decode_any ⟨(B ++ [m]).toArray⟩ (by rw [list_size, List.length_append, ← Hn.out]; show n + 1 ≤ _; omega) W hG
      generalize (⟨(B ++ [m]).toArray⟩ : ByteArray) = U at *
      have BX : Hid (∀ A C, Below w.heap.size w ((w3.alloc A).alloc C)) := fun A C => (B3.out.alloc B3.out.size _).alloc (by have := B3.out.size; simp; omega) _
      have zx := B3.out.size
      clear hfull B3 DM
      go_wp2_with fail
      refine (CD.out _ (HG.out.below (BX.out _ _) h0)).mono ?_
      rintro e w4 ⟨v4, l4, p4, k4, hdec, rfl, hown, hb4⟩
      rw [hdm.out] at hdec
      injection hdec with e1 e2
      injection e2 with e2 e3
      subst e1 e2 e3
      have B4 : Hid (Below w.heap.size w w4) := (BX.out _ _).trans (hb4.mono (by simp; omega))
      clear hb4 hown CD BX hdm hconv a1
      go_wp2
      go_ret
      exact ⟨rfl, B4.out.alloc B4.out.size _⟩
  · have hel : encL l = [] := by unfold encL; rw [if_neg hE]
    rw [hel] at c1
    have hEb : (encE l == 0) = false := by rw [beq_eq_false_iff_ne]; exact hE
    generalize encE l = E at *
    clear hE hel HF
    go_enter Tryd.func5, Tryd.ntmps5
    go_wp2_with fail
    refine c0.mono ?_
    rintro e w1 ⟨rfl, hb1⟩
    have B1 := hide hb1
    clear hb1 c0
    go_wp2_with fail
    refine (c1 _ (HL.out.below B1.out (Nat.le_refl _))).mono ?_
    rintro e w2 ⟨rfl, hb2⟩
    have B2 : Hid (Below w.heap.size w w2) := B1.out.trans (hb2.mono B1.out.size)
    clear hb2 B1 c1
    go_wp2
    go_ret
    exact ⟨rfl, B2.out⟩
theorem cuts_row (v : Value) (l : List It) (at' m : Int) {w' : World} (hL : Lst w' v l) (ho : okL l) (_h1 : (Lit.int .i64 at').wf = true) (h2 : (Lit.int .u8 m).wf = true) (w : World) (hg : Glo w) (e : w' = w := by rfl) :
    Calls Tryd.prog 5 #[v, .int .i64 at', .int .u8 m] w fun e w' => e = .returned (.bool true) ∧ Below w.heap.size w w' := by
  subst e
  have h : (decide (IntKind.u8.min ≤ m) && decide (m ≤ IntKind.u8.max)) = true := h2
  rw [Bool.and_eq_true] at h
  have a1 : (0 : Int) ≤ m := of_decide_eq_true h.1
  have a2 : m ≤ (255 : Int) := of_decide_eq_true h.2
  have e : m = ((UInt8.ofNat m.toNat).toNat : Int) := by rw [byte_of]; omega
  rw [e]
  exact cuts_any v l at' _ w' hL ho hg
end Go.Proofs.YtelhfdhgcojmlaaDoor
