/- verify's laws: of, works. | verify's laws: works. | The document's cells: plain. | The document's cells. -/
import Derived.Test.YtlckedionmgjjaaDoorMg20
import Derived.Test.YtlckedionmgjjaaDoorMg13
import Derived.Test.YtlckedionmgjjaaDoorMg14
import Derived.Deep.QuietTactic
import Derived.BigQuiet
import Derived.Test.YtlckedionmgjjaaDoorMg16
namespace Go.Proofs.YtlckedionmgjjaaDoor
open Go.RowKit
def ofP (l : List Ins) : Img := ⟨[80], [1, 2], [0, 0], [], [], l⟩
theorem il2n (w : World) (x y : Int) (T : TypeId) : ILst (w.alloc (.cells #[.int .i64 x, .int .i64 y] T)) (.slice (some ⟨w.heap.size, 0, none⟩) 2 2) [x, y] :=
  ⟨_, w.heap.size, 0, 2, rfl, fun _ => ⟨by simp, rfl⟩, fun i z h => by
    match i, h with
    | 0, h => obtain rfl := Option.some.inj h; exact (Lib.cell_of_heap (j := 0) (heap_alloc_new w _)).trans rfl
    | 1, h => obtain rfl := Option.some.inj h; exact (Lib.cell_of_heap (j := 1) (heap_alloc_new w _)).trans rfl⟩
set_option maxRecDepth 100000 in
set_option maxHeartbeats 1600000 in
theorem of_any (v : Value) (l : List Ins) (w : World) (hv : ISt w v l) :
    Calls Tryd.prog 16 #[v] w fun e w' => ∃ ta fa, e = .returned (.agg #[.string ⟨#[80]⟩, .slice (some ⟨ta, 0, none⟩) 2 2, .slice (some ⟨fa, 0, none⟩) 2 2, .slice none 0 0, .slice none 0 0, v]) ∧
      Im w' (.string ⟨#[80]⟩) (.slice (some ⟨ta, 0, none⟩) 2 2) (.slice (some ⟨fa, 0, none⟩) 2 2) (.slice none 0 0) (.slice none 0 0) v (ofP l) ∧ Below w.heap.size w w' := by
  have HV := hide hv
  obtain ⟨va, vc, rfl⟩ := hv.shape
  obtain ⟨n, hn⟩ : ∃ n, n = l.length := ⟨_, rfl⟩
  rw [← hn] at HV ⊢
  clear hv hn
  go_enter Tryd.func16, Tryd.ntmps16
  go_wp2
  have Z1 := Four.two_at w (.cells #[.string ⟨#[80]⟩, .slice (some ⟨w.heap.size + 1, 0, none⟩) 2 2, .slice (some ⟨w.heap.size + 1 + 1, 0, none⟩) 2 2, .slice none 0 0, .slice none 0 0, .slice va n vc] 26) (.cells #[.int .i64 1, .int .i64 2] 3)
  have B3 : ∀ A B C, Below w.heap.size w (((w.alloc A).alloc B).alloc C) := fun A B C => (((Below.refl _ _).alloc (Nat.le_refl _) _).alloc (by simp) _).alloc (by simp; omega) _
  refine bodyPost_ret (results_cell_row rfl _ _ w.heap.size 26 #[.string ⟨#[80]⟩, .slice (some ⟨w.heap.size + 1, 0, none⟩) 2 2, .slice (some ⟨w.heap.size + 1 + 1, 0, none⟩) 2 2, .slice none 0 0, .slice none 0 0, .slice va n vc] (0, 0) _ rfl ((heap_alloc_old _ _ (by simp; omega)).trans ((heap_alloc_old _ _ (by simp)).trans (heap_alloc_new w _))) Tryd.underlying26 rfl (by kernel_rfl)) rfl ?_
  refine ⟨_, _, rfl, ⟨rfl, ?_, ?_, ILst.nil _ _, ILst.nil _ _, HV.out.on (B3 _ _ _)⟩, B3 _ _ _⟩
  · have := (il2n (w.alloc (.cells #[.string ⟨#[80]⟩, .slice (some ⟨w.heap.size + 1, 0, none⟩) 2 2, .slice (some ⟨w.heap.size + 1 + 1, 0, none⟩) 2 2, .slice none 0 0, .slice none 0 0, .slice va n vc] 26)) 1 2 3)
    have := this.on ((Below.refl _ _).alloc (Nat.le_refl _) (.cells #[.int .i64 0, .int .i64 0] 2))
    simpa [ofP] using this
  · have := il2n ((w.alloc (.cells #[.string ⟨#[80]⟩, .slice (some ⟨w.heap.size + 1, 0, none⟩) 2 2, .slice (some ⟨w.heap.size + 1 + 1, 0, none⟩) 2 2, .slice none 0 0, .slice none 0 0, .slice va n vc] 26)).alloc (.cells #[.int .i64 1, .int .i64 2] 3)) 0 0 2
    simpa [ofP] using this
theorem works1 : errP (ofP [⟨1, 2, 0, 0⟩, ⟨12, 0, 0, 0⟩]) = (0, 0) := by decide +kernel
theorem works2 : deepP (ofP [⟨1, 2, 0, 0⟩, ⟨12, 0, 0, 0⟩]) = (1, 0) := by decide +kernel
theorem works3 : errP (ofP [⟨6, 1, 2, 0⟩, ⟨12, 0, 0, 0⟩]) = (0, 151) := by decide +kernel
theorem works4 : errP (ofP [⟨1, 2, 0, 0⟩]) = (0, 150) := by decide +kernel
theorem works5 : errP (ofP [⟨2, 0, 0, 0⟩, ⟨10, 0, 0, 0⟩, ⟨12, 0, 0, 0⟩]) = (0, 0) := by decide +kernel
theorem ISt.of_ob {w : World} {g : Nat} {l : List Ins} (h : Ob w g 38 (inC l)) : ISt w (.slice (some ⟨g, 0, none⟩) l.length l.length) l :=
  ⟨_, g, 0, l.length, rfl, fun _ => ⟨h.lt, rfl⟩, fun i q hq => by
    obtain ⟨h0, h1, h2, h3⟩ := inC_get l i q hq
    rw [Nat.zero_add]
    exact ⟨h.cell _ h0, h.cell _ h1, h.cell _ h2, h.cell _ h3⟩⟩
theorem ob_step {W W' : World} {A : Obj} {b : Nat} {T : TypeId} {cs : List Value} (h : Ob W b T cs) (hb : Below (W.alloc A).heap.size (W.alloc A) W') : Ob W' b T cs :=
  (h.on ((Below.refl _ _).alloc (Nat.le_refl _) A) h.lt).on hb (by have := h.lt; simp; omega)
theorem below_step {w W W' : World} {A : Obj} (h : Below w.heap.size w W) (hb : Below (W.alloc A).heap.size (W.alloc A) W') : Below w.heap.size w W' :=
  (h.alloc h.size A).trans (hb.mono (h.alloc h.size A).size)
theorem ist_new {W : World} {g n : Nat} {cs : Array Value} {l : List Ins} (hg : g = W.heap.size) (hc : cs = (inC l).toArray) (hn : n = l.length) : ISt (W.alloc (.cells cs 38)) (.slice (some ⟨g, 0, none⟩) n n) l := by
  subst hg hc hn
  exact ISt.of_ob (Ob.new W 38 (inC l))
theorem ofP_L {l : List Ins} (h : l.length ≤ 100000) : ImL (ofP l) := ⟨by simp [ofP], by simp [ofP], by simp [ofP], by simp [ofP], by show l.length ≤ _; omega⟩
/-- an image made of these instructions, looked at -/
theorem check_of {v : Value} {l : List Ins} {w W : World} {ta fa : Nat} (hg : GlC w) (hz : Tz w) (hb : Below w.heap.size w W) (hl : l.length ≤ 100000) (hi : Im W (.string ⟨#[80]⟩) (.slice (some ⟨ta, 0, none⟩) 2 2) (.slice (some ⟨fa, 0, none⟩) 2 2) (.slice none 0 0) (.slice none 0 0) v (ofP l)) {q : Int × Int} (hq : errP (ofP l) = q) :
    Calls Tryd.prog 7 #[.agg #[.string ⟨#[80]⟩, .slice (some ⟨ta, 0, none⟩) 2 2, .slice (some ⟨fa, 0, none⟩) 2 2, .slice none 0 0, .slice none 0 0, v]] W fun e w' => e = .returned (.tuple #[.int .i64 q.1, .int .i64 q.2]) ∧ Below W.heap.size W w' := by
  subst hq
  exact vcheck_any _ _ _ _ _ _ (ofP l) W (hg.on hb hg.lt) (hz.on hb hz.lt) hi (fun a n c e => by injection e with _ e1 e2; omega) (ofP_L hl)
theorem deep_of {v : Value} {l : List Ins} {w W : World} {ta fa : Nat} (hg : GlC w) (hz : Tz w) (hb : Below w.heap.size w W) (hl : l.length ≤ 100000) (hi : Im W (.string ⟨#[80]⟩) (.slice (some ⟨ta, 0, none⟩) 2 2) (.slice (some ⟨fa, 0, none⟩) 2 2) (.slice none 0 0) (.slice none 0 0) v (ofP l)) {q : Int × Int} (hq : deepP (ofP l) = q) :
    Calls Tryd.prog 9 #[.agg #[.string ⟨#[80]⟩, .slice (some ⟨ta, 0, none⟩) 2 2, .slice (some ⟨fa, 0, none⟩) 2 2, .slice none 0 0, .slice none 0 0, v]] W fun e w' => e = .returned (.tuple #[.int .i64 q.1, .int .i64 q.2]) ∧ Below W.heap.size W w' := by
  subst hq
  exact vdeep_any _ _ _ _ _ _ (ofP l) W (hg.on hb hg.lt) (hz.on hb hz.lt) hi (fun a n c e => by injection e with _ e1 e2; omega) (ofP_L hl)
end Go.Proofs.YtlckedionmgjjaaDoor
namespace Go.Proofs.YtlckedionmgjjaaDoor
open Go.RowKit
set_option maxRecDepth 100000 in
set_option maxHeartbeats 3200000 in
theorem works_any (w : World) (hg : GlC w) (hz : Tz w) : Calls Tryd.prog 14 #[] w fun e w' => e = .returned (.bool true) ∧ Below w.heap.size w w' := by
  have P0 : Hid (∀ A, Ob ((w.alloc (.cells #[.int .i64 1, .int .i64 2, .int .i64 0, .int .i64 0] 38)).alloc A) w.heap.size 38 [.int .i64 1, .int .i64 2, .int .i64 0, .int .i64 0]) := fun A => (Ob.new w 38 _).on ((Below.refl _ _).alloc (Nat.le_refl _) _) (by simp)
  have E0 : Hid (∀ A, Ob ((w.alloc A).alloc (.cells #[.int .i64 12, .int .i64 0, .int .i64 0, .int .i64 0] 38)) (w.heap.size + 1) 38 [.int .i64 12, .int .i64 0, .int .i64 0, .int .i64 0]) := fun A => Four.two_at w _ _
  have B0 : Hid (∀ A C, Below w.heap.size w ((w.alloc A).alloc C)) := fun A C => ((Below.refl _ _).alloc (Nat.le_refl _) _).alloc (by simp) _
  have G := hide hg
  have Z := hide hz
  clear hg hz
  go_enter Tryd.func14, Tryd.ntmps14
  go_wp2_with fail
  refine (of_any _ [⟨1, 2, 0, 0⟩, ⟨12, 0, 0, 0⟩] _ (ist_new (by simp) (by rfl) (by rfl))).mono ?_
  rintro e v0 ⟨ta0, fa0, rfl, im0, bo0⟩
  have PB0 := hide (ob_step (P0.out _) bo0)
  have EB0 := hide (ob_step (E0.out _) bo0)
  have BB0 := hide (below_step (B0.out _ _) bo0)
  have IM0 := hide im0
  clear bo0 im0
  go_wp2_with fail
  refine (check_of G.out Z.out BB0.out (by simp) IM0.out works1).mono ?_
  rintro e u1 ⟨rfl, bc0⟩
  have P1 := hide (PB0.out.on bc0 PB0.out.lt)
  have E1 := hide (EB0.out.on bc0 EB0.out.lt)
  have B1 := hide (BB0.out.trans (bc0.mono BB0.out.size))
  clear bc0
  have p00 : u1.cell? ⟨w.heap.size, 0, none⟩ = some (.int .i64 1) := P1.out.cell 0 rfl
  have p01 : u1.cell? ⟨w.heap.size, 1, none⟩ = some (.int .i64 2) := P1.out.cell 1 rfl
  have p02 : u1.cell? ⟨w.heap.size, 2, none⟩ = some (.int .i64 0) := P1.out.cell 2 rfl
  have p03 : u1.cell? ⟨w.heap.size, 3, none⟩ = some (.int .i64 0) := P1.out.cell 3 rfl
  have e00 : u1.cell? ⟨w.heap.size + 1, 0, none⟩ = some (.int .i64 12) := E1.out.cell 0 rfl
  have e01 : u1.cell? ⟨w.heap.size + 1, 1, none⟩ = some (.int .i64 0) := E1.out.cell 1 rfl
  have e02 : u1.cell? ⟨w.heap.size + 1, 2, none⟩ = some (.int .i64 0) := E1.out.cell 2 rfl
  have e03 : u1.cell? ⟨w.heap.size + 1, 3, none⟩ = some (.int .i64 0) := E1.out.cell 3 rfl
  go_wp2_with fail
  refine (of_any _ [⟨1, 2, 0, 0⟩, ⟨12, 0, 0, 0⟩] _ (ist_new (by simp) (by rfl) (by rfl))).mono ?_
  rintro e v1 ⟨ta1, fa1, rfl, im1, bo1⟩
  have PB1 := hide (ob_step P1.out bo1)
  have EB1 := hide (ob_step E1.out bo1)
  have BB1 := hide (below_step B1.out bo1)
  have IM1 := hide im1
  clear bo1 im1
  go_wp2_with fail
  refine (deep_of G.out Z.out BB1.out (by simp) IM1.out works2).mono ?_
  rintro e u2 ⟨rfl, bc1⟩
  have P2 := hide (PB1.out.on bc1 PB1.out.lt)
  have E2 := hide (EB1.out.on bc1 EB1.out.lt)
  have B2 := hide (BB1.out.trans (bc1.mono BB1.out.size))
  clear bc1
  have p10 : u2.cell? ⟨w.heap.size, 0, none⟩ = some (.int .i64 1) := P2.out.cell 0 rfl
  have p11 : u2.cell? ⟨w.heap.size, 1, none⟩ = some (.int .i64 2) := P2.out.cell 1 rfl
  have p12 : u2.cell? ⟨w.heap.size, 2, none⟩ = some (.int .i64 0) := P2.out.cell 2 rfl
  have p13 : u2.cell? ⟨w.heap.size, 3, none⟩ = some (.int .i64 0) := P2.out.cell 3 rfl
  have e10 : u2.cell? ⟨w.heap.size + 1, 0, none⟩ = some (.int .i64 12) := E2.out.cell 0 rfl
  have e11 : u2.cell? ⟨w.heap.size + 1, 1, none⟩ = some (.int .i64 0) := E2.out.cell 1 rfl
  have e12 : u2.cell? ⟨w.heap.size + 1, 2, none⟩ = some (.int .i64 0) := E2.out.cell 2 rfl
  have e13 : u2.cell? ⟨w.heap.size + 1, 3, none⟩ = some (.int .i64 0) := E2.out.cell 3 rfl
  go_wp2_with fail
  refine (of_any _ [⟨6, 1, 2, 0⟩, ⟨12, 0, 0, 0⟩] _ (ist_new (by simp) (by rfl) (by rfl))).mono ?_
  rintro e v2 ⟨ta2, fa2, rfl, im2, bo2⟩
  have PB2 := hide (ob_step P2.out bo2)
  have EB2 := hide (ob_step E2.out bo2)
  have BB2 := hide (below_step B2.out bo2)
  have IM2 := hide im2
  clear bo2 im2
  go_wp2_with fail
  refine (check_of G.out Z.out BB2.out (by simp) IM2.out works3).mono ?_
  rintro e u3 ⟨rfl, bc2⟩
  have P3 := hide (PB2.out.on bc2 PB2.out.lt)
  have E3 := hide (EB2.out.on bc2 EB2.out.lt)
  have B3 := hide (BB2.out.trans (bc2.mono BB2.out.size))
  clear bc2
  have p20 : u3.cell? ⟨w.heap.size, 0, none⟩ = some (.int .i64 1) := P3.out.cell 0 rfl
  have p21 : u3.cell? ⟨w.heap.size, 1, none⟩ = some (.int .i64 2) := P3.out.cell 1 rfl
  have p22 : u3.cell? ⟨w.heap.size, 2, none⟩ = some (.int .i64 0) := P3.out.cell 2 rfl
  have p23 : u3.cell? ⟨w.heap.size, 3, none⟩ = some (.int .i64 0) := P3.out.cell 3 rfl
  have e20 : u3.cell? ⟨w.heap.size + 1, 0, none⟩ = some (.int .i64 12) := E3.out.cell 0 rfl
  have e21 : u3.cell? ⟨w.heap.size + 1, 1, none⟩ = some (.int .i64 0) := E3.out.cell 1 rfl
  have e22 : u3.cell? ⟨w.heap.size + 1, 2, none⟩ = some (.int .i64 0) := E3.out.cell 2 rfl
  have e23 : u3.cell? ⟨w.heap.size + 1, 3, none⟩ = some (.int .i64 0) := E3.out.cell 3 rfl
  go_wp2_with fail
  refine (of_any _ [⟨1, 2, 0, 0⟩] _ (ist_new (by simp) (by rfl) (by rfl))).mono ?_
  rintro e v3 ⟨ta3, fa3, rfl, im3, bo3⟩
  have PB3 := hide (ob_step P3.out bo3)
  have EB3 := hide (ob_step E3.out bo3)
  have BB3 := hide (below_step B3.out bo3)
  have IM3 := hide im3
  clear bo3 im3
  go_wp2_with fail
  refine (check_of G.out Z.out BB3.out (by simp) IM3.out works4).mono ?_
  rintro e u4 ⟨rfl, bc3⟩
  have P4 := hide (PB3.out.on bc3 PB3.out.lt)
  have E4 := hide (EB3.out.on bc3 EB3.out.lt)
  have B4 := hide (BB3.out.trans (bc3.mono BB3.out.size))
  clear bc3
  have p30 : u4.cell? ⟨w.heap.size, 0, none⟩ = some (.int .i64 1) := P4.out.cell 0 rfl
  have p31 : u4.cell? ⟨w.heap.size, 1, none⟩ = some (.int .i64 2) := P4.out.cell 1 rfl
  have p32 : u4.cell? ⟨w.heap.size, 2, none⟩ = some (.int .i64 0) := P4.out.cell 2 rfl
  have p33 : u4.cell? ⟨w.heap.size, 3, none⟩ = some (.int .i64 0) := P4.out.cell 3 rfl
  have e30 : u4.cell? ⟨w.heap.size + 1, 0, none⟩ = some (.int .i64 12) := E4.out.cell 0 rfl
  have e31 : u4.cell? ⟨w.heap.size + 1, 1, none⟩ = some (.int .i64 0) := E4.out.cell 1 rfl
  have e32 : u4.cell? ⟨w.heap.size + 1, 2, none⟩ = some (.int .i64 0) := E4.out.cell 2 rfl
  have e33 : u4.cell? ⟨w.heap.size + 1, 3, none⟩ = some (.int .i64 0) := E4.out.cell 3 rfl
  go_wp2_with fail
  refine (of_any _ [⟨2, 0, 0, 0⟩, ⟨10, 0, 0, 0⟩, ⟨12, 0, 0, 0⟩] _ (ist_new (by simp) (by rfl) (by rfl))).mono ?_
  rintro e v4 ⟨ta4, fa4, rfl, im4, bo4⟩
  have PB4 := hide (ob_step P4.out bo4)
  have EB4 := hide (ob_step E4.out bo4)
  have BB4 := hide (below_step B4.out bo4)
  have IM4 := hide im4
  clear bo4 im4
  go_wp2_with fail
  refine (check_of G.out Z.out BB4.out (by simp) IM4.out works5).mono ?_
  rintro e u5 ⟨rfl, bc4⟩
  have P5 := hide (PB4.out.on bc4 PB4.out.lt)
  have E5 := hide (EB4.out.on bc4 EB4.out.lt)
  have B5 := hide (BB4.out.trans (bc4.mono BB4.out.size))
  clear bc4
  go_wp2
  go_ret
  exact ⟨rfl, B5.out⟩
end Go.Proofs.YtlckedionmgjjaaDoor
namespace Go.Proofs.YtlckedionmgjjaaDoor
open Go.RowKit
/-- the first k of a list are cells, none twice -/
def lnP (n : Nat) (l : List Int) (k : Nat) : Prop := ∀ i, i < k → ∃ x, l[i]? = some x ∧ 0 ≤ x ∧ x < (n : Int) ∧ ∀ j, j < i → l[j]? ≠ some x
theorem line_iff (n : Nat) : ∀ (l s : List Int), lineB n s l = true ↔ (∀ i, i < l.length → ∃ x, l[i]? = some x ∧ 0 ≤ x ∧ x < (n : Int) ∧ x ∉ s ∧ ∀ j, j < i → l[j]? ≠ some x)
  | [], s => ⟨fun _ i hi => absurd hi (Nat.not_lt_zero _), fun _ => rfl⟩
  | c :: r, s => by
    have e : lineB n s (c :: r) = (inB c n && (!(s.contains c) && lineB n (c :: s) r)) := rfl
    rw [e]
    simp only [Bool.and_eq_true, Bool.not_eq_true', line_iff n r (c :: s)]
    have hin : inB c n = true ↔ 0 ≤ c ∧ c < (n : Int) := by unfold inB; simp
    rw [hin]
    have hcs : s.contains c = false ↔ c ∉ s := by
      rw [← Bool.not_eq_true, List.contains_iff_mem]
    rw [hcs]
    constructor
    · rintro ⟨⟨h0, h1⟩, h2, h3⟩ i hi
      cases i with
      | zero => exact ⟨c, rfl, h0, h1, h2, fun j hj => absurd hj (Nat.not_lt_zero _)⟩
      | succ i =>
        obtain ⟨x, hx, g0, g1, g2, g3⟩ := h3 i (by simpa using hi)
        refine ⟨x, hx, g0, g1, fun h => g2 (List.mem_cons_of_mem _ h), fun j hj => ?_⟩
        cases j with
        | zero => intro h; exact g2 (by rw [show x = c from (Option.some.inj h).symm]; exact List.mem_cons_self)
        | succ j => exact g3 j (by omega)
    · intro h
      obtain ⟨x, hx, g0, g1, g2, -⟩ := h 0 (by simp)
      obtain rfl := Option.some.inj hx
      refine ⟨⟨g0, g1⟩, g2, fun i hi => ?_⟩
      obtain ⟨y, hy, k0, k1, k2, k3⟩ := h (i + 1) (by simpa using hi)
      refine ⟨y, hy, k0, k1, fun hm => ?_, fun j hj => ?_⟩
      · rcases List.mem_cons.1 hm with rfl | hm
        · exact k3 0 (by omega) rfl
        · exact k2 hm
      · exact k3 (j + 1) (by omega)
theorem line_lnP (n : Nat) (l : List Int) : lineB n [] l = true ↔ lnP n l l.length := by
  rw [line_iff]
  unfold lnP
  constructor
  · intro h i hi
    obtain ⟨x, h1, h2, h3, -, h5⟩ := h i hi
    exact ⟨x, h1, h2, h3, h5⟩
  · intro h i hi
    obtain ⟨x, h1, h2, h3, h5⟩ := h i hi
    exact ⟨x, h1, h2, h3, fun hm => (by cases hm), h5⟩
theorem lnP_next {n : Nat} {l : List Int} {k : Nat} {x : Int} (h : lnP n l k) (hx : l[k]? = some x) (h0 : 0 ≤ x) (h1 : x < (n : Int)) (h2 : ∀ j, j < k → l[j]? ≠ some x) : lnP n l (k + 1) := fun i hi => by
  by_cases e : i = k
  · subst e; exact ⟨x, hx, h0, h1, h2⟩
  · exact h i (by omega)
theorem line_false {n : Nat} {l : List Int} (h : ¬ lnP n l l.length) : lineB n [] l = false := by
  cases hb : lineB n [] l with
  | false => rfl
  | true => exact absurd ((line_lnP n l).1 hb) h
end Go.Proofs.YtlckedionmgjjaaDoor
namespace Go.Proofs.YtlckedionmgjjaaDoor
open Go.RowKit
theorem drw_add (w : World) (a b : Nat) : (w.drewN a).drewN b = w.drewN (a + b) := by simp only [World.drewN, Nat.add_assoc]
theorem wp_app {P : Program} {o : Oper} {a : Act} {w : World} {K : Act → World → Prop} {Q : Exit → Act → World → Prop} (s x : Operand) (t : TypeId) (ho : o.op = .call { callee := .builtin .append, args := #[s, x], argTypes := #[t, t] }) (v u v' : Value) (w' : World) (hs : a.eval s = v) (hx : a.eval x = u)
    (hr : (Builtin.append_ #[t, t] o.type #[v, u]).run P w = .ok v' w') (h : K (a.put o.dst v') w') : o.wp P a w K Q := by
  unfold Oper.wp execOp
  simp only [ho, resolve, invoke, builtin, Sem.run_bind, Sem.run_pure, Result.andThen_ok, List.map_toArray, List.map_cons, List.map_nil, hs, hx, hr]
  exact h
set_option maxRecDepth 100000 in
set_option maxHeartbeats 3200000 in
theorem cells13_any (nm tv fv iv ov cv : Value) (ty ins outs : List Int) (w : World) (hT : ILst w tv ty) (hn : ty.length ≤ 1024) (hIn : ILst w iv ins) (hOut : ILst w ov outs) (hlen : ins.length + outs.length ≤ 20000000000000) : Calls Tryd.prog 37 #[.agg #[nm, tv, fv, iv, ov, cv]] w fun e w' => e = .returned (.bool (lineB ty.length [] (ins ++ outs))) ∧ Below w.heap.size w w' := by
  obtain ⟨w0, hw0⟩ : ∃ w0, w0 = (w.alloc (.cells #[nm, tv, fv, iv, ov, cv] 26)).drew := ⟨_, rfl⟩
  have B0 : Hid (Below w.heap.size w w0) := by rw [hw0]; exact ((Below.refl _ _).alloc (Nat.le_refl _) _).drew
  have X0 : Hid (w0.heap[w.heap.size]? = some (.cells #[nm, tv, fv, iv, ov, cv] 26 (0, 0))) := by
    show _ = _
    rw [hw0]; exact heap_alloc_new w _
  have z0 : w0.heap.size = w.heap.size + 1 := by rw [hw0]; show (w.alloc _).heap.size = _; simp
  have IN := hide (hIn.on B0.out)
  have OU := hide (hOut.on B0.out)
  obtain ⟨ia, ic, rfl⟩ := hIn.shape
  obtain ⟨oa, oc, rfl⟩ := hOut.shape
  obtain ⟨ta, tc, rfl⟩ := hT.shape
  have hSS : w0.cell? ⟨w.heap.size, 3, none⟩ = some (.slice ia ins.length ic) ∧ w0.cell? ⟨w.heap.size, 4, none⟩ = some (.slice oa outs.length oc) := ⟨(Lib.cell_of_heap (j := 3) X0.out).trans rfl, (Lib.cell_of_heap (j := 4) X0.out).trans rfl⟩
  have HS : Hid (∀ W, Below w0.heap.size w0 W → W.cell? ⟨w.heap.size, 3, none⟩ = some (.slice ia ins.length ic) ∧ W.cell? ⟨w.heap.size, 4, none⟩ = some (.slice oa outs.length oc)) := fun W hb =>
    ⟨(hb.cell (p := ⟨w.heap.size, 3, none⟩) (by show w.heap.size < _; omega)).trans hSS.1, (hb.cell (p := ⟨w.heap.size, 4, none⟩) (by show w.heap.size < _; omega)).trans hSS.2⟩
  have sz1 : w.heap.size + 1 ≤ w0.heap.size := by omega
  have HW := hide hw0
  obtain ⟨n1, hn1⟩ : ∃ n, n = ins.length := ⟨_, rfl⟩
  obtain ⟨n2, hn2⟩ : ∃ n, n = outs.length := ⟨_, rfl⟩
  rw [← hn1, ← hn2] at hSS HS hlen HW
  rw [← hn1] at IN ⊢
  rw [← hn2] at OU ⊢
  have HN1 := hide hn1
  have HN2 := hide hn2
  clear hw0 hT hIn hOut hn1 hn2 z0
  go_enter Tryd.func37, Tryd.ntmps37
  go_wp2_with fail
  refine region_L (S := fun W => W.cell? ⟨w.heap.size, 3, none⟩ = some (.slice ia n1 ic) ∧ W.cell? ⟨w.heap.size, 4, none⟩ = some (.slice oa n2 oc)) (L := 7) (by kernel_rfl) ?_
  rw [← HW.out]
  refine tkL 1 (.pointer (some ⟨w.heap.size, 3, none⟩)) hSS ?_
  refine tkL 2 (.slice ia n1 ic) hSS ?_
  refine tkL 4 (.pointer (some ⟨w.heap.size, 4, none⟩)) hSS ?_
  refine tkL 5 (.slice oa n2 oc) hSS ?_
  try simp only [Act.put, List.setIfInBounds_toArray, List.set_cons_zero, List.set_cons_succ]
  refine rdL 0 (fun K hK => ?_)
  go_simp
  have b1 : Below w0.heap.size w0 (w0.alloc (.cells #[] 3)) := (Below.refl _ _).alloc (Nat.le_refl _) _
  refine hK.out _ _ (fun _ => HS.out _ b1) ?_
  clear hK K
  have own0 : (w0.alloc (.cells #[] 3)).ownsRow w0.heap.size 3 1 (.slice (some ⟨w0.heap.size, 0, none⟩) 0 0) 0 [] := World.ownsRow_lit (e := 3) (size := 1) w0 #[] 0 (Nat.le_refl _) (by decide) rfl
  obtain ⟨v1, w1, hr1, ho1, hg1⟩ := run_append_ints (w0.alloc (.cells #[] 3)) w0.heap.size 22 0 _ [] own0 (.slice ia n1 ic) ins (IN.out.on b1) (by rw [← HN1.out]; omega) (by simp)
  have b2 : Below w0.heap.size w0 w1 := b1.grown hg1 (by simp) (fun k hk => (own0.lt k hk).1)
  try simp only [Act.put, List.setIfInBounds_toArray, List.set_cons_zero, List.set_cons_succ]
  refine rdL 3 (fun K hK => ?_)
  refine wp_app _ _ 22 rfl _ _ v1 w1 (by rfl) (by rfl) hr1 ?_
  refine hK.out _ _ (fun _ => HS.out _ b2) ?_
  clear hK K
  rw [Nat.zero_add] at ho1
  obtain ⟨v2, w2, hr2, ho2, hg2⟩ := run_append_ints w1 w0.heap.size 22 _ _ _ ho1 (.slice oa n2 oc) outs (OU.out.on b2) (by rw [← HN1.out, ← HN2.out]; omega) b2.size
  have b3 : Below w0.heap.size w0 w2 := b2.grown hg2 b2.size (fun k hk => (ho1.lt k hk).1)
  try simp only [Act.put, List.setIfInBounds_toArray, List.set_cons_zero, List.set_cons_succ]
  refine rdL 6 (fun K hK => ?_)
  refine wp_app _ _ 22 rfl _ _ v2 w2 (by rfl) (by rfl) hr2 ?_
  refine hK.out _ _ (fun _ => HS.out _ b3) ?_
  clear hK K
  try simp only [Act.put, List.setIfInBounds_toArray, List.set_cons_zero, List.set_cons_succ]
  refine rdL 7 (fun K hK => ?_)
  go_simp
  refine hK.out _ _ (fun h => absurd rfl h) ?_
  clear hK K
  try simp only [Act.put, List.setIfInBounds_toArray, List.set_cons_zero, List.set_cons_succ]
  refine doneL ?_
  have hL2 : ILst w2 v2 (ins ++ outs) := ILst.of_owns (base := w0.heap.size) (by
    rw [List.length_append, intC_append]; exact ho2)
  have hm : (ins ++ outs).length = n1 + n2 := by rw [List.length_append, ← HN1.out, ← HN2.out]
  obtain ⟨M, hM⟩ : ∃ M, M = (ins ++ outs).length := ⟨_, rfl⟩
  have hM9 : M ≤ 20000000000000 := by omega
  obtain ⟨l, hl⟩ : ∃ l, l = ins ++ outs := ⟨_, rfl⟩
  have HR : Hid (∀ b, lineB ty.length [] l = b → lineB ty.length [] (ins ++ outs) = b) := fun b h => by rw [← hl]; exact h
  rw [← hl] at hL2 hM
  obtain ⟨va, vb, voff, vc, rfl, hvA, hvI⟩ := hL2
  rw [← hM]
  have c1 : w2.cell? ⟨w.heap.size, 1, none⟩ = some (.slice ta ty.length tc) := (b3.cell (p := ⟨w.heap.size, 1, none⟩) (by show w.heap.size < _; omega)).trans ((Lib.cell_of_heap (j := 1) X0.out).trans rfl)
  have BW : Hid (∀ d, Below w.heap.size w (w2.drewN d)) := fun d => below_drewN (B0.out.trans (b3.mono (by omega))) d
  obtain ⟨N, hN⟩ : ∃ N, N = ty.length := ⟨_, rfl⟩
  have HNN := hide hN
  rw [← hN] at c1 hn HR ⊢
  have HV := hide hvI
  have HM := hide hM
  clear hvI hl hm ho1 ho2 hg1 hg2 hr1 hr2 own0 b1 b2 b3 hSS HS IN OU X0 hM hN
  have N1 : (N : Int) ≤ 1024 := by omega
  by_cases hbig : N < M
  · have HE : Hid (lineB N [] l = false) := by
      show _ = _
      cases hb : lineB N [] l with
      | false => rfl
      | true => have := line_len hb; rw [← HM.out] at this; omega
    have j1 : (N : Int) < (M : Int) := by omega
    go_wp2
    go_ret
    exact ⟨ret_b (by rw [← HNN.out]; exact (HR.out _ HE.out).symm), BW.out 0⟩
  · have j1 : ¬ (N : Int) < (M : Int) := by omega
    have hM3 : M ≤ 1024 := by omega
    have M0 : (0 : Int) ≤ (M : Int) := by omega
    have HVA : Hid (0 < M → va = some ⟨vb, voff, none⟩) := fun h => (hvA (by rw [← HM.out]; exact h)).2
    obtain ⟨va', hva'⟩ : ∃ va' : Option Addr, va' = (if 0 < M then some ⟨vb, voff, none⟩ else va) := ⟨_, rfl⟩
    have hveq : va = va' := by
      rw [hva']; split
      · rename_i h; exact HVA.out h
      · rfl
    rw [hveq]
    have HVB : Hid (0 < M → va' = some ⟨vb, voff, none⟩) := fun h => by rw [← hveq]; exact HVA.out h
    clear hva' hveq HVA hvA
    by_cases hM0 : M = 0
    · have HE : Hid (lineB N [] l = true) := by
        show _ = _
        rw [show l = [] from List.eq_nil_of_length_eq_zero (by rw [← HM.out]; exact hM0)]; rfl
      subst hM0
      go_wp2_with fail
      go_loopw [4, 5] (fun i _ wr => i = .int .i64 0 ∧ Hid (wr = w2)) (fun _ _ _ => 0)
      case atStart => exact ⟨rfl, rfl⟩
      case round =>
        obtain ⟨rfl, hh⟩ := hrel
        obtain rfl := hh.out
        go_wp2
        go_ret
        exact ⟨ret_b (by rw [← HNN.out]; exact (HR.out _ HE.out).symm), BW.out 0⟩
    · obtain rfl := HVB.out (by omega)
      clear HVB
      go_wp2_with fail
      go_loopw [4, 5] (fun i _ wr => ∃ k : Nat, k ≤ M ∧ i = .int .i64 (k : Int) ∧ Hid (lnP N l k ∧ ∃ d, wr = w2.drewN d)) (fun i _ _ => M - (intOf i).toNat)
      case atStart => exact ⟨0, by omega, rfl, fun i hi => absurd hi (Nat.not_lt_zero _), 0, rfl⟩
      case round =>
        obtain ⟨k, hk, rfl, hh⟩ := hrel
        obtain ⟨ha, d, rfl⟩ := hh.out
        have HA := hide ha
        clear hh ha
        have k0 : (0 : Int) ≤ (k : Int) := by omega
        by_cases hlt : k < M
        · have j2 : (k : Int) < (M : Int) := by omega
          obtain ⟨x, hx⟩ : ∃ x, l[k]? = some x := ⟨_, List.getElem?_eq_getElem (by rw [← HM.out]; exact hlt)⟩
          have cx := HV.out k x hx
          have HX := hide hx
          have bad : Hid (¬ (0 ≤ x ∧ x < (N : Int)) → lineB N [] l = false) := fun h => line_false fun hl => by
            obtain ⟨y, hy, g0, g1, -⟩ := hl k (by rw [← HM.out]; exact hlt)
            rw [hx] at hy
            obtain rfl := Option.some.inj hy
            exact h ⟨g0, g1⟩
          clear hx
          by_cases x0 : x < 0
          · have HE := hide (bad.out (by omega))
            have e1 : decide (x < 0) = true := decide_eq_true x0
            go_wp2_with fail
            go_quiet (fail)
            go_wp2
            go_ret
            exact ⟨ret_b (by rw [← HNN.out]; exact (HR.out _ HE.out).symm), below_drewN (BW.out _) _⟩
          · have e1 : decide (x < 0) = false := decide_eq_false x0
            by_cases x1 : (N : Int) ≤ x
            · have HE := hide (bad.out (by omega))
              have e2 : decide ((N : Int) ≤ x) = true := decide_eq_true x1
              go_wp2_with fail
              go_quiet (fail)
              go_wp2
              go_ret
              exact ⟨ret_b (by rw [← HNN.out]; exact (HR.out _ HE.out).symm), below_drewN (BW.out _) _⟩
            · have e2 : decide ((N : Int) ≤ x) = false := decide_eq_false x1
              go_wp2_with fail
              go_quiet (fail)
              go_wp2_with fail
              go_loopw [5] (fun j wr => ∃ q : Nat, q ≤ k ∧ j = .int .i64 (q : Int) ∧ Hid ((∀ j', j' < q → l[j']? ≠ some x) ∧ ∃ d, wr = w2.drewN d)) (fun j _ => k - (intOf j).toNat)
              case atStart => exact ⟨0, by omega, rfl, fun j hj => absurd hj (Nat.not_lt_zero _), _, drw_add _ _ _⟩
              case round =>
                obtain ⟨q, hq, rfl, hh⟩ := hrel
                obtain ⟨hb, d, rfl⟩ := hh.out
                have HBB := hide hb
                clear hh hb
                have q0 : (0 : Int) ≤ (q : Int) := by omega
                by_cases hql : q < k
                · have j3 : (q : Int) < (k : Int) := by omega
                  have j4 : (q : Int) < (M : Int) := by omega
                  obtain ⟨y, hy⟩ : ∃ y, l[q]? = some y := ⟨_, List.getElem?_eq_getElem (by rw [← HM.out]; omega)⟩
                  have cy := HV.out q y hy
                  have HY := hide hy
                  clear hy
                  by_cases hyx : y = x
                  · have HE : Hid (lineB N [] l = false) := line_false fun hl => by
                      obtain ⟨z, hz, -, -, g⟩ := hl k (by rw [← HM.out]; exact hlt)
                      rw [HX.out] at hz
                      obtain rfl := Option.some.inj hz
                      exact g q hql (by rw [HY.out, hyx])
                    have eb : (y == x) = true := by simpa using hyx
                    subst hyx
                    go_wp2_with fail
                    go_quiet (fail)
                    go_wp2
                    go_ret
                    exact ⟨ret_b (by rw [← HNN.out]; exact (HR.out _ HE.out).symm), below_drewN (BW.out _) _⟩
                  · have eb : (y == x) = false := by simpa using hyx
                    have HNX : Hid (∀ j', j' < q + 1 → l[j']? ≠ some x) := fun j' hj' => by
                      by_cases e : j' = q
                      · subst e; rw [HY.out]; intro h; exact hyx (Option.some.inj h)
                      · exact HBB.out j' (by omega)
                    go_wp2_with fail
                    go_quiet (fail)
                    go_wp2
                    go_roundw
                    case rel => exact ⟨q + 1, by omega, by go_num, HNX.out, _, rfl⟩
                    case measure => simp [intOf]; omega
                · obtain rfl : q = k := by omega
                  have HL := hide (lnP_next HA.out HX.out (by omega) (by omega) HBB.out)
                  go_wp2
                  go_roundw
                  case rel => exact ⟨q + 1, by omega, by go_num, HL.out, _, rfl⟩
                  case measure => simp [intOf]; omega
        · obtain rfl : k = M := by omega
          have HE : Hid (lineB N [] l = true) := (line_lnP N l).2 (by rw [← HM.out]; exact HA.out)
          go_wp2
          go_ret
          exact ⟨ret_b (by rw [← HNN.out]; exact (HR.out _ HE.out).symm), BW.out _⟩
end Go.Proofs.YtlckedionmgjjaaDoor
