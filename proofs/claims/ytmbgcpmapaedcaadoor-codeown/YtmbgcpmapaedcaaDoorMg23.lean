/- CodeOwn, plain: an instruction more. | A drawn region whose last operation, L, waits for all others: S must hold behind each operation but L. So a cell that is read and, last of all, written may be among what S says. | A drawn region by what its operations keep, whatever came up; a copy onto an empty slice of one's own. -/
import Derived.Test.YtmbgcpmapaedcaaDoorMg12
import Derived.Test.YtmbgcpmapaedcaaDoorMg22
import Derived.Deep.RegionHeld3
import Derived.Test.YtmbgcpmapaedcaaDoorMg1
namespace Go.Proofs.YtmbgcpmapaedcaaDoor
open Go.RowKit
theorem inB_mono {c : Int} {m m' : Nat} (h : m ≤ m') (hi : inB c m = true) : inB c m' = true := by
  unfold inB at hi ⊢
  simp only [Bool.and_eq_true, decide_eq_true_eq] at hi ⊢
  omega
theorem may_mono {ty : List Int} {m m' : Nat} {i : Ins} (h : m ≤ m') (hi : mayI ty m i = true) : mayI ty m' i = true := by
  unfold mayI at hi ⊢
  obtain ⟨g1, g2⟩ := Bool.and_eq_true _ _ ▸ hi
  obtain ⟨g3, hr⟩ := Bool.and_eq_true _ _ ▸ g2
  rw [g1, g3]
  show rightB ty m' i = true
  unfold rightB at hr ⊢
  repeat' split at hr
  all_goals (repeat' split)
  all_goals first | exact hr | exact inB_mono h hr | omega
theorem bad_none {ty : List Int} {m : Nat} : ∀ {l : List Ins} {k : Nat}, badAt ty m k l = none → ∀ i ∈ l, mayI ty m i = true
  | [], _, _ => fun i hi => by cases hi
  | j :: l, k, h => fun i hi => by
    cases hm : mayI ty m j with
    | false => rw [bad_here hm] at h; cases h
    | true =>
      rw [bad_next hm] at h
      rcases List.mem_cons.1 hi with rfl | hi
      · exact hm
      · exact bad_none h i hi
theorem bad_all {ty : List Int} {m : Nat} : ∀ {l : List Ins} {k : Nat} (r : List Ins), (∀ i ∈ l, mayI ty m i = true) → badAt ty m k (l ++ r) = badAt ty m (k + l.length) r
  | [], k, r, _ => rfl
  | j :: l, k, r, h => by
    rw [List.cons_append, bad_next (h j List.mem_cons_self), bad_all r (fun i hi => h i (List.mem_cons_of_mem _ hi)), List.length_cons]
    congr 1; omega
theorem chk_all {x : Img} (h : (chkP x).2 = 0) : ∀ i ∈ x.cd, mayI x.ty x.cd.length i = true := by
  have hf := chk_ok h
  unfold chkP at h
  rw [hf] at h
  simp only [if_true] at h
  cases hb : badAt x.ty x.cd.length 0 x.cd with
  | none => exact bad_none hb
  | some k => rw [hb] at h; exact absurd h (by show ¬ (130 : Int) = 0; decide)
/-- an image with an instruction more -/
def more (x : Img) (i : Ins) : Img := { x with cd := x.cd ++ [i] }
theorem frame_more {x : Img} {i : Ins} (h : frameB x = true) (hn : x.cd.length < 4096) : frameB (more x i) = true := by
  unfold frameB at h ⊢
  simp only [Bool.and_eq_true, decide_eq_true_eq] at h ⊢
  have e : (more x i).cd.length = x.cd.length + 1 := by show (x.cd ++ [i]).length = _; rw [List.length_append]; rfl
  refine ⟨h.1, h.2.1, h.2.2.1, by rw [e]; omega, by rw [e]; omega⟩
theorem chk_more {x : Img} {i : Ins} (h : (chkP x).2 = 0) (hn : x.cd.length < 4096) (hi : i ∈ x.cd) : chkP (more x i) = (0, 0) := by
  have ha := chk_all h
  unfold chkP
  rw [frame_more (chk_ok h) hn]
  have e : (more x i).cd.length = x.cd.length + 1 := by show (x.cd ++ [i]).length = _; rw [List.length_append]; rfl
  have hb : badAt (more x i).ty (more x i).cd.length 0 (more x i).cd = none := by
    rw [e]
    show badAt x.ty (x.cd.length + 1) 0 (x.cd ++ [i]) = none
    rw [bad_all [i] (fun j hj => may_mono (Nat.le_succ _) (ha j hj)), bad_next (may_mono (Nat.le_succ _) (ha i hi))]; rfl
  rw [hb]; rfl
theorem chk_bad {x : Img} (h : (chkP x).2 = 0) (hn : x.cd.length < 4096) : chkP (more x ⟨99, 0, 0, 0⟩) = ((x.cd.length : Int), 130) := by
  have ha := chk_all h
  unfold chkP
  rw [frame_more (chk_ok h) hn]
  have e : (more x ⟨99, 0, 0, 0⟩).cd.length = x.cd.length + 1 := by show (x.cd ++ [_]).length = _; rw [List.length_append]; rfl
  have hb : badAt (more x ⟨99, 0, 0, 0⟩).ty (more x ⟨99, 0, 0, 0⟩).cd.length 0 (more x ⟨99, 0, 0, 0⟩).cd = some x.cd.length := by
    rw [e]
    show badAt x.ty (x.cd.length + 1) 0 (x.cd ++ [⟨99, 0, 0, 0⟩]) = _
    rw [bad_all _ (fun j hj => may_mono (Nat.le_succ _) (ha j hj)), bad_here (by unfold mayI; rfl), Nat.zero_add]
  rw [hb]; rfl
end Go.Proofs.YtmbgcpmapaedcaaDoor
namespace Go.Proofs.YtmbgcpmapaedcaaDoor
section
variable {P : Program} {ops : Array Oper} {Q : Exit → Act → World → Prop} {md : Region.Mode} {S : World → Prop} {L : Nat}
def wpL (P : Program) (md : Region.Mode) (ops : Array Oper) (Q : Exit → Act → World → Prop) (S : World → Prop) (L : Nat) : Nat → Array Bool → Act → World → Prop
  | 0, listed, a, w => Region.ready md ops listed = [] ∧ Q .normal a w
  | fuel + 1, listed, a, w => (Region.ready md ops listed = [] → Q .normal a w) ∧
    ∀ i ∈ Region.ready md ops listed, wpOp P ops Q i (fun a' w' => (i ≠ L → S w') ∧ wpL P md ops Q S L fuel (listed.setIfInBounds i true) a' w') a w
theorem wpAny_of_L : ∀ (fuel : Nat) (listed : Array Bool) (a : Act) (w : World), wpL P md ops Q S L fuel listed a w → wpAny P md ops Q fuel listed a w
  | 0, _, _, _, h => h
  | fuel + 1, _, _, _, h => ⟨h.1, fun i hi => wpOp_mono (fun a' w' h' => wpAny_of_L fuel _ a' w' h'.2) (h.2 i hi)⟩
def waitsB (md : Region.Mode) (ops : Array Oper) (L i : Nat) : Bool := ((ops[L]?).map fun o => o.after.any fun e => Region.binds md e && e.on == i).getD false
theorem not_ready {L i : Nat} {listed : Array Bool} (hw : waitsB md ops L i = true) (hi : listed.getD i true = false) : L ∉ Region.ready md ops listed := fun h => by
  obtain ⟨-, o, ho, hall⟩ := mem_ready.1 h
  unfold waitsB at hw
  rw [ho] at hw
  simp only [Option.map_some, Option.getD_some, Array.any_eq_true'] at hw
  obtain ⟨e, he, hb⟩ := hw
  rw [Bool.and_eq_true] at hb
  have h1 := hall e he hb.1
  have h2 : e.on = i := by simpa using hb.2
  rw [h2] at h1
  rcases Nat.lt_or_ge i listed.size with h' | h'
  · simp [h'] at hi h1; rw [hi] at h1; cases h1
  · simp [Array.getElem?_eq_none h'] at h1
theorem wpL_first {i : Nat} {oi : Oper} {v : Value} (hi : ops[i]? = some oi) (hsel : ∀ (j : Nat) (o : Oper) cs b, ops[j]? = some o → o.op ≠ .select cs b)
    (hQ : ∀ c a w, Q (.panic c) (a.put oi.dst v) w → Q (.panic c) a w) (hL : waitsB md ops L i = true) :
    ∀ (fuel : Nat) (listed : Array Bool) (a : Act) (w : World),
      (∀ j oj, ops[j]? = some oj → j ≠ i → listed.getD j true = false → (∀ e ∈ oj.after, Region.binds md e = true → e.on ≠ i) → oi.apart ops oj = true) →
      i ∈ Region.ready md ops listed → YieldsIf P ops S oi v a → S w →
      wpL P md ops Q S L fuel (listed.setIfInBounds i true) (a.put oi.dst v) w → wpL P md ops Q S L (fuel + 1) listed a w := by
  intro fuel
  induction fuel with
  | zero =>
    intro listed a w _ hr hy hS H
    refine ⟨fun h => (by rw [h] at hr; cases hr), fun j hj => ?_⟩
    by_cases hji : j = i
    · subst hji; exact hy.wpOp hi hS ⟨fun _ => hS, H⟩
    · have := ready_mono hj hji
      rw [H.1] at this
      cases this
  | succ fuel ih =>
    intro listed a w hfree hr hy hS H
    refine ⟨fun h => (by rw [h] at hr; cases hr), fun j hj => ?_⟩
    have hiun := (mem_ready.1 hr).1
    by_cases hji : j = i
    · subst hji; exact hy.wpOp hi hS ⟨fun _ => hS, H⟩
    · have hjL : j ≠ L := fun e => not_ready hL hiun (e ▸ hj)
      have h1 := H.2 j (ready_mono hj hji)
      obtain ⟨hjun, oj, hoj, hall⟩ := mem_ready.1 hj
      have hnot : ∀ e ∈ oj.after, Region.binds md e = true → e.on ≠ i := fun e he hb heq => by
        have h1 := hall e he hb
        rw [heq] at h1
        rcases Nat.lt_or_ge i listed.size with h' | h'
        · simp [h'] at hiun h1; rw [hiun] at h1; cases h1
        · simp [Array.getElem?_eq_none h'] at h1
      have h2 := wpOp_putIf hoj (hfree j oj hoj hji hjun hnot) (fun cs b => hsel i oi cs b hi) (fun cs b => hsel j oj cs b hoj) hQ hy h1
      have hfree' : ∀ k ok, ops[k]? = some ok → k ≠ i → (listed.setIfInBounds j true).getD k true = false →
          (∀ e ∈ ok.after, Region.binds md e = true → e.on ≠ i) → oi.apart ops ok = true := fun k ok hk hki hun hno => by
        refine hfree k ok hk hki ?_ hno
        by_cases hjk : j = k
        · subst hjk; exact hjun
        · rw [getD_set_ne true hjk] at hun; exact hun
      refine wpOp_mono (fun a' w' h3 => ⟨fun h => h3.2.1 h, ih (listed.setIfInBounds j true) a' w' hfree' (ready_mono hr (Ne.symm hji)) h3.1 (h3.2.1 hjL) ?_⟩) h2
      rw [Array.setIfInBounds_comm _ _ hji]
      exact h3.2.2
/-- take operation i first -/
theorem tkL (i : Nat) {d : Option Tmp} {o : Op} {t : TypeId} {p : String} {f : Array Edge} {fuel : Nat} {listed : Array Bool} {a : Act} {w : World} (v : Value) (hS : S w)
    (h : wpL P md ops Q S L fuel (listed.setIfInBounds i true) (a.put d v) w) (hi : ops[i]? = some ⟨d, o, t, p, f, none⟩ := by rfl) (hs : Region.noSelect ops = true := by kernel_rfl) (hf : Region.free md ops listed i = true := by kernel_rfl)
    (hr : (Region.ready md ops listed).contains i = true := by kernel_rfl) (hL : waitsB md ops L i = true := by kernel_rfl) (hQ : ∀ c a w, Q (.panic c) (a.put d v) w → Q (.panic c) a w := by exact fun _ _ _ h => h) (hy : YieldsIf P ops S ⟨d, o, t, p, f, none⟩ v a := by exact Or.inl ⟨by rfl, fun W hW => by ((try dsimp only at hW); go_simp)⟩) :
    wpL P md ops Q S L (fuel + 1) listed a w :=
  wpL_first (oi := ⟨d, o, t, p, f, none⟩) hi (Region.noSelect_spec hs) hQ hL fuel listed a w (Region.free_spec hi hf) (by simpa using hr) hy hS h
/-- operation i is the one that may come up -/
theorem rdL (i : Nat) {d : Option Tmp} {o : Op} {t : TypeId} {p : String} {f : Array Edge} {fuel : Nat} {listed : Array Bool} {a : Act} {w : World}
    (h : ∀ K' : Act → World → Prop, Shut (∀ a w, (i ≠ L → S w) → wpL P md ops Q S L fuel (listed.setIfInBounds i true) a w → K' a w) → Oper.wp P ⟨d, o, t, p, f, none⟩ a w K' Q)
    (hi : ops[i]? = some ⟨d, o, t, p, f, none⟩ := by rfl) (hr : Region.ready md ops listed = [i] := by kernel_rfl) : wpL P md ops Q S L (fuel + 1) listed a w :=
  ⟨fun h0 => (by rw [hr] at h0; cases h0), fun j hj => by
    rw [hr] at hj
    obtain rfl : j = i := by simpa using hj
    refine wpOp_step hi (fun K' hK => ?_)
    rw [if_pos (by rfl)]
    exact h K' (fun a w hS hW => hK a w ⟨hS, hW⟩)⟩
theorem doneL {listed : Array Bool} {a : Act} {w : World} (h : Q .normal a w) (hr : Region.ready md ops listed = [] := by kernel_rfl) : wpL P md ops Q S L 0 listed a w := ⟨hr, h⟩
theorem region_L {id : Nat} {a : Act} {w : World} (hm : P.follows .mixedOrders = true) (h : wpL P .any ops Q S L ops.size (Array.replicate ops.size false) a w.drew) : (Code.region id ops true).wp P Q a w :=
  wp_region_any hm (wpAny_of_L _ _ _ _ h)
end
end Go.Proofs.YtmbgcpmapaedcaaDoor
namespace Go.Proofs.YtmbgcpmapaedcaaDoor
open Go.RowKit
section
variable {P : Program} {ops : Array Oper} {Q : Exit → Act → World → Prop} {md : Region.Mode} {S : World → Prop} {L : Nat}
/-- how many operations have not come up -/
def cntU (n : Nat) (listed : Array Bool) : Nat := (List.range n).countP fun j => !listed.getD j true
theorem count_lt (p q : Nat → Bool) : ∀ l : List Nat, (∀ j, q j = true → p j = true) → (∃ i ∈ l, p i = true ∧ q i = false) → l.countP q < l.countP p
  | [], _, h => by obtain ⟨i, hi, _⟩ := h; cases hi
  | x :: l, hle, h => by
    have hmono : l.countP q ≤ l.countP p := List.countP_mono_left fun j _ => hle j
    rw [List.countP_cons, List.countP_cons]
    obtain ⟨i, hi, h1, h2⟩ := h
    rcases List.mem_cons.1 hi with rfl | hi
    · rw [h1, h2]; simp; omega
    · have := count_lt p q l hle ⟨i, hi, h1, h2⟩
      have hx := hle x
      cases hq : q x
      · simp; omega
      · rw [hx hq]; simp; omega
theorem set_getD {listed : Array Bool} {i j : Nat} : (listed.setIfInBounds i true).getD j true = (if j = i then true else listed.getD j true) := by
  by_cases h : j = i
  · subst h
    rw [if_pos rfl]
    rcases Nat.lt_or_ge j listed.size with h' | h'
    · simp [h']
    · simp [h']
  · rw [if_neg h, getD_set_ne true (Ne.symm h)]
theorem wpL_inv (I : Array Bool → Act → World → Prop)
    (step : ∀ listed a w i, I listed a w → i ∈ Region.ready md ops listed → wpOp P ops Q i (fun a' w' => (i ≠ L → S w') ∧ I (listed.setIfInBounds i true) a' w') a w)
    (fin : ∀ listed a w, I listed a w → Region.ready md ops listed = [] → Q .normal a w) :
    ∀ (fuel : Nat) (listed : Array Bool) (a : Act) (w : World), cntU ops.size listed ≤ fuel → I listed a w → wpL P md ops Q S L fuel listed a w
  | 0, listed, a, w, hc, hI => by
    have h0 : Region.ready md ops listed = [] := by
      cases hr : Region.ready md ops listed with
      | nil => rfl
      | cons i r =>
        have hi : i ∈ Region.ready md ops listed := by rw [hr]; exact List.mem_cons_self
        obtain ⟨hu, o, ho, -⟩ := mem_ready.1 hi
        have hlt : i < ops.size := (Array.getElem?_eq_some_iff.1 ho).1
        have : 0 < cntU ops.size listed := List.countP_pos_iff.2 ⟨i, List.mem_range.2 hlt, by rw [hu]; rfl⟩
        omega
    exact ⟨h0, fin listed a w hI h0⟩
  | fuel + 1, listed, a, w, hc, hI => by
    refine ⟨fun h0 => fin listed a w hI h0, fun i hi => wpOp_mono (fun a' w' h' => ⟨h'.1, wpL_inv I step fin fuel _ a' w' ?_ h'.2⟩) (step listed a w i hI hi)⟩
    obtain ⟨hu, o, ho, -⟩ := mem_ready.1 hi
    have hlt : i < ops.size := (Array.getElem?_eq_some_iff.1 ho).1
    have : cntU ops.size (listed.setIfInBounds i true) < cntU ops.size listed := by
      refine count_lt _ _ _ (fun j hj => ?_) ⟨i, List.mem_range.2 hlt, by rw [hu]; rfl, by rw [set_getD, if_pos rfl]; rfl⟩
      rw [set_getD] at hj
      split at hj
      · cases hj
      · exact hj
    omega
end
/-- a copy onto an empty slice of one's own -/
theorem app_fresh {P : Program} (w : World) (base : Nat) (t ty e : TypeId) (i : TypeInfo) (z : Value) (size bytes : Nat) (ht : P.underlying t = some (.slice e)) (hi : P.info? e = some i) (hz : i.zero = some z)
    (hsize : i.size = size) (hby : i.bytes = bytes) (hzs : z.cells.size = size) (hsz : 0 < size) (g : Nat) (hown : w.ownsRow base e size (.slice (some ⟨g, 0, none⟩) 0 0) 0 [])
    (a : Addr) (m c : Nat) (news : List Value) (hl : news.length = m * size) (hnews : ∀ j u, news[j]? = some u → w.cell? (a.add j) = some u) (h1 : ∀ u ∈ news, u.oneCell' = true)
    (h63 : m ≤ maxLen) (hbytes : (m + m / 4 + 192) * bytes ≤ 281474976710656) (hbase : base ≤ w.heap.size) :
    ∃ v' w', (Builtin.append_ #[t, t] ty #[.slice (some ⟨g, 0, none⟩) 0 0, .slice (some a) m c]).run P w = .ok v' w' ∧ w'.ownsRow base e size v' m news ∧ Below w.heap.size w w' := by
  by_cases hm : m = 0
  · subst hm
    have hn : news = [] := List.eq_nil_of_length_eq_zero (by simpa using hl)
    subst hn
    refine ⟨_, w, ?_, hown, Below.refl _ _⟩
    simp [Builtin.append_, run_underlying ht, sizeOf, typeInfo, hi, Builtin.lenOf, Builtin.firstCells, loadCells, loadCellsFrom, storeCells]
  · obtain ⟨v', w', hr, h2, -, -⟩ := run_append_own_wide (P := P) w base t ty e i z size bytes ht hi hz hsize hby hzs hsz _ 0 [] hown a m c news hl hnews h1 (by omega) (by rw [Nat.zero_add]; exact hbytes) hbase
    have hr2 := run_append_grow (P := P) w t ty e i z ht hi hz ⟨g, 0, none⟩ 0 0 [] (by simp) (fun j v h => by cases h) a m c news (by rw [hsize]; exact hl) hnews (by omega) (by simp only [maxLen] at h63; omega) (by rw [Nat.zero_add, hby]; exact growslice_fits_wide (by omega) hbytes)
    rw [hr] at hr2
    injection hr2 with e1 e2
    refine ⟨v', w', hr, by simpa using h2, ?_⟩
    rw [e2]
    exact ((Below.refl w.heap.size w).drew).alloc (Nat.le_refl _) _
end Go.Proofs.YtmbgcpmapaedcaaDoor
