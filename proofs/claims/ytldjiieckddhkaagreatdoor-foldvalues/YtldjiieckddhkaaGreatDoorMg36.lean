/- LaL | DwW | DxW -/
import Derived.Deep.RegionHeld3
import Derived.Test.YtldjiieckddhkaaGreatDoorMg35
import Derived.Deep.DeepAppendWide
namespace Go.Proofs.YtldjiieckddhkaaGreatDoor
section
variable {P : Program} {ops : Array Oper} {Q : Exit → Act → World → Prop} {md : Region.Mode} {S : World → Prop} {L : Nat}
def wpL (P : Program) (md : Region.Mode) (ops : Array Oper) (Q : Exit → Act → World → Prop) (S : World → Prop) (L : Nat) : Nat → Array Bool → Act → World → Prop
  | 0, listed, a, w => Region.ready md ops listed = [] ∧ Q .normal a w
  | fuel + 1, listed, a, w => (Region.ready md ops listed = [] → Q .normal a w) ∧
    ∀ i ∈ Region.ready md ops listed, wpOp P ops Q i (fun a' w' => (i ≠ L → S w') ∧ wpL P md ops Q S L fuel (listed.setIfInBounds i true) a' w') a w
theorem wpAny_of_L : ∀ (fuel : Nat) (listed : Array Bool) (a : Act) (w : World), wpL P md ops Q S L fuel listed a w → wpAny P md ops Q fuel listed a w
  | 0, _, _, _, h => h
  | fuel + 1, _, _, _, h => ⟨h.1, fun i hi => wpOp_mono (fun a' w' h' => wpAny_of_L fuel _ a' w' h'.2) (h.2 i hi)⟩
def waitsB (md : Region.Mode) (ops : Array Oper) (L i : Nat) : Bool := ((ops[L]?).map fun o => o.after.any fun e => Region.binds md e && e.on == i).getD false
theorem not_ready {L i : Nat} {listed : Array Bool} (hw : waitsB md ops L i = true) (hi : listed.getD i true = false) : L ∉ Region.ready md ops listed := fun h => by
  obtain ⟨-, o, ho, hall⟩ := mem_ready.1 h
  unfold waitsB at hw
  rw [ho] at hw
  simp only [Option.map_some, Option.getD_some, Array.any_eq_true'] at hw
  obtain ⟨e, he, hb⟩ := hw
  rw [Bool.and_eq_true] at hb
  have h1 := hall e he hb.1
  have h2 : e.on = i := by simpa using hb.2
  rw [h2] at h1
  rcases Nat.lt_or_ge i listed.size with h' | h'
  · simp [h'] at hi h1; rw [hi] at h1; cases h1
  · simp [Array.getElem?_eq_none h'] at h1
theorem wpL_first {i : Nat} {oi : Oper} {v : Value} (hi : ops[i]? = some oi) (hsel : ∀ (j : Nat) (o : Oper) cs b, ops[j]? = some o → o.op ≠ .select cs b)
    (hQ : ∀ c a w, Q (.panic c) (a.put oi.dst v) w → Q (.panic c) a w) (hL : waitsB md ops L i = true) :
    ∀ (fuel : Nat) (listed : Array Bool) (a : Act) (w : World),
      (∀ j oj, ops[j]? = some oj → j ≠ i → listed.getD j true = false → (∀ e ∈ oj.after, Region.binds md e = true → e.on ≠ i) → oi.apart ops oj = true) →
      i ∈ Region.ready md ops listed → YieldsIf P ops S oi v a → S w →
      wpL P md ops Q S L fuel (listed.setIfInBounds i true) (a.put oi.dst v) w → wpL P md ops Q S L (fuel + 1) listed a w := by
  intro fuel
  induction fuel with
  | zero =>
    intro listed a w _ hr hy hS H
    refine ⟨fun h => (by rw [h] at hr; cases hr), fun j hj => ?_⟩
    by_cases hji : j = i
    · subst hji; exact hy.wpOp hi hS ⟨fun _ => hS, H⟩
    · have := ready_mono hj hji
      rw [H.1] at this
      cases this
  | succ fuel ih =>
    intro listed a w hfree hr hy hS H
    refine ⟨fun h => (by rw [h] at hr; cases hr), fun j hj => ?_⟩
    have hiun := (mem_ready.1 hr).1
    by_cases hji : j = i
    · subst hji; exact hy.wpOp hi hS ⟨fun _ => hS, H⟩
    · have hjL : j ≠ L := fun e => not_ready hL hiun (e ▸ hj)
      have h1 := H.2 j (ready_mono hj hji)
      obtain ⟨hjun, oj, hoj, hall⟩ := mem_ready.1 hj
      have hnot : ∀ e ∈ oj.after, Region.binds md e = true → e.on ≠ i := fun e he hb heq => by
        have h1 := hall e he hb
        rw [heq] at h1
        rcases Nat.lt_or_ge i listed.size with h' | h'
        · simp [h'] at hiun h1; rw [hiun] at h1; cases h1
        · simp [Array.getElem?_eq_none h'] at h1
      have h2 := wpOp_putIf hoj (hfree j oj hoj hji hjun hnot) (fun cs b => hsel i oi cs b hi) (fun cs b => hsel j oj cs b hoj) hQ hy h1
      have hfree' : ∀ k ok, ops[k]? = some ok → k ≠ i → (listed.setIfInBounds j true).getD k true = false →
          (∀ e ∈ ok.after, Region.binds md e = true → e.on ≠ i) → oi.apart ops ok = true := fun k ok hk hki hun hno => by
        refine hfree k ok hk hki ?_ hno
        by_cases hjk : j = k
        · subst hjk; exact hjun
        · rw [getD_set_ne true hjk] at hun; exact hun
      refine wpOp_mono (fun a' w' h3 => ⟨fun h => h3.2.1 h, ih (listed.setIfInBounds j true) a' w' hfree' (ready_mono hr (Ne.symm hji)) h3.1 (h3.2.1 hjL) ?_⟩) h2
      rw [Array.setIfInBounds_comm _ _ hji]
      exact h3.2.2
theorem tkL (i : Nat) {d : Option Tmp} {o : Op} {t : TypeId} {p : String} {f : Array Edge} {fuel : Nat} {listed : Array Bool} {a : Act} {w : World} (v : Value) (hS : S w)
    (h : wpL P md ops Q S L fuel (listed.setIfInBounds i true) (a.put d v) w) (hi : ops[i]? = some ⟨d, o, t, p, f, none⟩ := by rfl) (hs : Region.noSelect ops = true := by kernel_rfl) (hf : Region.free md ops listed i = true := by kernel_rfl)
    (hr : (Region.ready md ops listed).contains i = true := by kernel_rfl) (hL : waitsB md ops L i = true := by kernel_rfl) (hQ : ∀ c a w, Q (.panic c) (a.put d v) w → Q (.panic c) a w := by exact fun _ _ _ h => h) (hy : YieldsIf P ops S ⟨d, o, t, p, f, none⟩ v a := by exact Or.inl ⟨by rfl, fun W hW => by ((try dsimp only at hW); go_simp)⟩) :
    wpL P md ops Q S L (fuel + 1) listed a w :=
  wpL_first (oi := ⟨d, o, t, p, f, none⟩) hi (Region.noSelect_spec hs) hQ hL fuel listed a w (Region.free_spec hi hf) (by simpa using hr) hy hS h
theorem rdL (i : Nat) {d : Option Tmp} {o : Op} {t : TypeId} {p : String} {f : Array Edge} {fuel : Nat} {listed : Array Bool} {a : Act} {w : World}
    (h : ∀ K' : Act → World → Prop, Shut (∀ a w, (i ≠ L → S w) → wpL P md ops Q S L fuel (listed.setIfInBounds i true) a w → K' a w) → Oper.wp P ⟨d, o, t, p, f, none⟩ a w K' Q)
    (hi : ops[i]? = some ⟨d, o, t, p, f, none⟩ := by rfl) (hr : Region.ready md ops listed = [i] := by kernel_rfl) : wpL P md ops Q S L (fuel + 1) listed a w :=
  ⟨fun h0 => (by rw [hr] at h0; cases h0), fun j hj => by
    rw [hr] at hj
    obtain rfl : j = i := by simpa using hj
    refine wpOp_step hi (fun K' hK => ?_)
    rw [if_pos (by rfl)]
    exact h K' (fun a w hS hW => hK a w ⟨hS, hW⟩)⟩
theorem doneL {listed : Array Bool} {a : Act} {w : World} (h : Q .normal a w) (hr : Region.ready md ops listed = [] := by kernel_rfl) : wpL P md ops Q S L 0 listed a w := ⟨hr, h⟩
theorem region_L {id : Nat} {a : Act} {w : World} (hm : P.follows .mixedOrders = true) (h : wpL P .any ops Q S L ops.size (Array.replicate ops.size false) a w.drew) : (Code.region id ops true).wp P Q a w :=
  wp_region_any hm (wpAny_of_L _ _ _ _ h)
end
end Go.Proofs.YtldjiieckddhkaaGreatDoor
namespace Go.Proofs.YtldjiieckddhkaaGreatDoor
open Go.RowKit Go.Sort
theorem NLst.on {w w' : World} {v : Value} {l : List Int} (h : NLst w v l) (hb : Below w.heap.size w w') : NLst w' v l := h.below hb (Nat.le_refl _)
theorem NLst.shape {w : World} {v : Value} {l : List Int} (h : NLst w v l) : ∃ a cap, v = .slice a l.length cap := by
  obtain ⟨a, b, off, cap, rfl, _⟩ := h
  exact ⟨a, cap, rfl⟩
theorem NLst.set {w : World} {v : Value} {l : List Int} (h : NLst w v l) {r T : Nat} {cs : Array Value} {fr : Nat × Nat} (hr : w.heap[r]? = some (.cells cs T fr)) (hT : T ≠ 2) (x y : Value) : NLst ((w.setCell ⟨r, 0, none⟩ x).setCell ⟨r, 1, none⟩ y) v l := by
  obtain ⟨a, b, off, cap, rfl, hA, hI⟩ := h
  have hne : 0 < l.length → r ≠ b := fun h0 e => by
    obtain ⟨⟨cs', fr', h⟩, -⟩ := hA h0
    rw [← e, hr] at h
    injection h with h
    injection h with _ h2
    exact hT h2
  refine ⟨a, b, off, cap, rfl, fun h0 => ⟨?_, (hA h0).2⟩, fun i n hx => ?_⟩
  · obtain ⟨⟨cs', fr', h⟩, -⟩ := hA h0
    refine ⟨cs', fr', ?_⟩
    rw [Below.heap_setCell _ _ _ _ (fun e => hne h0 e.symm), Below.heap_setCell _ _ _ _ (fun e => hne h0 e.symm)]
    exact h
  · have h0 : 0 < l.length := by have := (List.getElem?_eq_some_iff.1 hx).1; omega
    have ne : ∀ j k : Nat, (⟨r, j, none⟩ : Addr) ≠ ⟨b, k, none⟩ := fun j k e => by injection e with e1; exact hne h0 e1
    rw [World.cell?_setCell_other (h := ne _ _), World.cell?_setCell_other (h := ne _ _)]
    exact hI i n hx
theorem info2 : (Tryz.prog.info? 2).map (fun i => (i.zero, i.size, i.bytes)) = some (some (.int .i64 0), 1, 8) := by kernel_rfl
theorem i64C_one (l : List Int) : ∀ u ∈ i64C l, u.oneCell' = true := fun u hu => by
  obtain ⟨d, _, rfl⟩ := List.mem_map.1 hu; rfl
theorem i64C_append (a b : List Int) : i64C (a ++ b) = i64C a ++ i64C b := List.map_append
theorem addr_atD (b off j : Nat) : (⟨b, off, none⟩ : Addr).add j = ⟨b, off + j, none⟩ := by unfold Addr.add; split <;> simp_all
theorem own_formD {w : World} {base n e s : Nat} {v : Value} {xs : List Value} (h : w.ownsRow base e s v n xs) : ∃ a cap, v = .slice a n cap ∧ n ≤ cap := by
  rcases h.2 with ⟨hv, h0⟩ | ⟨g', cap', cur, hv, hb, hg, hn, hm, hc, ht⟩
  · exact ⟨_, _, by rw [h0]; exact hv, by omega⟩
  · exact ⟨_, _, hv, hn⟩
theorem run_append_nilN (ty : Nat) (v : Value) (hv : ∃ a n cap, v = .slice a n cap ∧ n ≤ cap) (c : Nat) (W : World) : (Builtin.append_ #[83, 83] ty #[v, .slice none 0 c]).run Tryz.prog W = .ok v W := by
  obtain ⟨a, n, cap, rfl, hn⟩ := hv
  cases a <;> simp [Builtin.append_, go_sem, hn]
theorem run_append_nums (w : World) (base ty n : Nat) (v : Value) (xs : List Value) (hown : w.ownsRow base 2 1 v n xs) (u : Value) (l : List Int) (hL : NLst w u l) (hbytes : ((n + l.length) + (n + l.length) / 4 + 192) * 8 ≤ 281474976710656) (hbase : base ≤ w.heap.size) :
    ∃ v' w', (Builtin.append_ #[83, 83] ty #[v, u]).run Tryz.prog w = .ok v' w' ∧ w'.ownsRow base 2 1 v' (n + l.length) (xs ++ i64C l) ∧ w.grownBy w' v.ownBlock := by
  obtain ⟨i0, hi, hz0, hz1, hz2⟩ := info_parts info2
  obtain ⟨a, b, off, c, rfl, hA, hI⟩ := hL
  have main : ∀ ad : Addr, a = some ad → (∀ j x, (i64C l)[j]? = some x → w.cell? (ad.add j) = some x) → ∃ v' w', (Builtin.append_ #[83, 83] ty #[v, .slice a l.length c]).run Tryz.prog w = .ok v' w' ∧ w'.ownsRow base 2 1 v' (n + l.length) (xs ++ i64C l) ∧ w.grownBy w' v.ownBlock := fun ad had hc => by
    subst had
    obtain ⟨v', w', hr, h2, h3, h4⟩ := run_append_own_wide (P := Tryz.prog) w base 83 ty 2 i0 _ 1 8 Tryz.underlying83 hi hz0 hz1 hz2 rfl (by omega) _ n xs hown ad l.length c (i64C l) (by rw [i64C_length]; omega) hc (i64C_one l) (by unfold maxLen; omega) hbytes hbase
    exact ⟨v', w', hr, h2, h3⟩
  by_cases hn : 0 < l.length
  · obtain ⟨_, rfl⟩ := hA hn
    refine main _ rfl fun j x hx => ?_
    rw [i64C, List.getElem?_map] at hx
    cases hy : l[j]? with
    | none => rw [hy] at hx; cases hx
    | some y =>
      rw [hy] at hx
      have hx : Value.int .i64 y = x := by simpa using hx
      subst hx
      rw [addr_atD]
      exact hI j y hy
  · have hl : l = [] := List.eq_nil_of_length_eq_zero (by omega)
    subst hl
    cases a with
    | some ad => exact main ad rfl (fun j x hx => by cases hx)
    | none =>
      obtain ⟨a, cap, hv, hc⟩ := own_formD hown
      refine ⟨v, w, run_append_nilN ty v ⟨_, _, _, hv, hc⟩ c w, ?_, ⟨rfl, rfl, rfl, Nat.le_refl _, fun _ _ _ => rfl⟩⟩
      show w.ownsRow base 2 1 v n (xs ++ [])
      rw [List.append_nil]; exact hown
theorem wp_app {P : Program} {o : Oper} {a : Act} {w : World} {K : Act → World → Prop} {Q : Exit → Act → World → Prop} (s x : Operand) (t : TypeId) (ho : o.op = .call { callee := .builtin .append, args := #[s, x], argTypes := #[t, t] }) (v u v' : Value) (w' : World) (hs : a.eval s = v) (hx : a.eval x = u)
    (hr : (Builtin.append_ #[t, t] o.type #[v, u]).run P w = .ok v' w') (h : K (a.put o.dst v') w') : o.wp P a w K Q := by
  unfold Oper.wp execOp
  simp only [ho, resolve, invoke, builtin, Sem.run_bind, Sem.run_pure, Result.andThen_ok, List.map_toArray, List.map_cons, List.map_nil, hs, hx, hr]
  exact h
set_option maxRecDepth 100000 in
set_option maxHeartbeats 1600000 in
theorem counts_any (d : Dv) (v : Value) (w : World) (hL : NLst w v d.nums) (hl : d.nums.length ≤ 1000) : Calls Tryz.prog 122 #[.agg #[.int .i64 d.t, v], .bool true] w fun e w' => e = .returned (.int .i64 (cntD d true)) ∧ Below w.heap.size w w' := by
  obtain ⟨t, l⟩ := d
  dsimp only at hL hl ⊢
  have B0 := hide ((Below.refl w.heap.size w).alloc (Nat.le_refl _) (.cells #[.int .i64 t, v] 85))
  have HC : Hid (cntD ⟨t, l⟩ true = if t = 0 then (if fitN l 3 = true then 0 else 1) else if wholeB t || (true && decide (t = 4)) then 0 else 40) := rfl
  generalize cntD ⟨t, l⟩ true = C at *
  by_cases h0 : t = 0
  · subst h0
    have m1 := fit_any v l 3 _ (hL.on B0.out) hl
    cases hf : fitN l 3
    · rw [hf] at m1
      have HE : Hid (C = 1) := by show _ = _; rw [HC.out, hf]; rfl
      clear hf HC hL
      obtain ⟨W1, hW1⟩ : ∃ W1, W1 = w.alloc (.cells #[.int .i64 0, v] 85) := ⟨_, rfl⟩
      go_enter Tryz.func122, Tryz.ntmps122
      go_wp2_with (go_at_call 48; refine m1.mono ?_; rintro e w' ⟨rfl, rfl⟩)
      go_ret
      exact ⟨by rw [HE.out]; rfl, B0.out⟩
    · rw [hf] at m1
      have HE : Hid (C = 0) := by show _ = _; rw [HC.out, hf]; rfl
      clear hf HC hL
      go_enter Tryz.func122, Tryz.ntmps122
      go_wp2_with (go_at_call 48; refine m1.mono ?_; rintro e w' ⟨rfl, rfl⟩)
      go_ret
      exact ⟨by rw [HE.out]; rfl, B0.out⟩
  · have m1 := fun W => whole_any t W
    have h0' : (t == 0) = false := by rw [beq_eq_false_iff_ne]; exact h0
    cases hw : wholeB t
    · rw [hw] at m1
      by_cases h4 : t = 4
      · subst h4
        have HE : Hid (C = 0) := by show _ = _; rw [HC.out, hw]; rfl
        clear hw HC hL h0 h0'
        go_enter Tryz.func122, Tryz.ntmps122
        go_wp2_with (go_at_call 47; refine (m1 _).mono ?_; rintro e w' ⟨rfl, rfl⟩)
        go_ret
        exact ⟨by rw [HE.out]; rfl, B0.out⟩
      · have HE : Hid (C = 40) := by show _ = _; rw [HC.out, if_neg h0, hw, decide_eq_false h4]; rfl
        have h4' : (t == 4) = false := by rw [beq_eq_false_iff_ne]; exact h4
        clear hw HC hL h0 h4
        go_enter Tryz.func122, Tryz.ntmps122
        go_wp2_with (go_at_call 47; refine (m1 _).mono ?_; rintro e w' ⟨rfl, rfl⟩)
        go_ret
        exact ⟨by rw [HE.out]; rfl, B0.out⟩
    · rw [hw] at m1
      have HE : Hid (C = 0) := by show _ = _; rw [HC.out, if_neg h0, hw]; rfl
      clear hw HC hL h0
      go_enter Tryz.func122, Tryz.ntmps122
      go_wp2_with (go_at_call 47; refine (m1 _).mono ?_; rintro e w' ⟨rfl, rfl⟩)
      go_ret
      exact ⟨by rw [HE.out]; rfl, B0.out⟩
def DOut (r : Except Int Dv) (w : World) (e : Ending) (w' : World) : Prop :=
  (∃ (t er : Int) (xa : Option Addr) (xn xc : Nat), e = .returned (.tuple #[.agg #[.int .i64 t, .slice xa xn xc], .int .i64 er]) ∧ (match r with
    | .error x => er = x ∧ x ≠ 0 ∧ t = 0 ∧ NLst w' (.slice xa xn xc) []
    | .ok d => er = 0 ∧ t = d.t ∧ NLst w' (.slice xa xn xc) d.nums)) ∧ Below w.heap.size w w'
theorem set2 {B : Nat} {w X : World} (h : Below B w X) {r : Nat} (hr : B ≤ r) (a b : Value) : Below B w ((X.setCell ⟨r, 0, none⟩ a).setCell ⟨r, 1, none⟩ b) := (h.setCell hr _).setCell hr _
set_option maxRecDepth 100000 in
set_option maxHeartbeats 1600000 in
theorem one9_any (op : Int) (d : Dv) (v : Value) (w : World) (hL : NLst w v d.nums) : Calls Tryz.prog 123 #[.int .i64 op, .agg #[.int .i64 d.t, v]] w (DOut (oneD op d) w) := by
  obtain ⟨t, l⟩ := d
  dsimp only at hL ⊢
  have B0 : Hid (∀ o1 o2, Below w.heap.size w ((w.alloc o1).alloc o2)) := fun o1 o2 => ((Below.refl w.heap.size w).alloc (Nat.le_refl _) o1).alloc (by simp) o2
  obtain ⟨va, vc, rfl⟩ := hL.shape
  have HL := hide hL
  have HC : Hid (oneD op ⟨t, l⟩ = if Four.has1 op (if t = 0 then 3 else t) = false then .error 40 else .ok ⟨t, l⟩) := rfl
  have m1 := fun W => Four.has1_any op (if t = 0 then 3 else t) W
  clear hL
  generalize oneD op ⟨t, l⟩ = C at *
  cases hf : Four.has1 op (if t = 0 then 3 else t)
  all_goals
    rw [hf] at m1
    by_cases h0 : t = 0
    all_goals
      first
        | (subst h0; rw [if_pos rfl] at m1)
        | (rw [if_neg h0] at m1; have h0' : (t == 0) = false := (by rw [beq_eq_false_iff_ne]; exact h0))
  · have HE : Hid (C = .error 40) := by show _ = _; rw [HC.out, hf]; rfl
    clear hf HC
    go_enter Tryz.func123, Tryz.ntmps123
    go_wp2_with (go_at_call 131; refine (m1 _).mono ?_; rintro e w' ⟨rfl, rfl⟩)
    refine bodyPost_ret (v := .tuple #[.agg #[.int .i64 0, .slice none 0 0], .int .i64 40]) (by simp [results, Tryz.results123, go_sem, *]) rfl ⟨⟨0, 40, _, _, _, rfl, ?_⟩, ?_⟩
    · rw [HE.out]; exact ⟨rfl, by decide, rfl, NLst.nil _⟩
    · first | exact B0.out _ _ | exact set2 (B0.out _ _) (Nat.le_succ _) _ _
  · have HE : Hid (C = .error 40) := by show _ = _; rw [HC.out, hf]; rfl
    clear hf HC h0
    go_enter Tryz.func123, Tryz.ntmps123
    go_wp2_with (go_at_call 131; refine (m1 _).mono ?_; rintro e w' ⟨rfl, rfl⟩)
    refine bodyPost_ret (v := .tuple #[.agg #[.int .i64 0, .slice none 0 0], .int .i64 40]) (by simp [results, Tryz.results123, go_sem, *]) rfl ⟨⟨0, 40, _, _, _, rfl, ?_⟩, ?_⟩
    · rw [HE.out]; exact ⟨rfl, by decide, rfl, NLst.nil _⟩
    · first | exact B0.out _ _ | exact set2 (B0.out _ _) (Nat.le_succ _) _ _
  · have HE : Hid (C = .ok ⟨0, l⟩) := by show _ = _; rw [HC.out, hf]; rfl
    clear hf HC
    go_enter Tryz.func123, Tryz.ntmps123
    go_wp2_with (go_at_call 131; refine (m1 _).mono ?_; rintro e w' ⟨rfl, rfl⟩)
    refine bodyPost_ret (v := .tuple #[.agg #[.int .i64 0, .slice va l.length vc], .int .i64 0]) (by simp [results, Tryz.results123, go_sem, *]) rfl ⟨⟨0, 0, _, _, _, rfl, ?_⟩, ?_⟩
    · rw [HE.out]; refine ⟨rfl, rfl, HL.out.on ?_⟩; first | exact B0.out _ _ | exact set2 (B0.out _ _) (Nat.le_succ _) _ _
    · first | exact B0.out _ _ | exact set2 (B0.out _ _) (Nat.le_succ _) _ _
  · have HE : Hid (C = .ok ⟨t, l⟩) := by show _ = _; rw [HC.out, if_neg (show ¬ (Four.has1 op (if t = 0 then 3 else t) = false) by rw [hf]; decide)]
    clear hf HC h0
    go_enter Tryz.func123, Tryz.ntmps123
    go_wp2_with (go_at_call 131; refine (m1 _).mono ?_; rintro e w' ⟨rfl, rfl⟩)
    refine bodyPost_ret (v := .tuple #[.agg #[.int .i64 t, .slice va l.length vc], .int .i64 0]) (by simp [results, Tryz.results123, go_sem, *]) rfl ⟨⟨t, 0, _, _, _, rfl, ?_⟩, ?_⟩
    · rw [HE.out]; refine ⟨rfl, rfl, HL.out.on ?_⟩; first | exact B0.out _ _ | exact set2 (B0.out _ _) (Nat.le_succ _) _ _
    · first | exact B0.out _ _ | exact set2 (B0.out _ _) (Nat.le_succ _) _ _
end Go.Proofs.YtldjiieckddhkaaGreatDoor
namespace Go.Proofs.YtldjiieckddhkaaGreatDoor
open Go.RowKit Go.Sort
theorem below_drewD {B : Nat} {a w : World} (h : Below B a w) (n : Nat) : Below B a (w.drewN n) := h.trans ⟨rfl, rfl, rfl, Nat.le_refl _, fun _ _ => rfl⟩
set_option maxRecDepth 100000 in
set_option maxHeartbeats 3200000 in
theorem none2_any (op : Int) (a b : Dv) (u v : Value) (w : World) (hA : NLst w u a.nums) (hB : NLst w v b.nums) (hl : a.nums.length + b.nums.length ≤ 1000) : Calls Tryz.prog 152 #[.int .i64 op, .agg #[.int .i64 a.t, u], .agg #[.int .i64 b.t, v]] w (DOut (noneD op a b) w) := by
  obtain ⟨ta, la⟩ := a
  obtain ⟨tb, lb⟩ := b
  dsimp only at hA hB hl ⊢
  have HC : Hid (noneD op ⟨ta, la⟩ ⟨tb, lb⟩ = if Four.has2 op 3 = false then .error 40 else if op < 9 then .ok ⟨0, la ++ lb⟩ else if fitN (la ++ lb) 3 = false then .error 1 else .ok (dT 1)) := rfl
  generalize noneD op ⟨ta, la⟩ ⟨tb, lb⟩ = C at *
  obtain ⟨ua, uc, rfl⟩ := hA.shape
  obtain ⟨va, vc, rfl⟩ := hB.shape
  obtain ⟨n1, hn1⟩ : ∃ n, n = la.length := ⟨_, rfl⟩
  obtain ⟨n2, hn2⟩ : ∃ n, n = lb.length := ⟨_, rfl⟩
  have HN1 := hide hn1
  have HN2 := hide hn2
  have m1 := fun W => Four.has2_any op 3 W
  obtain ⟨w0, hw0⟩ : ∃ w0, w0 = (((w.alloc (.cells #[.int .i64 ta, .slice ua n1 uc] 85)).alloc (.cells #[.int .i64 tb, .slice va n2 vc] 85)).alloc (.cells #[.int .i64 0, .slice none 0 0] 85)) := ⟨_, rfl⟩
  have B0 : Hid (Below w.heap.size w w0) := by rw [hw0]; exact (((Below.refl _ _).alloc (Nat.le_refl _) _).alloc (by simp) _).alloc (by simp; omega) _
  have X2 : w0.heap[w.heap.size + 2]? = some (.cells #[.int .i64 0, .slice none 0 0] 85 (0, 0)) := by rw [hw0]; have := heap_alloc_new (((w.alloc (.cells #[.int .i64 ta, .slice ua n1 uc] 85)).alloc (.cells #[.int .i64 tb, .slice va n2 vc] 85))) (.cells #[.int .i64 0, .slice none 0 0] 85); simpa using this
  have X1 : w0.heap[w.heap.size + 1]? = some (.cells #[.int .i64 tb, .slice va n2 vc] 85 (0, 0)) := by
    rw [hw0, Lib.alloc_old _ _ _ (by simp)]; have := heap_alloc_new (w.alloc (.cells #[.int .i64 ta, .slice ua n1 uc] 85)) (.cells #[.int .i64 tb, .slice va n2 vc] 85); simpa using this
  have X0 : w0.heap[w.heap.size]? = some (.cells #[.int .i64 ta, .slice ua n1 uc] 85 (0, 0)) := by
    rw [hw0, Lib.alloc_old _ _ _ (by simp; omega), Lib.alloc_old _ _ _ (by simp)]; exact heap_alloc_new w _
  have z0 : w0.heap.size = w.heap.size + 3 := by rw [hw0]; simp
  rw [← hn1] at hA hl ⊢
  rw [← hn2] at hB hl ⊢
  have IA : Hid (NLst w0 (.slice ua n1 uc) la) := hA.on B0.out
  have IB : Hid (NLst w0 (.slice va n2 vc) lb) := hB.on B0.out
  have HW := hide hw0
  clear hw0 hA hB hn1 hn2
  by_cases hf : Four.has2 op 3 = false
  · rw [hf] at m1
    have HE : Hid (C = .error 40) := by show _ = _; rw [HC.out, if_pos hf]
    have BB : Hid (∀ o1 o2 o3, Below w.heap.size w (((w.alloc o1).alloc o2).alloc o3)) := fun o1 o2 o3 => (((Below.refl w.heap.size w).alloc (Nat.le_refl _) o1).alloc (by simp) o2).alloc (by simp; omega) o3
    clear hf HC X0 X1 X2 z0
    go_enter Tryz.func152, Tryz.ntmps152
    go_wp2_with (go_at_call 131; refine (m1 _).mono ?_; rintro e w' ⟨rfl, rfl⟩)
    refine bodyPost_ret (v := .tuple #[.agg #[.int .i64 0, .slice none 0 0], .int .i64 40]) (by simp [results, Tryz.results152, go_sem, *]) rfl ⟨⟨0, 40, _, _, _, rfl, ?_⟩, ?_⟩
    · rw [HE.out]; exact ⟨rfl, by decide, rfl, NLst.nil _⟩
    · first | exact BB.out _ _ _ | exact set2 (BB.out _ _ _) (by omega) _ _
  · have hf' : Four.has2 op 3 = true := by simpa using hf
    rw [hf'] at m1
    have HC2 : Hid (C = if op < 9 then .ok ⟨0, la ++ lb⟩ else if fitN (la ++ lb) 3 = false then .error 1 else .ok (dT 1)) := by show _ = _; rw [HC.out, if_neg hf]
    have hSS : w0.cell? ⟨w.heap.size, 1, none⟩ = some (.slice ua n1 uc) ∧ w0.cell? ⟨w.heap.size + 1, 1, none⟩ = some (.slice va n2 vc) := ⟨(Lib.cell_of_heap (j := 1) X0).trans rfl, (Lib.cell_of_heap (j := 1) X1).trans rfl⟩
    have HS : Hid (∀ W, Below w0.heap.size w0 W → W.cell? ⟨w.heap.size, 1, none⟩ = some (.slice ua n1 uc) ∧ W.cell? ⟨w.heap.size + 1, 1, none⟩ = some (.slice va n2 vc)) := fun W hb =>
      ⟨(hb.cell (p := ⟨w.heap.size, 1, none⟩) (by show w.heap.size < _; omega)).trans hSS.1, (hb.cell (p := ⟨w.heap.size + 1, 1, none⟩) (by show w.heap.size + 1 < _; omega)).trans hSS.2⟩
    have Z0 := hide z0
    have HX2 := hide X2
    clear hf hf' HC X0 X1 X2 z0
    go_enter Tryz.func152, Tryz.ntmps152
    go_wp2_with (go_at_call 131; refine (m1 _).mono ?_; rintro e w' ⟨rfl, rfl⟩)
    refine region_L (S := fun W => W.cell? ⟨w.heap.size, 1, none⟩ = some (.slice ua n1 uc) ∧ W.cell? ⟨w.heap.size + 1, 1, none⟩ = some (.slice va n2 vc)) (L := 7) (by kernel_rfl) ?_
    rw [← HW.out]
    have b0 : Below w0.heap.size w0 w0.drew := (Below.refl _ _).drew
    refine tkL 1 (.pointer (some ⟨w.heap.size, 1, none⟩)) (HS.out _ b0) ?_
    refine tkL 2 (.slice ua n1 uc) (HS.out _ b0) ?_
    refine tkL 4 (.pointer (some ⟨w.heap.size + 1, 1, none⟩)) (HS.out _ b0) ?_
    refine tkL 5 (.slice va n2 vc) (HS.out _ b0) ?_
    try simp only [Act.put, List.setIfInBounds_toArray, List.set_cons_zero, List.set_cons_succ]
    refine rdL 0 (fun K hK => ?_)
    go_simp
    have b1 : Below w0.heap.size w0 (w0.drew.alloc (.cells #[] 2)) := b0.alloc (Nat.le_refl _) _
    refine hK.out _ _ (fun _ => HS.out _ b1) ?_
    clear hK K
    have own0 : (w0.drew.alloc (.cells #[] 2)).ownsRow w0.heap.size 2 1 (.slice (some ⟨w0.heap.size, 0, none⟩) 0 0) 0 [] := World.ownsRow_lit (e := 2) (size := 1) w0.drew #[] 0 (Nat.le_refl _) (by decide) rfl
    obtain ⟨v1, w1, hr1, ho1, hg1⟩ := run_append_nums (w0.drew.alloc (.cells #[] 2)) w0.heap.size 83 0 _ [] own0 (.slice ua n1 uc) la (IA.out.on b1) (by rw [← HN1.out]; omega) (by simp)
    have b2 : Below w0.heap.size w0 w1 := b1.grown hg1 (by simp) (fun k hk => (own0.lt k hk).1)
    try simp only [Act.put, List.setIfInBounds_toArray, List.set_cons_zero, List.set_cons_succ]
    refine rdL 3 (fun K hK => ?_)
    refine wp_app _ _ 83 rfl _ _ v1 w1 (by rfl) (by rfl) hr1 ?_
    refine hK.out _ _ (fun _ => HS.out _ b2) ?_
    clear hK K
    rw [Nat.zero_add] at ho1
    obtain ⟨v2, w2, hr2, ho2, hg2⟩ := run_append_nums w1 w0.heap.size 83 _ _ _ ho1 (.slice va n2 vc) lb (IB.out.on b2) (by rw [← HN1.out, ← HN2.out]; omega) b2.size
    have b3 : Below w0.heap.size w0 w2 := b2.grown hg2 b2.size (fun k hk => (ho1.lt k hk).1)
    try simp only [Act.put, List.setIfInBounds_toArray, List.set_cons_zero, List.set_cons_succ]
    refine rdL 6 (fun K hK => ?_)
    refine wp_app _ _ 83 rfl _ _ v2 w2 (by rfl) (by rfl) hr2 ?_
    refine hK.out _ _ (fun _ => HS.out _ b3) ?_
    clear hK K
    try simp only [Act.put, List.setIfInBounds_toArray, List.set_cons_zero, List.set_cons_succ]
    refine rdL 7 (fun K hK => ?_)
    go_simp
    refine hK.out _ _ (fun h => absurd rfl h) ?_
    clear hK K
    try simp only [Act.put, List.setIfInBounds_toArray, List.set_cons_zero, List.set_cons_succ]
    refine doneL ?_
    have hL2 : NLst w2 v2 (la ++ lb) := NLst.of_owns (base := w0.heap.size) (by
      rw [List.length_append, i64C_append]; exact ho2)
    have hm : (la ++ lb).length ≤ 1000 := by rw [List.length_append, ← HN1.out, ← HN2.out]; exact hl
    have q2 := (b3.block (w.heap.size + 2) (by rw [Z0.out]; omega)).trans HX2.out
    have r0 : w2.cell? ⟨w.heap.size + 2, 0, none⟩ = some (.int .i64 0) := by rw [Lib.cell_of_heap q2]; rfl
    have r1 : w2.cell? ⟨w.heap.size + 2, 1, none⟩ = some (.slice none 0 0) := by rw [Lib.cell_of_heap q2]; rfl
    have rf : ∀ j, w2.frozen? ⟨w.heap.size + 2, j, none⟩ = false := fun j => Lib.frozen_of_heap q2 j
    have BW : Hid (Below w.heap.size w w2) := B0.out.trans (b3.mono B0.out.size)
    have m2 := fit_any v2 (la ++ lb) 3 w2 hL2 hm
    have HL2 := hide hL2
    obtain ⟨xa, xc, rfl⟩ := hL2.shape
    have HC3 := HC2
    have HF : Hid (∀ x y, NLst ((w2.setCell ⟨w.heap.size + 2, 0, none⟩ x).setCell ⟨w.heap.size + 2, 1, none⟩ y) (.slice xa (la ++ lb).length xc) (la ++ lb)) := fun x y => HL2.out.set q2 (by decide) x y
    generalize (la ++ lb).length = M at *
    clear hm ho1 ho2 hg1 hg2 hr1 hr2 own0 b0 b1 b2 b3 hSS HS IA IB q2 HX2 Z0 hL2 HC2 HN1 HN2 HL2
    by_cases h9 : op < 9
    · have HE : Hid (C = .ok ⟨0, la ++ lb⟩) := by show _ = _; rw [HC3.out, if_pos h9]
      clear HC3 m2
      go_wp2
      refine bodyPost_ret (v := .tuple #[.agg #[.int .i64 0, .slice xa M xc], .int .i64 0]) (by simp [results, Tryz.results152, go_sem, *]) rfl ⟨⟨0, 0, _, _, _, rfl, ?_⟩, ?_⟩
      · rw [HE.out]; exact ⟨rfl, rfl, HF.out _ _⟩
      · exact set2 BW.out (by omega) _ _
    · have h9' : ¬ op < 9 := h9
      have HC4 : Hid (C = if fitN (la ++ lb) 3 = false then .error 1 else .ok (dT 1)) := by show _ = _; rw [HC3.out, if_neg h9]
      clear HC3 HF
      cases hf : fitN (la ++ lb) 3
      · rw [hf] at m2
        have HE : Hid (C = .error 1) := by show _ = _; rw [HC4.out, hf]; rfl
        clear hf HC4
        go_wp2_with (go_at_call 48; refine m2.mono ?_; rintro e w' ⟨rfl, rfl⟩)
        refine bodyPost_ret (v := .tuple #[.agg #[.int .i64 0, .slice none 0 0], .int .i64 1]) (by simp [results, Tryz.results152, go_sem, *]) rfl ⟨⟨0, 1, _, _, _, rfl, ?_⟩, ?_⟩
        · rw [HE.out]; exact ⟨rfl, by decide, rfl, NLst.nil _⟩
        · exact set2 BW.out (by omega) _ _
      · rw [hf] at m2
        have HE : Hid (C = .ok (dT 1)) := by show _ = _; rw [HC4.out, hf]; rfl
        clear hf HC4
        go_wp2_with (go_at_call 48; refine m2.mono ?_; rintro e w' ⟨rfl, rfl⟩)
        refine bodyPost_ret (v := .tuple #[.agg #[.int .i64 1, .slice none 0 0], .int .i64 0]) (by simp [results, Tryz.results152, go_sem, *]) rfl ⟨⟨1, 0, _, _, _, rfl, ?_⟩, ?_⟩
        · rw [HE.out]; exact ⟨rfl, rfl, NLst.nil _⟩
        · exact set2 BW.out (by omega) _ _
end Go.Proofs.YtldjiieckddhkaaGreatDoor
