/- The contract of wire.readList. | errors.As at the program's two error types: closed facts on the entries of internal/reflectlite, and laws on those that touch memory (after the guide's worked example Toyas). -/
import Derived.Test.YtmbgcpmapaedcaaGreatDoorMg16
import Derived.Deep.AppendLies
import Derived.OwnWalk
import Derived.Deep.DeepMust
import Derived.Test.YtmbgcpmapaedcaaGreatDoorProg
import Derived.WalkKit
import Derived.LaidEql
import Derived.Stop.Asserts
import Derived.RowKitTokens
namespace Go.Proofs.YtmbgcpmapaedcaaGreatDoor.Wi
open Go.RowKit
theorem in38 : (Tryz.prog.info? 61).map (fun i => (i.zero, i.size, i.bytes)) = some (some (.agg #[.bool false, .int .i64 0, .string ⟨#[]⟩]), 3, 32) := by kernel_rfl
theorem owns_below {w w' : World} {base e size n : Nat} {v : Value} {xs : List Value} (h : w.ownsRow base e size v n xs) (hb : Below w.heap.size w w') : w'.ownsRow base e size v n xs :=
  h.kept (row := none) ⟨hb.os, hb.tape, hb.output, hb.size, fun k hk _ => hb.block k hk⟩ (by cases hv : v.ownBlock <;> simp)
/-- what readList leaves -/
def RL (B : List UInt8) (base : Nat) (w' : World) (v er : Value) : Prop :=
  ∃ (l : List It) (p : Nat) (c : Int), decB B = (l, p, c) ∧
    ((c = 0 ∧ p = 0 ∧ er = .nilIface ∧ w'.ownsRow base 61 3 v l.length (itsC l)) ∨
     (c ≠ 0 ∧ l = [] ∧ v = .slice none 0 0 ∧ ((er = .iface 122 (.int .i64 c) ∧ p = 0) ∨ er = .iface 121 (.agg #[.int .i64 (p : Int), .iface 122 (.int .i64 c)]))))
set_option maxRecDepth 100000 in
set_option maxHeartbeats 3200000 in
theorem readList_any (s : ByteArray) (hs : s.size ≤ 140737488355328) (w : World) :
    Calls Tryz.prog 60 #[.string s] w fun e w' => ∃ v er, e = .returned (.tuple #[v, er]) ∧ RL s.data.toList w.heap.size w' v er ∧ Below w.heap.size w w' := by
  have cc := readCount_any s hs w
  have hl := text_len s
  unfold cntOut at cc
  by_cases h1 : 65536 < s.data.toList.length
  · rw [if_pos h1] at cc
    have hr : Hid (∀ w', RL s.data.toList w.heap.size w' (.slice none 0 0) (.iface 122 (.int .i64 2))) := fun w' => ⟨[], 0, 2, decB_long _ h1, .inr ⟨by decide, rfl, rfl, .inl ⟨rfl, rfl⟩⟩⟩
    clear h1 hl hs
    go_enter Tryz.func60, Tryz.ntmps60
    go_wp2_with fail
    refine cc.mono ?_
    rintro e w1 ⟨rfl, hb1⟩
    have B1 := hide hb1
    clear hb1 cc
    go_wp2
    go_ret2
    exact ⟨_, _, rfl, hr.out _, B1.out⟩
  rw [if_neg h1] at cc
  by_cases h2 : s.data.toList.length < 2
  · rw [if_pos h2] at cc
    have hr : Hid (∀ w', RL s.data.toList w.heap.size w' (.slice none 0 0) (.iface 122 (.int .i64 30))) := fun w' => ⟨[], 0, 30, decB_short _ h1 h2, .inr ⟨by decide, rfl, rfl, .inl ⟨rfl, rfl⟩⟩⟩
    clear h1 h2 hl hs
    go_enter Tryz.func60, Tryz.ntmps60
    go_wp2_with fail
    refine cc.mono ?_
    rintro e w1 ⟨rfl, hb1⟩
    have B1 := hide hb1
    clear hb1 cc
    go_wp2
    go_ret2
    exact ⟨_, _, rfl, hr.out _, B1.out⟩
  rw [if_neg h2] at cc
  by_cases h3 : 1000 < manyB s.data.toList
  · rw [if_pos h3] at cc
    have hr : Hid (∀ w', RL s.data.toList w.heap.size w' (.slice none 0 0) (.iface 122 (.int .i64 2))) := fun w' => ⟨[], 0, 2, decB_many _ h1 h2 h3, .inr ⟨by decide, rfl, rfl, .inl ⟨rfl, rfl⟩⟩⟩
    clear h1 h2 h3 hl hs
    go_enter Tryz.func60, Tryz.ntmps60
    go_wp2_with fail
    refine cc.mono ?_
    rintro e w1 ⟨rfl, hb1⟩
    have B1 := hide hb1
    clear hb1 cc
    go_wp2
    go_ret2
    exact ⟨_, _, rfl, hr.out _, B1.out⟩
  rw [if_neg h3] at cc
  have HE := hide (decB_err s.data.toList h1 h2 h3)
  have HM := hide (decB_more s.data.toList h1 h2 h3)
  have HO := hide (decB_ok s.data.toList h1 h2 h3)
  obtain ⟨N, hN⟩ : ∃ N, N = manyB s.data.toList := ⟨_, rfl⟩
  rw [← hN] at cc HE HM HO h3
  clear hN
  have n1 : (N : Int) ≤ 1000 := by omega
  have n0 : (0 : Int) ≤ (N : Int) := by omega
  have sz : s.size ≤ 65536 := by omega
  have sz2 : 2 ≤ s.size := by omega
  obtain ⟨i0, hi, hz0, hz1, hz2⟩ := info_parts in38
  have hmk : ∀ u : World, (Instr.makeSlice 45 (.int .i64 0) (.int .i64 (N : Int))).run Tryz.prog u =
      .ok (.slice (some ⟨u.heap.size, 0, none⟩) 0 N) (u.alloc (.cells (madeCells #[.bool false, .int .i64 0, .string ⟨#[]⟩] (N * 3)) 61)) := fun u => by
    have h := run_make (P := Tryz.prog) u 45 61 i0 _ Tryz.underlying45 hi hz0 .i64 .i64 0 (N : Int) (by omega) (by omega) (by rw [hz2]; omega) (by omega)
    simpa [Value.cells, hz1] using h
  have hMs : (madeCells #[.bool false, .int .i64 0, .string ⟨#[]⟩] (N * 3)).size = N * 3 := by simp [madeCells]
  generalize madeCells #[Value.bool false, .int .i64 0, .string ⟨#[]⟩] (N * 3) = M at *
  have HS : Hid (s.size ≤ 65536 ∧ 2 ≤ s.size) := ⟨sz, sz2⟩
  have HL := hide hl
  have H3 := hide h3
  clear h1 h2 hs sz sz2 hl h3
  go_enter Tryz.func60, Tryz.ntmps60
  go_wp2_with fail
  refine cc.mono ?_
  rintro e w1 ⟨rfl, hb1⟩
  have B1 := hide hb1
  clear hb1 cc
  go_wp2_with fail
  have hst : (w1.alloc (.cells M 61)).ownsRow w.heap.size 61 3 (.slice (some ⟨w1.heap.size, 0, none⟩) 0 N) 0 [] :=
    World.ownsRow_made w1 _ _ B1.out.size (by unfold maxLen; omega) hMs
  have Hst := hide hst
  clear hst hmk
  go_loopw [6, 7, 21] (fun v a i wr => ∃ (k g cap at' : Nat) (l : List It), k ≤ N ∧ l.length = k ∧ i = .int .i64 k ∧ a = .int .i64 at' ∧ v = .slice (some ⟨g, 0, none⟩) k cap ∧ at' ≤ s.size ∧
      rds N (s.data.toList.drop 2) = rdsC l (rds (N - k) (s.data.toList.drop at')) ∧ wr.ownsRow w.heap.size 61 3 (.slice (some ⟨g, 0, none⟩) k cap) k (itsC l) ∧ Below w.heap.size w wr) (fun _ _ i _ => N - (intOf i).toNat)
  case atStart => exact ⟨0, _, _, 2, [], by omega, rfl, rfl, rfl, rfl, HS.out.2, (rdsC_nil _).symm, Hst.out, B1.out.alloc B1.out.size _⟩
  case round =>
    clear Hst B1
    obtain ⟨k, g, cap, at', l, hk, hlk, rfl, rfl, rfl, hat, hrel, hown, hbel⟩ := hrel
    have HR := hide hrel
    have HW := hide hown
    have HB := hide hbel
    clear hrel hown hbel
    by_cases hlt : k < N
    · have j1 : (k : Int) < (N : Int) := by omega
      have j2 : (0 : Int) ≤ (at' : Int) := by omega
      have j3 : (at' : Int) ≤ (s.size : Int) := by omega
      have x1 := slice_from s at' hat
      have c1 := fun W => readItem_any ⟨(s.data.toList.drop at').toArray⟩ (by rw [list_size, List.length_drop, HL.out]; have := HS.out; omega) W
      have hD : (⟨(s.data.toList.drop at').toArray⟩ : ByteArray).data.toList = s.data.toList.drop at' := rfl
      rw [hD] at c1
      generalize (⟨(s.data.toList.drop at').toArray⟩ : ByteArray) = u at *
      clear hD
      cases hrd : rd (s.data.toList.drop at') with
      | error e =>
        rw [hrd] at c1
        have hr : Hid (∀ w', RL s.data.toList w.heap.size w' (.slice none 0 0) (.iface 121 (.agg #[.int .i64 (at' : Int), .iface 122 (.int .i64 e)]))) := fun w' => by
          have h1 := HR.out
          rw [show N - k = (N - k - 1) + 1 from by omega, rdsC_err _ _ _ _ hrd] at h1
          have h2 := HE.out _ _ h1
          rw [List.length_drop, HL.out, show s.size - (s.size - at') = at' from by omega] at h2
          exact ⟨[], at', e, h2, .inr ⟨by rcases rd_err hrd with h | h <;> omega, rfl, rfl, .inr rfl⟩⟩
        simp only [rdOut] at c1
        clear hrd HR HW
        go_wp2_with fail
        refine (c1 _).mono ?_
        rintro e' w2 ⟨rfl, hb2⟩
        have B2 : Hid (Below w.heap.size w w2) := HB.out.trans (hb2.mono HB.out.size)
        clear hb2 c1
        go_wp2
        go_ret2
        exact ⟨_, _, rfl, hr.out _, B2.out.alloc B2.out.size _⟩
      | ok q =>
        obtain ⟨x, r'⟩ := q
        rw [hrd] at c1
        obtain ⟨ha, hm, hf⟩ := rd_ok hrd
        have hxs : x.s.size ≤ 65535 := by
          obtain ⟨t, n, u⟩ := x
          cases t with
          | true =>
            have h : decide (n = 0) = true ∧ decide (u.size ≤ 65535) = true := by simpa only [mayB, if_true, Bool.and_eq_true] using hm
            exact of_decide_eq_true h.2
          | false =>
            have h : u.size = 0 := of_decide_eq_true (show decide (u.size = 0) = true from hm)
            show u.size ≤ 65535
            omega
        have hlen : (s.data.toList.drop at').length = ib x + r'.length := by rw [ha, List.length_append, oneB_length]
        rw [List.length_drop, HL.out] at hlen
        have hdr : s.data.toList.drop (at' + ib x) = r' := by
          rw [← List.drop_drop, ha, ← oneB_length]; exact List.drop_left
        have HR2 : Hid (rds N (s.data.toList.drop 2) = rdsC (l ++ [x]) (rds (N - (k + 1)) (s.data.toList.drop (at' + ib x)))) := by
          have h1 := HR.out
          rw [show N - k = (N - (k + 1)) + 1 from by omega, rdsC_ok _ _ _ _ _ hrd] at h1
          rw [hdr]; exact h1
        have c2 := fun W => itemBytes_any x (by omega) W
        have hib : at' + ib x ≤ s.size := by omega
        have HX : Hid (itC x = [.bool x.t, .int .i64 x.n, .string x.s]) := rfl
        simp only [rdOut] at c1
        unfold itA at c1 c2
        have i5 : (at' : Int) + (ib x : Int) ≤ 1000000 := by have := HS.out; omega
        have i6 : (0 : Int) ≤ (ib x : Int) := by omega
        clear hrd HR ha hm hf hlen hdr
        generalize ib x = y at *
        generalize x.t = xt at *
        generalize x.n = xn at *
        generalize x.s = xss at *
        go_wp2_with fail
        refine (c1 _).mono ?_
        rintro e' w2 ⟨rfl, hb2⟩
        have B2 : Hid (Below w.heap.size w w2) := HB.out.trans (hb2.mono HB.out.size)
        have W2 : Hid (w2.ownsRow w.heap.size 61 3 (.slice (some ⟨g, 0, none⟩) k cap) k (itsC l)) := owns_below HW.out hb2
        clear hb2 c1 HW HB
        have hgl : g < w2.heap.size := (W2.out.lt g rfl).2
        go_wp2_with (at_builtin; go_must (refine wpList_append_lies _ (by rfl) _ _ _ (by rfl) w.heap.size 61 i0 _ 3 32 Tryz.underlying45 hi hz0 hz1 hz2 rfl (by omega) (.slice (some ⟨g, 0, none⟩) k cap) k _ (by rfl) ((W2.out.alloc _).alloc _) ⟨w2.heap.size + 1, 0, none⟩ 1 1 [.bool xt, .int .i64 xn, .string xss] (by rfl) (by rfl) (World.news_of_block (cs := #[.bool xt, .int .i64 xn, .string xss]) (t := 61) (fr := (0, 0)) (by have := heap_alloc_new (w2.alloc (.cells #[.bool xt, .int .i64 xn, .string xss] 61)) (.cells #[.bool xt, .int .i64 xn, .string xss] 61); simpa using this)) (by simp [Value.oneCell']) (by omega) (by unfold maxLen; omega) (by omega) (by have := B2.out.size; simp; omega) (w2.heap.size + 1 + 1) (by simp) ?_; intro gg cap' w3 hown3 hgrow hat3 hlt3; have e0 : w3.cell? ⟨w2.heap.size, 0, none⟩ = some (.bool xt) := hgrow.cell (a := ⟨w2.heap.size, 0, none⟩) (by simp [go_sem]) (by simp [Value.ownBlock]; omega); have e1 : w3.cell? ⟨w2.heap.size, 1, none⟩ = some (.int .i64 xn) := hgrow.cell (a := ⟨w2.heap.size, 1, none⟩) (by simp [go_sem]) (by simp [Value.ownBlock]; omega); have e2 : w3.cell? ⟨w2.heap.size, 2, none⟩ = some (.string xss) := hgrow.cell (a := ⟨w2.heap.size, 2, none⟩) (by simp [go_sem]) (by simp [Value.ownBlock]; omega); have B3 : Hid (Below w.heap.size w w3) := ((B2.out.alloc B2.out.size _).alloc (by have := B2.out.size; simp; omega) _).grown hgrow (by have := B2.out.size; simp; omega) (fun r hr => (W2.out.lt r hr).1); have W3 := hide hown3; clear hown3 hgrow hat3 hlt3))
        refine (c2 _).mono ?_
        rintro e' w4 ⟨rfl, hb4⟩
        have B4 : Hid (Below w.heap.size w w4) := B3.out.trans (hb4.mono B3.out.size)
        have W4 := hide (owns_below W3.out hb4)
        clear hb4 c2 W3 B3 e0 e1 e2 W2 B2
        go_wp2
        go_roundw
        case rel => exact ⟨k + 1, gg, cap', at' + y, l ++ [x], by omega, by rw [List.length_append, hlk]; rfl, by go_num, by go_num, rfl, hib, HR2.out, by rw [itsC_append, show itsC [x] = itC x from List.append_nil _, HX.out]; exact W4.out, B4.out⟩
        case measure => simp [intOf]; omega
    · obtain rfl : k = N := by omega
      have hfin : rds k (s.data.toList.drop 2) = .ok (l, s.data.toList.drop at') := by
        have h1 := HR.out
        rw [Nat.sub_self, rds] at h1
        rw [h1]; show Except.ok (l ++ [], _) = _; rw [List.append_nil]
      clear HR HE
      by_cases hmo : at' < s.size
      · have hr : Hid (∀ w', RL s.data.toList w.heap.size w' (.slice none 0 0) (.iface 121 (.agg #[.int .i64 (at' : Int), .iface 122 (.int .i64 31)]))) := fun w' => by
          have h2 := HM.out _ _ hfin (fun h => by have := congrArg List.length h; rw [List.length_drop, HL.out, List.length_nil] at this; omega)
          rw [List.length_drop, HL.out, show s.size - (s.size - at') = at' from by omega] at h2
          exact ⟨[], at', 31, h2, .inr ⟨by decide, rfl, rfl, .inr rfl⟩⟩
        have j3 : (at' : Int) < (s.size : Int) := by omega
        clear hfin HM HO hmo HW hat
        go_wp2
        go_ret2
        exact ⟨_, _, rfl, hr.out _, HB.out⟩
      · have hr : Hid (RL s.data.toList w.heap.size wr (.slice (some ⟨g, 0, none⟩) k cap) .nilIface) := by
          have hnil : s.data.toList.drop at' = [] := List.eq_nil_of_length_eq_zero (by rw [List.length_drop, HL.out]; omega)
          rw [hnil] at hfin
          refine ⟨l, 0, 0, HO.out _ hfin, .inl ⟨rfl, rfl, rfl, ?_⟩⟩
          rw [hlk]; exact HW.out
        have j3 : ¬ (at' : Int) < (s.size : Int) := by omega
        clear hfin HM HO hmo HW hat
        go_wp2
        go_ret2
        exact ⟨_, _, rfl, hr.out, HB.out⟩
end Go.Proofs.YtmbgcpmapaedcaaGreatDoor.Wi
namespace Go.Proofs.YtmbgcpmapaedcaaGreatDoor.Wi
open Go.RowKit Go.Extern.Stop Go.Stop Go.Extern
theorem valueOf63 (t : Addr) (w : World) : (ReflectliteValue.unpack (.iface 124 (.pointer (some t)))).run Tryz.prog w
    = .ok (.agg #[.pointer (some ⟨6, 124, none⟩), .pointer (some ⟨w.heap.size, 0, none⟩), .int .u64 150]) (w.alloc (.cells #[.pointer (some t)] 124)) := by kernel_rfl
theorem valueOf64 (t : Addr) (w : World) : (ReflectliteValue.unpack (.iface 125 (.pointer (some t)))).run Tryz.prog w
    = .ok (.agg #[.pointer (some ⟨6, 125, none⟩), .pointer (some ⟨w.heap.size, 0, none⟩), .int .u64 150]) (w.alloc (.cells #[.pointer (some t)] 125)) := by kernel_rfl
theorem valueOf61 (c : Int) (w : World) : (ReflectliteValue.unpack (.iface 122 (.int .i64 c))).run Tryz.prog w
    = .ok (.agg #[.pointer (some ⟨6, 122, none⟩), .pointer (some ⟨w.heap.size, 0, none⟩), .int .u64 130]) (w.alloc (.cells #[.int .i64 c] 122)) := by kernel_rfl
theorem valueOf60 (p : Int) (v : Value) (w : World) : (ReflectliteValue.unpack (.iface 121 (.agg #[.int .i64 p, v]))).run Tryz.prog w
    = .ok (.agg #[.pointer (some ⟨6, 121, none⟩), .pointer (some ⟨w.heap.size, 0, none⟩), .int .u64 153]) (w.alloc (.cells #[.int .i64 p, v] 121)) := by kernel_rfl
theorem type63 (a : Addr) (w : World) : (ReflectliteValue.methodAny (ReflectliteValue.valueError "reflectlite.Value.Type" 0) (fun t _ _ _ => ReflectliteType.toType t) #[.agg #[.pointer (some ⟨6, 124, none⟩), .pointer (some a), .int .u64 150]]).run Tryz.prog w
    = .ok (.iface 174 (.agg #[.pointer (some ⟨6, 124, none⟩)])) w := by kernel_rfl
theorem type64 (a : Addr) (w : World) : (ReflectliteValue.methodAny (ReflectliteValue.valueError "reflectlite.Value.Type" 0) (fun t _ _ _ => ReflectliteType.toType t) #[.agg #[.pointer (some ⟨6, 125, none⟩), .pointer (some a), .int .u64 150]]).run Tryz.prog w
    = .ok (.iface 174 (.agg #[.pointer (some ⟨6, 125, none⟩)])) w := by kernel_rfl
theorem methodKind (h : Value) (w : World) : (Go.method 320 174 (.agg #[h]) "Kind").run Tryz.prog w = .ok (160, h) w := by kernel_rfl
theorem methodElem (h : Value) (w : World) : (Go.method 320 174 (.agg #[h]) "Elem").run Tryz.prog w = .ok (172, .agg #[h]) w := by kernel_rfl
theorem methodImplements (h : Value) (w : World) : (Go.method 320 174 (.agg #[h]) "Implements").run Tryz.prog w = .ok (173, .agg #[h]) w := by kernel_rfl
theorem methodAssignableTo (h : Value) (w : World) : (Go.method 320 174 (.agg #[h]) "AssignableTo").run Tryz.prog w = .ok (170, .agg #[h]) w := by kernel_rfl
theorem methodUnwrap (x y : Value) (w : World) : (Go.method 320 121 (.agg #[x, y]) "Unwrap").run Tryz.prog w = .ok (164, .agg #[x, y]) w := by kernel_rfl
theorem kind63 (w : World) : ((ReflectliteType.abiMethod fun t => (fun a : Nat => Value.int IntKind.u8 (a : Int)) <$> Rtype.kind t) #[.pointer (some ⟨6, 124, none⟩)]).run Tryz.prog w = .ok (.int .u8 22) w := by kernel_rfl
theorem kind64 (w : World) : ((ReflectliteType.abiMethod fun t => (fun a : Nat => Value.int IntKind.u8 (a : Int)) <$> Rtype.kind t) #[.pointer (some ⟨6, 125, none⟩)]).run Tryz.prog w = .ok (.int .u8 22) w := by kernel_rfl
theorem kind61 (w : World) : ((ReflectliteType.abiMethod fun t => (fun a : Nat => Value.int IntKind.u8 (a : Int)) <$> Rtype.kind t) #[.pointer (some ⟨6, 122, none⟩)]).run Tryz.prog w = .ok (.int .u8 2) w := by kernel_rfl
theorem kind60 (w : World) : ((ReflectliteType.abiMethod fun t => (fun a : Nat => Value.int IntKind.u8 (a : Int)) <$> Rtype.kind t) #[.pointer (some ⟨6, 121, none⟩)]).run Tryz.prog w = .ok (.int .u8 25) w := by kernel_rfl
theorem elem63 (w : World) : (ReflectliteType.method ReflectliteType.elem #[.agg #[.pointer (some ⟨6, 124, none⟩)]]).run Tryz.prog w = .ok (.iface 174 (.agg #[.pointer (some ⟨6, 122, none⟩)])) w := by kernel_rfl
theorem elem64 (w : World) : (ReflectliteType.method ReflectliteType.elem #[.agg #[.pointer (some ⟨6, 125, none⟩)]]).run Tryz.prog w = .ok (.iface 174 (.agg #[.pointer (some ⟨6, 121, none⟩)])) w := by kernel_rfl
theorem implements61 (w : World) : (ReflectliteType.relation "Implements" ReflectliteType.implements_ #[.agg #[.pointer (some ⟨6, 122, none⟩)], .iface 174 (.agg #[.pointer (some ⟨6, 90, none⟩)])]).run Tryz.prog w = .ok (.bool true) w := by kernel_rfl
theorem implements60 (w : World) : (ReflectliteType.relation "Implements" ReflectliteType.implements_ #[.agg #[.pointer (some ⟨6, 121, none⟩)], .iface 174 (.agg #[.pointer (some ⟨6, 90, none⟩)])]).run Tryz.prog w = .ok (.bool true) w := by kernel_rfl
theorem typeOf61 (v : Value) (w : World) : (ReflectliteType.typeOf #[.iface 122 v]).run Tryz.prog w = .ok (.iface 174 (.agg #[.pointer (some ⟨6, 122, none⟩)])) w := by kernel_rfl
theorem typeOf60 (v : Value) (w : World) : (ReflectliteType.typeOf #[.iface 121 v]).run Tryz.prog w = .ok (.iface 174 (.agg #[.pointer (some ⟨6, 121, none⟩)])) w := by kernel_rfl
theorem assignable6161 (w : World) : (ReflectliteType.relation "AssignableTo" ReflectliteType.assignableTo #[.agg #[.pointer (some ⟨6, 122, none⟩)], .iface 174 (.agg #[.pointer (some ⟨6, 122, none⟩)])]).run Tryz.prog w = .ok (.bool true) w := by kernel_rfl
theorem assignable6060 (w : World) : (ReflectliteType.relation "AssignableTo" ReflectliteType.assignableTo #[.agg #[.pointer (some ⟨6, 121, none⟩)], .iface 174 (.agg #[.pointer (some ⟨6, 121, none⟩)])]).run Tryz.prog w = .ok (.bool true) w := by kernel_rfl
theorem assignable6061 (w : World) : (ReflectliteType.relation "AssignableTo" ReflectliteType.assignableTo #[.agg #[.pointer (some ⟨6, 121, none⟩)], .iface 174 (.agg #[.pointer (some ⟨6, 122, none⟩)])]).run Tryz.prog w = .ok (.bool false) w := by kernel_rfl
theorem assignable6160 (w : World) : (ReflectliteType.relation "AssignableTo" ReflectliteType.assignableTo #[.agg #[.pointer (some ⟨6, 122, none⟩)], .iface 174 (.agg #[.pointer (some ⟨6, 121, none⟩)])]).run Tryz.prog w = .ok (.bool false) w := by kernel_rfl
theorem parts63 (a : Addr) (w : World) : (ReflectliteValue.parts (.agg #[.pointer (some ⟨6, 124, none⟩), .pointer (some a), .int .u64 150])).run Tryz.prog w = .ok (some (124, a, 150)) w := by kernel_rfl
theorem parts64 (a : Addr) (w : World) : (ReflectliteValue.parts (.agg #[.pointer (some ⟨6, 125, none⟩), .pointer (some a), .int .u64 150])).run Tryz.prog w = .ok (some (125, a, 150)) w := by kernel_rfl
theorem isNil63 (a p : Addr) (W : World) (ha : W.cell? a = some (.pointer (some p))) :
    (ReflectliteValue.method (ReflectliteValue.valueError "reflectlite.Value.IsNil" 0) ReflectliteValue.isNil #[.agg #[.pointer (some ⟨6, 124, none⟩), .pointer (some a), .int .u64 150]]).run Tryz.prog W = .ok (.bool false) W := by
  show (ReflectliteValue.parts (.agg #[.pointer (some ⟨6, 124, none⟩), .pointer (some a), .int .u64 150]) >>= _).run Tryz.prog W = _
  simp only [Sem.run_bind, parts63, Result.andThen]
  simp [ReflectliteValue.isNil, loadVar, isAgg, underlying, Tryz.underlying124, ha, Result.andThen]
theorem isNil64 (a p : Addr) (W : World) (ha : W.cell? a = some (.pointer (some p))) :
    (ReflectliteValue.method (ReflectliteValue.valueError "reflectlite.Value.IsNil" 0) ReflectliteValue.isNil #[.agg #[.pointer (some ⟨6, 125, none⟩), .pointer (some a), .int .u64 150]]).run Tryz.prog W = .ok (.bool false) W := by
  show (ReflectliteValue.parts (.agg #[.pointer (some ⟨6, 125, none⟩), .pointer (some a), .int .u64 150]) >>= _).run Tryz.prog W = _
  simp only [Sem.run_bind, parts64, Result.andThen]
  simp [ReflectliteValue.isNil, loadVar, isAgg, underlying, Tryz.underlying125, ha, Result.andThen]
theorem elemOf63 (w : World) : (Rtype.elem? 124).run Tryz.prog w = .ok (some 122) w := by kernel_rfl
theorem elemOf64 (w : World) : (Rtype.elem? 125).run Tryz.prog w = .ok (some 121) w := by kernel_rfl
theorem mk61 (p : Addr) (w : World) : (ReflectliteValue.mk 122 p ReflectliteValue.flagAddr).run Tryz.prog w = .ok (.agg #[.pointer (some ⟨6, 122, none⟩), .pointer (some p), .int .u64 386]) w := by kernel_rfl
theorem mk60 (p : Addr) (w : World) : (ReflectliteValue.mk 121 p ReflectliteValue.flagAddr).run Tryz.prog w = .ok (.agg #[.pointer (some ⟨6, 121, none⟩), .pointer (some p), .int .u64 409]) w := by kernel_rfl
theorem elemV63 (a p : Addr) (W : World) (ha : W.cell? a = some (.pointer (some p))) :
    (ReflectliteValue.method (ReflectliteValue.valueError "reflectlite.Value.Elem" 0) ReflectliteValue.elem #[.agg #[.pointer (some ⟨6, 124, none⟩), .pointer (some a), .int .u64 150]]).run Tryz.prog W
      = .ok (.agg #[.pointer (some ⟨6, 122, none⟩), .pointer (some p), .int .u64 386]) W := by
  show (ReflectliteValue.parts (.agg #[.pointer (some ⟨6, 124, none⟩), .pointer (some a), .int .u64 150]) >>= _).run Tryz.prog W = _
  simp only [Sem.run_bind, parts63, Result.andThen]
  simp [ReflectliteValue.elem, loadVar, isAgg, underlying, Tryz.underlying124, ha, Result.andThen, elemOf63, mk61]
theorem elemV64 (a p : Addr) (W : World) (ha : W.cell? a = some (.pointer (some p))) :
    (ReflectliteValue.method (ReflectliteValue.valueError "reflectlite.Value.Elem" 0) ReflectliteValue.elem #[.agg #[.pointer (some ⟨6, 125, none⟩), .pointer (some a), .int .u64 150]]).run Tryz.prog W
      = .ok (.agg #[.pointer (some ⟨6, 121, none⟩), .pointer (some p), .int .u64 409]) W := by
  show (ReflectliteValue.parts (.agg #[.pointer (some ⟨6, 125, none⟩), .pointer (some a), .int .u64 150]) >>= _).run Tryz.prog W = _
  simp only [Sem.run_bind, parts64, Result.andThen]
  simp [ReflectliteValue.elem, loadVar, isAgg, underlying, Tryz.underlying125, ha, Result.andThen, elemOf64, mk60]
theorem parts61a (a : Addr) (w : World) : (ReflectliteValue.parts (.agg #[.pointer (some ⟨6, 122, none⟩), .pointer (some a), .int .u64 386])).run Tryz.prog w = .ok (some (122, a, 386)) w := by kernel_rfl
theorem parts61 (a : Addr) (w : World) : (ReflectliteValue.parts (.agg #[.pointer (some ⟨6, 122, none⟩), .pointer (some a), .int .u64 130])).run Tryz.prog w = .ok (some (122, a, 130)) w := by kernel_rfl
theorem parts60a (a : Addr) (w : World) : (ReflectliteValue.parts (.agg #[.pointer (some ⟨6, 121, none⟩), .pointer (some a), .int .u64 409])).run Tryz.prog w = .ok (some (121, a, 409)) w := by kernel_rfl
theorem parts60 (a : Addr) (w : World) : (ReflectliteValue.parts (.agg #[.pointer (some ⟨6, 121, none⟩), .pointer (some a), .int .u64 153])).run Tryz.prog w = .ok (some (121, a, 153)) w := by kernel_rfl
theorem direct61 (w : World) : (Rtype.directlyAssignable 122 122).run Tryz.prog w = .ok true w := by kernel_rfl
theorem direct60 (w : World) : (Rtype.directlyAssignable 121 121).run Tryz.prog w = .ok true w := by kernel_rfl
theorem set61 (ta b : Addr) (c : Int) (old : Value) (W : World) (hb : W.cell? b = some (.int .i64 c)) (ht : W.cell? ta = some old) (hf : W.frozen? ta = false) :
    (ReflectliteValue.set #[.agg #[.pointer (some ⟨6, 122, none⟩), .pointer (some ta), .int .u64 386], .agg #[.pointer (some ⟨6, 122, none⟩), .pointer (some b), .int .u64 130]]).run Tryz.prog W
      = .ok (.tuple #[]) (W.setCell ta (.int .i64 c)) := by
  show (ReflectliteValue.parts (.agg #[.pointer (some ⟨6, 122, none⟩), .pointer (some ta), .int .u64 386]) >>= fun p => ReflectliteValue.parts (.agg #[.pointer (some ⟨6, 122, none⟩), .pointer (some b), .int .u64 130]) >>= fun q => _).run Tryz.prog W = _
  simp only [Sem.run_bind, parts61a, parts61, Result.andThen]
  simp [ReflectliteValue.flagAddr, loadVar, isAgg, underlying, Tryz.underlying122, hb, Result.andThen, direct61, storeVar, Value.cells, storeCells, Addr.add]
  rw [run_store Tryz.prog W ta _ _ (by rfl)]
  simp [ht, hf]
end Go.Proofs.YtmbgcpmapaedcaaGreatDoor.Wi
