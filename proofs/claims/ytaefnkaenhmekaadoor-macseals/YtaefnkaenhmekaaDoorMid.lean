/- Whole arrays loaded from and stored into the midst of a block, as rules that the walk can use inside a statement whose order is left open. -/
import Derived.Test.YtaefnkaenhmekaaDoorAdd
import Derived.Deep.DrawnRows
namespace Go.Proofs.YtaefnkaenhmekaaDoor
open Go.RowKit
def OkV (w : World) (n : Nat) : Value → Prop
  | .pointer (some ⟨b, o, none⟩) => ∃ cs : List Value, cs.length = n ∧ w.rangeAt b o cs
  | _ => False
def rdV (w : World) (n : Nat) : Value → Array Value
  | .pointer (some ⟨b, o, none⟩) => ((List.range n).map fun j => (w.cell? ⟨b, o + j, none⟩).getD undef).toArray
  | _ => #[]
def ThV (w : World) (n : Nat) (c : Array Value) : Value → Prop
  | .pointer (some ⟨b, o, none⟩) => w.there b o n ∧ c.size = n ∧ c.all (·.oneCell') = true
  | _ => False
def stV (w : World) (c : Array Value) : Value → World
  | .pointer (some ⟨b, o, none⟩) => w.setCells b o c.toList
  | _ => w
def aggC : Value → Array Value
  | .agg c => c
  | _ => #[]
def isAggV : Value → Bool
  | .agg _ => true
  | _ => false
theorem OkV_drew (w : World) (n : Nat) (v : Value) : OkV w.drew n v = OkV w n v := rfl
theorem rdV_drew (w : World) (n : Nat) (v : Value) : rdV w.drew n v = rdV w n v := rfl
theorem ThV_drew (w : World) (n : Nat) (c : Array Value) (v : Value) : ThV w.drew n c v = ThV w n c v := rfl
theorem aggC_agg (c : Array Value) : aggC (.agg c) = c := rfl
theorem isAggV_agg (c : Array Value) : isAggV (.agg c) = true := rfl
theorem stV_ptr (w : World) (c : Array Value) (b o : Nat) : stV w c (.pointer (some ⟨b, o, none⟩)) = w.setCells b o c.toList := rfl
theorem rdV_range {w : World} {b o : Nat} {cs : List Value} (h : w.rangeAt b o cs) : rdV w cs.length (.pointer (some ⟨b, o, none⟩)) = cs.toArray := by
  show ((List.range cs.length).map fun j => (w.cell? ⟨b, o + j, none⟩).getD undef).toArray = cs.toArray
  apply congrArg List.toArray
  apply List.ext_getElem?
  intro i
  rw [List.getElem?_map]
  by_cases hi : i < cs.length
  · rw [List.getElem?_range hi, List.getElem?_eq_getElem hi]
    simp [h i cs[i] (List.getElem?_eq_getElem hi)]
  · rw [List.getElem?_eq_none (by simp; omega), List.getElem?_eq_none (by omega)]; rfl
theorem OkV_range {w : World} {b o : Nat} {cs : List Value} (h : w.rangeAt b o cs) : OkV w cs.length (.pointer (some ⟨b, o, none⟩)) := ⟨cs, rfl, h⟩
theorem OkV_form {w : World} {n : Nat} {v : Value} (h : OkV w n v) : ∃ b o cs, v = .pointer (some ⟨b, o, none⟩) ∧ cs.length = n ∧ w.rangeAt b o cs := by
  match v, h with
  | .pointer (some ⟨b, o, none⟩), h => obtain ⟨cs, h1, h2⟩ := h; exact ⟨b, o, cs, rfl, h1, h2⟩
theorem ThV_form {w : World} {n : Nat} {c : Array Value} {v : Value} (h : ThV w n c v) : ∃ b o, v = .pointer (some ⟨b, o, none⟩) ∧ w.there b o n ∧ c.size = n ∧ c.all (·.oneCell') = true := by
  match v, h with
  | .pointer (some ⟨b, o, none⟩), h => exact ⟨b, o, rfl, h.1, h.2.1, h.2.2⟩
theorem wp_ld {P : Program} {ty : TypeId} {m : Nat} {e : TypeId} (n : Nat) (hu : P.underlying ty = some (.array m e)) (hi : (P.info? ty).map (·.size) = some n)
    {dst : Option Tmp} {ty' : TypeId} {x : Operand} {pos : String} {after : Array Edge} {gd : Option (Nat × Bool)} {a : Act} {w : World} {K : Act → World → Prop} {Q : Exit → Act → World → Prop} (h : OkV w n (a.eval x)) :
    Oper.wp P { dst := dst, op := .load ty x, type := ty', pos := pos, after := after, guard := gd } a w K Q = K (a.put dst (.agg (rdV w n (a.eval x)))) w := by
  obtain ⟨b, o, cs, hv, hl, hr⟩ := OkV_form h
  subst hl
  rw [hv, rdV_range hr]
  unfold Oper.wp execOp
  simp only [hv, Instr.loadAt, Instr.sureAddr, Sem.run_bind, Sem.run_pure, Result.andThen_ok, run_loadVar_mid w b o ty cs (.array m e) hr hu rfl hi]
  rfl
theorem wp_st {P : Program} {ty : TypeId} (n : Nat) (hi : (P.info? ty).map (·.size) = some n)
    {dst : Option Tmp} {ty' : TypeId} {x y : Operand} {pos : String} {after : Array Edge} {gd : Option (Nat × Bool)} {a : Act} {w : World} {K : Act → World → Prop} {Q : Exit → Act → World → Prop} (hy : isAggV (a.eval y) = true) (h : ThV w n (aggC (a.eval y)) (a.eval x)) :
    Oper.wp P { dst := dst, op := .store ty x y, type := ty', pos := pos, after := after, guard := gd } a w K Q = K (a.put dst undef) (stV w (aggC (a.eval y)) (a.eval x)) := by
  obtain ⟨b, o, hv, ht, hs, h1⟩ := ThV_form h
  obtain ⟨c, hc⟩ : ∃ c, a.eval y = .agg c := by
    cases he : a.eval y with
    | agg c => exact ⟨c, rfl⟩
    | _ => rw [he] at hy; cases hy
  rw [hc] at hs h1 ⊢
  rw [hv, stV_ptr, aggC_agg]
  rw [aggC_agg] at hs h1
  unfold Oper.wp execOp
  simp only [hv, hc, Instr.storeAt, Instr.sureAddr, Sem.run_bind, Sem.run_pure, Result.andThen_ok, run_storeVar_mid w b o ty c (by rw [hs]; exact ht) (by rw [hs]; exact hi) h1]
  rfl
end Go.Proofs.YtaefnkaenhmekaaDoor
