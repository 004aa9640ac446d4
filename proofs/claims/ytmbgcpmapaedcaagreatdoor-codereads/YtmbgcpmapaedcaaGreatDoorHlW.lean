/- Short forms of the kit's laws on drawn regions. -/
import Derived.Deep.RegionHeldLaw
namespace Go.Proofs.YtmbgcpmapaedcaaGreatDoor
theorem tkH {P : Program} {ops : Array Oper} {Q : Exit → Act → World → Prop} {md : Region.Mode} {S : World → Prop} (i : Nat) {d : Option Tmp} {o : Op} {t : TypeId} {p : String} {f : Array Edge} {fuel : Nat} {listed : Array Bool} {a : Act} {w : World} (v : Value) (hS : S w)
    (h : wpAnyH P md ops Q S fuel (listed.setIfInBounds i true) (a.put d v) w) (hi : ops[i]? = some ⟨d, o, t, p, f, none⟩ := by rfl) (hs : Region.noSelect ops = true := by kernel_rfl) (hf : Region.free md ops listed i = true := by kernel_rfl)
    (hr : (Region.ready md ops listed).contains i = true := by kernel_rfl) (hQ : ∀ c a w, Q (.panic c) (a.put d v) w → Q (.panic c) a w := by exact fun _ _ _ h => h) (hy : YieldsIf P ops S ⟨d, o, t, p, f, none⟩ v a := by exact Or.inl ⟨by rfl, fun W hW => by ((try dsimp only at hW); go_simp)⟩) :
    wpAnyH P md ops Q S (fuel + 1) listed a w := wpAnyH_take hi hs hf hr hQ hy hS h
theorem rdH {P : Program} {ops : Array Oper} {Q : Exit → Act → World → Prop} {md : Region.Mode} {S : World → Prop} (i : Nat) {d : Option Tmp} {o : Op} {t : TypeId} {p : String} {f : Array Edge} {fuel : Nat} {listed : Array Bool} {a : Act} {w : World}
    (h : ∀ K' : Act → World → Prop, Shut (∀ a w, S w → (S w → wpAnyH P md ops Q S fuel (listed.setIfInBounds i true) a w) → K' a w) → if Region.wanted (⟨d, o, t, p, f, none⟩ : Oper) (yielded ops a.tmps) = true then Oper.wp P ⟨d, o, t, p, f, none⟩ a w K' Q else K' (a.put d undef) w)
    (hi : ops[i]? = some ⟨d, o, t, p, f, none⟩ := by rfl) (hr : Region.ready md ops listed = [i] := by kernel_rfl) : wpAnyH P md ops Q S (fuel + 1) listed a w :=
  wpAnyH_ready hr (by simp) (AllReadyH.cons hi h AllReadyH.nil)
end Go.Proofs.YtmbgcpmapaedcaaGreatDoor
