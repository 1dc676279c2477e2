/- Words for listed variables: an array of texts that its initialiser lays is so many cells. Plain lemmas over the library; no conditions but those that each names. -/
import Derived.OpenShut
import Derived.ChangeArms
import Derived.ChangeBears2
set_option linter.unusedVariables false
set_option linter.unusedSimpArgs false
namespace Go.Proofs.YtfjjmhiogfimjaaDoor
open Go.ChangeShapes Go.WideShapes
section
variable {H : Type} {enc : TypeId × Value → H} {P : Program} {w : World} {base : Nat} {spare : Nat → Bool} {held : Bool}
theorem texts_of {name : String} {g : Nat} {t e : TypeId} {n fuel : Nat} {cs : Array Value} {q : List MemPlace} (l : List (List UInt8)) (hg : P.globalNamed name = some g) (hu : P.underlying t = some (.array n e)) (he : P.underlying e = some .string)
    (hc : P.cellsOf e = 1) (hv : w.var? P name = some cs) (hd : DataW.trod enc P w base spare held fuel t cs.toList = some (.agg (l.map fun s => .lit (.string s)), q)) (i : Nat) (s : List UInt8) (hi : l[i]? = some s) :
    w.cell? ⟨g, i, none⟩ = some (.string ⟨s.toArray⟩) := by
  obtain ⟨xs, m, _, ex, hlen, hl, hel⟩ := DataW.trod_array hu hd
  simp only [Prod.mk.injEq, DataW.agg.injEq] at ex
  have hil : i < l.length := (List.getElem?_eq_some_iff.1 hi).1
  have hln : l.length = n := by have := congrArg List.length ex.1; simp at this; omega
  have k := hel i (by omega)
  rw [hc, Nat.mul_one] at k
  have hx : xs[i]? = some (xs[i]'(by omega)) := List.getElem?_eq_getElem (by omega)
  rw [hx] at k
  obtain ⟨s', e1, e2, _⟩ := DataW.trod_string he k
  have hxs : (xs.map (·.1))[i]? = some (.lit (.string s)) := by rw [← ex.1, List.getElem?_map, hi]; rfl
  rw [List.getElem?_map, hx, e2] at hxs
  simp at hxs
  have hcs : cs.toList[i]? = some (.string s') := by
    have := congrArg (fun z => z[0]?) e1
    simpa using this
  rw [World.var?_cell hg hv i]
  rw [Array.getElem?_toList] at hcs
  rw [hcs, ← hxs]
end
end Go.Proofs.YtfjjmhiogfimjaaDoor
