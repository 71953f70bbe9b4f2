/-
  A listed variable that is an array of integers, of whatever program: what its cells hold; for the rows of tied cards.
-/
import Derived.Test.YtnmcomciocffpaaDoorKMem
import Derived.OpenShut
import Derived.ProofKit
import Derived.LaidMore
import Derived.FnData
import Derived.MakeChecks
namespace Go.Proofs.YtnmcomciocffpaaDoor
open Go.RowKit

theorem laid_ints {P : Program} {W : World} {name : String} {zs : List Int} {q : IntKind} {g n : Nat} {E T : TypeId} (hg : P.globalNamed name = some g) (ht : (P.globals[g]?).map (·.type) = some T) (hT : P.underlying T = some (.array n E)) (hE : P.underlying E = some (.int q)) (hc : P.cellsOf E = 1)
    (h : laidMetH P [(name, .agg (zs.map fun z => .lit (.int q z)))] W) : ∀ (i : Nat) z, zs[i]? = some z → W.cell? ⟨g, i, none⟩ = some (.int q z) := by
  rw [MakeChecks.laidMetH_plain _ _ _ rfl] at h
  obtain ⟨ps, ⟨g', t', cs, fuel, p, q', hg', ht', hv, hd, _, _⟩, _⟩ := h
  obtain rfl := Option.some.inj (hg.symm.trans hg')
  obtain rfl := Option.some.inj (ht.symm.trans ht')
  obtain ⟨xs, m, _, hx, _, hl, hi⟩ := DataW.trod_array hT hd
  simp only [Prod.mk.injEq, DataW.agg.injEq] at hx
  have hlen : zs.length = xs.length := by simpa using congrArg List.length hx.1
  intro i z hz
  have hiz : i < zs.length := (List.getElem?_eq_some_iff.1 hz).1
  have h1 := hi i (by omega)
  rw [hc, Nat.mul_one, List.getElem?_eq_getElem (by omega)] at h1
  obtain ⟨z', e1, e2, _⟩ := DataW.trod_int hE h1
  have h2 : (xs.map (·.1))[i]? = some (.lit (.int q z)) := by rw [← hx.1, List.getElem?_map, hz]; rfl
  rw [List.getElem?_map, List.getElem?_eq_getElem (by omega), Option.map_some, e2] at h2
  have e3 : z' = z := by simpa using h2
  subst e3
  rw [World.var?_cell hg hv i, ← Array.getElem?_toList]
  have h3 : (cs.toList.drop i)[0]? = some (.int q z') := by
    have := congrArg (fun l : List Value => l[0]?) e1
    simpa using this
  simpa using h3
end Go.Proofs.YtnmcomciocffpaaDoor
