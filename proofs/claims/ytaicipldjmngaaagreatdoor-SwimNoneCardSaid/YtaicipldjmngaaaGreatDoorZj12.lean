import Derived.Lib.Hide
import Derived.Test.YtaicipldjmngaaaGreatDoorZj1
import Derived.OpenShut
import Derived.ProofKit
import Derived.LaidMore
import Derived.FnData
import Derived.MakeChecks
namespace Go.Proofs.YtaicipldjmngaaaGreatDoor.db
def scaleL : List Int := [0, 0, 1000, 1585, 2000, 2322, 2585, 2807, 3000, 3170]
def scale (k : Nat) : Int := scaleL.getD k 0
def waitOk (least most want : Int) : Bool := decide (1 ≤ least ∧ least ≤ most ∧ most ≤ 262144 ∧ 0 ≤ want ∧ want ≤ 8)
def clampD (want have_ : Int) : Int := if have_ < 0 then 0 else if have_ > want then want else have_
def waitD (least most want have_ : Int) : Int :=
  if waitOk least most want = false then 0
  else if want = 0 then least
  else most - ((most - least) * scale ((clampD want have_).toNat + 1)).tdiv (scale (want.toNat + 1))
theorem waitOk_iff (least most want : Int) : waitOk least most want = true ↔ 1 ≤ least ∧ least ≤ most ∧ most ≤ 262144 ∧ 0 ≤ want ∧ want ≤ 8 := by unfold waitOk; simp
theorem clampD_in {want h : Int} (hw : 0 ≤ want) : 0 ≤ clampD want h ∧ clampD want h ≤ want := by
  unfold clampD
  split
  · omega
  · split <;> omega
theorem scale_mono : ∀ a b : Fin 10, a ≤ b → scale a.val ≤ scale b.val := by decide
theorem scale_le {a b : Nat} (h : a ≤ b) (hb : b < 10) : scale a ≤ scale b := scale_mono ⟨a, by omega⟩ ⟨b, hb⟩ h
theorem scale_nonneg (a : Nat) (ha : a < 10) : 0 ≤ scale a := scale_le (a := 0) (by omega) ha
theorem scale_top : ∀ a : Fin 10, scale a.val ≤ 3170 := by decide
theorem scale_bound (a : Nat) (ha : a < 10) : scale a ≤ 3170 := scale_top ⟨a, ha⟩
theorem scale_pos : ∀ a : Fin 10, 2 ≤ a.val → 1000 ≤ scale a.val := by decide
theorem scale_ge (a : Nat) (h2 : 2 ≤ a) (ha : a < 10) : 1000 ≤ scale a := scale_pos ⟨a, ha⟩ h2
def part_ (m : Int) (c k : Nat) : Int := (m * scale (c + 1)).tdiv (scale (k + 1))
theorem part_bounds {m : Int} (hm : 0 ≤ m) {c k : Nat} (hc : c ≤ k) (hk : 1 ≤ k) (hk8 : k ≤ 8) : 0 ≤ part_ m c k ∧ part_ m c k ≤ m := by
  have h1 := scale_nonneg (c + 1) (by omega)
  have h2 := scale_ge (k + 1) (by omega) (by omega)
  have h3 := scale_le (a := c + 1) (b := k + 1) (by omega) (by omega)
  unfold part_
  have h4 : 0 ≤ m * scale (c + 1) := Int.mul_nonneg hm h1
  rw [Int.tdiv_eq_ediv_of_nonneg h4]
  refine ⟨Int.ediv_nonneg h4 (by omega), ?_⟩
  have h5 : m * scale (c + 1) ≤ m * scale (k + 1) := Int.mul_le_mul_of_nonneg_left h3 hm
  calc _ ≤ (m * scale (k + 1)) / scale (k + 1) := Int.ediv_le_ediv (by omega) h5
    _ = m := Int.mul_ediv_cancel m (by omega)
theorem waitD_no {least most want : Int} (h : waitOk least most want = false) (hv : Int) : waitD least most want hv = 0 := by unfold waitD; rw [if_pos h]
theorem waitD_zero {least most : Int} (h : waitOk least most 0 = true) (hv : Int) : waitD least most 0 hv = least := by
  unfold waitD
  rw [if_neg (by rw [h]; simp), if_pos rfl]
theorem waitD_yes {least most want : Int} (h : waitOk least most want = true) (hw : want ≠ 0) (hv : Int) : waitD least most want hv = most - part_ (most - least) (clampD want hv).toNat want.toNat := by
  unfold waitD part_
  rw [if_neg (by rw [h]; simp), if_neg hw]
theorem waitD_bounds {least most want : Int} (h : waitOk least most want = true) (hv : Int) : least ≤ waitD least most want hv ∧ waitD least most want hv ≤ most := by
  obtain ⟨h1, h2, h3, h4, h5⟩ := (waitOk_iff _ _ _).1 h
  by_cases hw : want = 0
  · subst hw
    rw [waitD_zero h]
    omega
  · rw [waitD_yes h hw]
    have hc := clampD_in (h := hv) h4
    have := part_bounds (m := most - least) (by omega) (c := (clampD want hv).toNat) (k := want.toNat) (by omega) (by omega) (by omega)
    omega
theorem waitD_pos {least most want : Int} (h : waitOk least most want = true) (hv : Int) : waitD least most want hv ≠ 0 := by
  have h1 := (waitOk_iff _ _ _).1 h
  have := waitD_bounds h hv
  omega
theorem waitD_prod {least most want : Int} (h : waitOk least most want = true) (c : Nat) (hc : c ≤ 9) : 0 ≤ (most - least) * scale c ∧ (most - least) * scale c ≤ 830996480 := by
  obtain ⟨h1, h2, h3, h4, h5⟩ := (waitOk_iff _ _ _).1 h
  have h6 := scale_nonneg c (by omega)
  have h7 := scale_bound c (by omega)
  refine ⟨Int.mul_nonneg (by omega) h6, ?_⟩
  calc _ ≤ (262144 : Int) * 3170 := Int.mul_le_mul (by omega) h7 h6 (by omega)
    _ ≤ 830996480 := by decide
structure Db where
  least : Int
  most : Int
  want : Int
  from_ : List Int
  gone : Nat
structure Db.ok (d : Db) : Prop where
  may : waitOk d.least d.most d.want = true
  once : d.from_.Nodup
  some_ : 1 ≤ d.from_.length
  few : (d.from_.length : Int) - 1 ≤ d.want
def Db.have_ (d : Db) : Int := (d.from_.length : Int) - 1
def Db.wait (d : Db) : Int := waitD d.least d.most d.want d.have_
def Db.due (d : Db) : Bool := decide (d.wait ≤ (d.gone : Int))
def Db.takes (d : Db) (f : Int) : Bool := !(d.from_.contains f) && decide (d.have_ < d.want)
def Db.confirm (d : Db) (f : Int) : Db := if d.takes f then ⟨d.least, d.most, d.want, d.from_ ++ [f], d.gone⟩ else d
def Db.tick (d : Db) : Db := ⟨d.least, d.most, d.want, d.from_, d.gone + 1⟩
def Db.new (least most want f : Int) : Db := ⟨least, most, want, [f], 0⟩
theorem Db.new_ok {least most want f : Int} (h : waitOk least most want = true) : (Db.new least most want f).ok :=
  ⟨h, by simp [Db.new], by simp [Db.new], by have := (waitOk_iff _ _ _).1 h; simp [Db.new]; omega⟩
theorem Db.tick_ok {d : Db} (h : d.ok) : d.tick.ok := ⟨h.may, h.once, h.some_, h.few⟩
theorem Db.takes_iff (d : Db) (f : Int) : d.takes f = true ↔ f ∉ d.from_ ∧ d.have_ < d.want := by unfold Db.takes; simp
theorem Db.confirm_ok {d : Db} (h : d.ok) (f : Int) : (d.confirm f).ok := by
  unfold Db.confirm
  cases ht : d.takes f with
  | false => rw [if_neg (by simp)]; exact h
  | true =>
    rw [if_pos rfl]
    obtain ⟨h1, h2⟩ := (Db.takes_iff d f).1 ht
    refine ⟨h.may, ?_, by simp, ?_⟩
    · show (d.from_ ++ [f]).Nodup
      rw [List.nodup_append]
      refine ⟨h.once, by simp, fun a ha b hb => ?_⟩
      rw [List.mem_singleton.1 hb]
      exact fun e => h1 (e ▸ ha)
    · show ((d.from_ ++ [f]).length : Int) - 1 ≤ d.want
      unfold Db.have_ at h2
      rw [List.length_append]
      simp
      omega
theorem Db.confirm_same (d : Db) (f : Int) : (d.confirm f).least = d.least ∧ (d.confirm f).most = d.most ∧ (d.confirm f).want = d.want ∧ (d.confirm f).gone = d.gone := by
  unfold Db.confirm
  split <;> exact ⟨rfl, rfl, rfl, rfl⟩
end Go.Proofs.YtaicipldjmngaaaGreatDoor.db

namespace Go.Proofs.YtaicipldjmngaaaGreatDoor
open Go.RowKit
theorem laid_ints {P : Program} {W : World} {name : String} {zs : List Int} {q : IntKind} {g n : Nat} {E T : TypeId} (hg : P.globalNamed name = some g) (ht : (P.globals[g]?).map (·.type) = some T) (hT : P.underlying T = some (.array n E)) (hE : P.underlying E = some (.int q)) (hc : P.cellsOf E = 1)
    (h : laidMetH P [(name, .agg (zs.map fun z => .lit (.int q z)))] W) : ∀ (i : Nat) z, zs[i]? = some z → W.cell? ⟨g, i, none⟩ = some (.int q z) := by
  rw [MakeChecks.laidMetH_plain _ _ _ rfl] at h
  obtain ⟨ps, ⟨g', t', cs, fuel, p, q', hg', ht', hv, hd, _, _⟩, _⟩ := h
  obtain rfl := Option.some.inj (hg.symm.trans hg')
  obtain rfl := Option.some.inj (ht.symm.trans ht')
  obtain ⟨xs, m, _, hx, _, hl, hi⟩ := DataW.trod_array hT hd
  simp only [Prod.mk.injEq, DataW.agg.injEq] at hx
  have hlen : zs.length = xs.length := by simpa using congrArg List.length hx.1
  intro i z hz
  have hiz : i < zs.length := (List.getElem?_eq_some_iff.1 hz).1
  have h1 := hi i (by omega)
  rw [hc, Nat.mul_one, List.getElem?_eq_getElem (by omega)] at h1
  obtain ⟨z', e1, e2, _⟩ := DataW.trod_int hE h1
  have h2 : (xs.map (·.1))[i]? = some (.lit (.int q z)) := by rw [← hx.1, List.getElem?_map, hz]; rfl
  rw [List.getElem?_map, List.getElem?_eq_getElem (by omega), Option.map_some, e2] at h2
  have e3 : z' = z := by simpa using h2
  subst e3
  rw [World.var?_cell hg hv i, ← Array.getElem?_toList]
  have h3 : (cs.toList.drop i)[0]? = some (.int q z') := by
    have := congrArg (fun l : List Value => l[0]?) e1
    simpa using this
  simpa using h3
end Go.Proofs.YtaicipldjmngaaaGreatDoor
