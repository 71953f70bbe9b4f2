/-
  Plain lemmas on suspicions (layer 11): how long one lasts, who has confirmed it. Nothing of any program stands here.
-/
import Derived.Lib.Hide
namespace Go.Proofs.YtnmcomciocffpaaDoor

/-- The scale. -/
def scaleL : List Int := [0, 0, 1000, 1585, 2000, 2322, 2585, 2807, 3000, 3170]
def scale (k : Nat) : Int := scaleL.getD k 0
/-- May it be? -/
def waitOk (least most want : Int) : Bool := decide (1 ≤ least ∧ least ≤ most ∧ most ≤ 262144 ∧ 0 ≤ want ∧ want ≤ 8)
def clampD (want have_ : Int) : Int := if have_ < 0 then 0 else if have_ > want then want else have_
/-- How long it lasts. -/
def waitD (least most want have_ : Int) : Int :=
  if waitOk least most want = false then 0
  else if want = 0 then least
  else most - ((most - least) * scale ((clampD want have_).toNat + 1)).tdiv (scale (want.toNat + 1))
theorem waitOk_iff (least most want : Int) : waitOk least most want = true ↔ 1 ≤ least ∧ least ≤ most ∧ most ≤ 262144 ∧ 0 ≤ want ∧ want ≤ 8 := by unfold waitOk; simp
theorem clampD_in {want h : Int} (hw : 0 ≤ want) : 0 ≤ clampD want h ∧ clampD want h ≤ want := by
  unfold clampD
  split
  · omega
  · split <;> omega
theorem clampD_next {want h : Int} (hw : 0 ≤ want) : clampD want h ≤ clampD want (h + 1) := by
  unfold clampD
  repeat' split
  all_goals omega
theorem clampD_all (want : Int) (hw : 0 ≤ want) : clampD want want = want := by
  unfold clampD
  repeat' split
  all_goals omega
theorem clampD_none (want : Int) (hw : 0 ≤ want) : clampD want 0 = 0 := by
  unfold clampD
  repeat' split
  all_goals omega
/-- The scale rises, from nothing on. -/
theorem scale_mono : ∀ a b : Fin 10, a ≤ b → scale a.val ≤ scale b.val := by decide
theorem scale_le {a b : Nat} (h : a ≤ b) (hb : b < 10) : scale a ≤ scale b := scale_mono ⟨a, by omega⟩ ⟨b, hb⟩ h
theorem scale_nonneg (a : Nat) (ha : a < 10) : 0 ≤ scale a := scale_le (a := 0) (by omega) ha
theorem scale_top : ∀ a : Fin 10, scale a.val ≤ 3170 := by decide
theorem scale_bound (a : Nat) (ha : a < 10) : scale a ≤ 3170 := scale_top ⟨a, ha⟩
theorem scale_pos : ∀ a : Fin 10, 2 ≤ a.val → 1000 ≤ scale a.val := by decide
theorem scale_ge (a : Nat) (h2 : 2 ≤ a) (ha : a < 10) : 1000 ≤ scale a := scale_pos ⟨a, ha⟩ h2
theorem scale_one : scale 1 = 0 := rfl
/-- A part of it. -/
def part_ (m : Int) (c k : Nat) : Int := (m * scale (c + 1)).tdiv (scale (k + 1))
theorem part_bounds {m : Int} (hm : 0 ≤ m) {c k : Nat} (hc : c ≤ k) (hk : 1 ≤ k) (hk8 : k ≤ 8) : 0 ≤ part_ m c k ∧ part_ m c k ≤ m := by
  have h1 := scale_nonneg (c + 1) (by omega)
  have h2 := scale_ge (k + 1) (by omega) (by omega)
  have h3 := scale_le (a := c + 1) (b := k + 1) (by omega) (by omega)
  unfold part_
  have h4 : 0 ≤ m * scale (c + 1) := Int.mul_nonneg hm h1
  rw [Int.tdiv_eq_ediv_of_nonneg h4]
  refine ⟨Int.ediv_nonneg h4 (by omega), ?_⟩
  have h5 : m * scale (c + 1) ≤ m * scale (k + 1) := Int.mul_le_mul_of_nonneg_left h3 hm
  calc _ ≤ (m * scale (k + 1)) / scale (k + 1) := Int.ediv_le_ediv (by omega) h5
    _ = m := Int.mul_ediv_cancel m (by omega)
theorem part_mono {m : Int} (hm : 0 ≤ m) {c c' k : Nat} (h : c ≤ c') (hc : c' ≤ k) (hk : 1 ≤ k) (hk8 : k ≤ 8) : part_ m c k ≤ part_ m c' k := by
  have h1 := scale_nonneg (c + 1) (by omega)
  have h2 := scale_ge (k + 1) (by omega) (by omega)
  have h3 := scale_le (a := c + 1) (b := c' + 1) (by omega) (by omega)
  unfold part_
  have h4 : 0 ≤ m * scale (c + 1) := Int.mul_nonneg hm h1
  have h5 : m * scale (c + 1) ≤ m * scale (c' + 1) := Int.mul_le_mul_of_nonneg_left h3 hm
  rw [Int.tdiv_eq_ediv_of_nonneg h4, Int.tdiv_eq_ediv_of_nonneg (by omega)]
  exact Int.ediv_le_ediv (by omega) h5
theorem part_none (m : Int) (k : Nat) : part_ m 0 k = 0 := by unfold part_; rw [scale_one]; simp
theorem part_all (m : Int) {k : Nat} (hk : 1 ≤ k) (hk8 : k ≤ 8) : part_ m k k = m := by
  unfold part_
  exact Int.mul_tdiv_cancel m (by have := scale_ge (k + 1) (by omega) (by omega); omega)
theorem waitD_no {least most want : Int} (h : waitOk least most want = false) (hv : Int) : waitD least most want hv = 0 := by unfold waitD; rw [if_pos h]
theorem waitD_zero {least most : Int} (h : waitOk least most 0 = true) (hv : Int) : waitD least most 0 hv = least := by
  unfold waitD
  rw [if_neg (by rw [h]; simp), if_pos rfl]
theorem waitD_yes {least most want : Int} (h : waitOk least most want = true) (hw : want ≠ 0) (hv : Int) : waitD least most want hv = most - part_ (most - least) (clampD want hv).toNat want.toNat := by
  unfold waitD part_
  rw [if_neg (by rw [h]; simp), if_neg hw]
theorem waitD_bounds {least most want : Int} (h : waitOk least most want = true) (hv : Int) : least ≤ waitD least most want hv ∧ waitD least most want hv ≤ most := by
  obtain ⟨h1, h2, h3, h4, h5⟩ := (waitOk_iff _ _ _).1 h
  by_cases hw : want = 0
  · subst hw
    rw [waitD_zero h]
    omega
  · rw [waitD_yes h hw]
    have hc := clampD_in (h := hv) h4
    have := part_bounds (m := most - least) (by omega) (c := (clampD want hv).toNat) (k := want.toNat) (by omega) (by omega) (by omega)
    omega
theorem waitD_pos {least most want : Int} (h : waitOk least most want = true) (hv : Int) : waitD least most want hv ≠ 0 := by
  have h1 := (waitOk_iff _ _ _).1 h
  have := waitD_bounds h hv
  omega
theorem waitD_iff (least most want hv : Int) : waitD least most want hv = 0 ↔ waitOk least most want = false := by
  cases h : waitOk least most want with
  | true => exact ⟨fun e => absurd e (waitD_pos h hv), fun e => by cases e⟩
  | false => exact ⟨fun _ => rfl, fun _ => waitD_no h hv⟩
/-- With all it is the least. -/
theorem waitD_all {least most want : Int} (h : waitOk least most want = true) : waitD least most want want = least := by
  obtain ⟨h1, h2, h3, h4, h5⟩ := (waitOk_iff _ _ _).1 h
  by_cases hw : want = 0
  · subst hw
    exact waitD_zero h 0
  · rw [waitD_yes h hw, clampD_all want h4, part_all _ (by omega) (by omega)]
    omega
/-- With nobody it is the most. -/
theorem waitD_none {least most want : Int} (h : waitOk least most want = true) (hw : 0 < want) : waitD least most want 0 = most := by
  rw [waitD_yes h (by omega), clampD_none want (by omega)]
  show most - part_ (most - least) 0 want.toNat = most
  rw [part_none]
  omega
/-- With one more it is not longer. -/
theorem waitD_next {least most want : Int} (h : waitOk least most want = true) (hv : Int) : waitD least most want (hv + 1) ≤ waitD least most want hv := by
  obtain ⟨h1, h2, h3, h4, h5⟩ := (waitOk_iff _ _ _).1 h
  by_cases hw : want = 0
  · subst hw
    rw [waitD_zero h, waitD_zero h]
    exact Int.le_refl _
  · rw [waitD_yes h hw, waitD_yes h hw]
    have hc := clampD_in (h := hv) h4
    have hc' := clampD_in (h := hv + 1) h4
    have hn := clampD_next (h := hv) h4
    have := part_mono (m := most - least) (by omega) (c := (clampD want hv).toNat) (c' := (clampD want (hv + 1)).toNat) (k := want.toNat) (by omega) (by omega) (by omega) (by omega)
    omega
/-- The product that is divided is small. -/
theorem waitD_prod {least most want : Int} (h : waitOk least most want = true) (c : Nat) (hc : c ≤ 9) : 0 ≤ (most - least) * scale c ∧ (most - least) * scale c ≤ 830996480 := by
  obtain ⟨h1, h2, h3, h4, h5⟩ := (waitOk_iff _ _ _).1 h
  have h6 := scale_nonneg c (by omega)
  have h7 := scale_bound c (by omega)
  refine ⟨Int.mul_nonneg (by omega) h6, ?_⟩
  calc _ ≤ (262144 : Int) * 3170 := Int.mul_le_mul (by omega) h7 h6 (by omega)
    _ ≤ 830996480 := by decide

/-! ### A suspicion -/
structure Db where
  least : Int
  most : Int
  want : Int
  from_ : List Int
  gone : Nat
/-- Who has told of it, and confirmed it: each once, the reporter first. -/
structure Db.ok (d : Db) : Prop where
  may : waitOk d.least d.most d.want = true
  once : d.from_.Nodup
  some_ : 1 ≤ d.from_.length
  few : (d.from_.length : Int) - 1 ≤ d.want
def Db.have_ (d : Db) : Int := (d.from_.length : Int) - 1
def Db.wait (d : Db) : Int := waitD d.least d.most d.want d.have_
def Db.due (d : Db) : Bool := decide (d.wait ≤ (d.gone : Int))
def Db.takes (d : Db) (f : Int) : Bool := !(d.from_.contains f) && decide (d.have_ < d.want)
def Db.confirm (d : Db) (f : Int) : Db := if d.takes f then ⟨d.least, d.most, d.want, d.from_ ++ [f], d.gone⟩ else d
def Db.tick (d : Db) : Db := ⟨d.least, d.most, d.want, d.from_, d.gone + 1⟩
def Db.new (least most want f : Int) : Db := ⟨least, most, want, [f], 0⟩
theorem Db.new_ok {least most want f : Int} (h : waitOk least most want = true) : (Db.new least most want f).ok :=
  ⟨h, by simp [Db.new], by simp [Db.new], by have := (waitOk_iff _ _ _).1 h; simp [Db.new]; omega⟩
theorem Db.tick_ok {d : Db} (h : d.ok) : d.tick.ok := ⟨h.may, h.once, h.some_, h.few⟩
theorem Db.takes_iff (d : Db) (f : Int) : d.takes f = true ↔ f ∉ d.from_ ∧ d.have_ < d.want := by unfold Db.takes; simp
theorem Db.confirm_ok {d : Db} (h : d.ok) (f : Int) : (d.confirm f).ok := by
  unfold Db.confirm
  cases ht : d.takes f with
  | false => rw [if_neg (by simp)]; exact h
  | true =>
    rw [if_pos rfl]
    obtain ⟨h1, h2⟩ := (Db.takes_iff d f).1 ht
    refine ⟨h.may, ?_, by simp, ?_⟩
    · show (d.from_ ++ [f]).Nodup
      rw [List.nodup_append]
      refine ⟨h.once, by simp, fun a ha b hb => ?_⟩
      rw [List.mem_singleton.1 hb]
      exact fun e => h1 (e ▸ ha)
    · show ((d.from_ ++ [f]).length : Int) - 1 ≤ d.want
      unfold Db.have_ at h2
      rw [List.length_append]
      simp
      omega
theorem Db.confirm_same (d : Db) (f : Int) : (d.confirm f).least = d.least ∧ (d.confirm f).most = d.most ∧ (d.confirm f).want = d.want ∧ (d.confirm f).gone = d.gone := by
  unfold Db.confirm
  split <;> exact ⟨rfl, rfl, rfl, rfl⟩
theorem Db.few9 {d : Db} (h : d.ok) : d.from_.length ≤ 9 := by
  have h1 := (waitOk_iff _ _ _).1 h.may
  have := h.few
  omega
/-- What is due stays due. -/
theorem Db.due_tick {d : Db} (h : d.due = true) : d.tick.due = true := by
  unfold Db.due at *
  simp only [decide_eq_true_eq] at *
  show d.wait ≤ ((d.gone + 1 : Nat) : Int)
  omega
end Go.Proofs.YtnmcomciocffpaaDoor
