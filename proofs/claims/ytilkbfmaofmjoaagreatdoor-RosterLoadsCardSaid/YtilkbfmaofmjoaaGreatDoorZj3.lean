import Derived.Lib.Strings
namespace Go.Proofs.YtilkbfmaofmjoaaGreatDoor
open Go
theorem less_dec : ∀ x y : List UInt8, Op.bytesLess x y = decide (x < y)
  | [], [] | [], _ :: _ | _ :: _, [] => by simp [Op.bytesLess]
  | a :: x, b :: y => by
    rw [Op.bytesLess, less_dec x y]
    simp only [List.cons_lt_cons_iff]
    by_cases h1 : a < b <;> by_cases h2 : a = b <;> by_cases h3 : x < y <;> simp [h1, h2, h3]
def ltT (x y : ByteArray) : Bool := Op.bytesLess x.toList y.toList
theorem text_inj {x y : ByteArray} (h : x.data.toList = y.data.toList) : x = y := by
  obtain ⟨⟨a⟩⟩ := x
  obtain ⟨⟨b⟩⟩ := y
  simp at h
  rw [h]
theorem ltT_iff (x y : ByteArray) : ltT x y = true ↔ x.data.toList < y.data.toList := by
  unfold ltT
  rw [less_dec, Lib.toList_data, Lib.toList_data, decide_eq_true_eq]
theorem ltT_irr (x : ByteArray) : ltT x x = false := by
  rw [Bool.eq_false_iff]
  exact fun e => List.lt_irrefl _ ((ltT_iff _ _).1 e)
theorem ltT_trans {x y z : ByteArray} (h : ltT x y = true) (k : ltT y z = true) : ltT x z = true :=
  (ltT_iff _ _).2 (List.lt_trans ((ltT_iff _ _).1 h) ((ltT_iff _ _).1 k))
theorem ltT_asymm {x y : ByteArray} (h : ltT x y = true) : ltT y x = false := by
  rw [Bool.eq_false_iff]
  intro e
  have := ltT_trans h e
  rw [ltT_irr] at this; cases this
theorem ltT_tri {x y : ByteArray} (h : ltT x y = false) (k : ltT y x = false) : x = y := by
  have h1 : ¬ x.data.toList < y.data.toList := fun e => by rw [(ltT_iff _ _).2 e] at h; cases h
  have h2 : ¬ y.data.toList < x.data.toList := fun e => by rw [(ltT_iff _ _).2 e] at k; cases k
  exact text_inj (List.le_antisymm (List.not_lt.1 h2) (List.not_lt.1 h1))
theorem ltT_ne {x y : ByteArray} (h : ltT x y = true) : x ≠ y := by
  rintro rfl
  rw [ltT_irr] at h; cases h
theorem text_same {x y : ByteArray} : (x.toList == y.toList) = true ↔ x = y := by
  rw [Lib.toList_data, Lib.toList_data, beq_iff_eq]
  exact ⟨text_inj, fun h => by rw [h]⟩
theorem text_other {x y : ByteArray} : (x.toList == y.toList) = false ↔ x ≠ y := by
  rw [Bool.eq_false_iff]
  exact not_congr text_same
end Go.Proofs.YtilkbfmaofmjoaaGreatDoor
