/-
  Rows compared as structs; the law's same (layer 15).
-/
import Derived.Test.YtphjlcogjalidaaTbMem
import Derived.Laws.StructEq
namespace Go.Proofs.Ytphjlcogjalidaa
open Go.RowKit
set_option linter.unusedSimpArgs false
set_option linter.unusedVariables false

theorem tr_fields : Try.prog.underlying 32 = some (.struct (Try.prog.fieldsOf 32)) := by kernel_rfl
theorem tr_stood : Try.prog.stoodInHeld 32 = false := by kernel_rfl
theorem tr_flds : (Try.prog.fieldsOf 32).toList.map (fun f => (f.name, f.type, f.offset)) = [("Key", 9, 0), ("Value", 3, 1), ("Make", 28, 2), ("Index", 28, 3)] := by kernel_rfl
theorem tr_guard : Try.prog.eqGuardType Try.prog.depth 32 = false := by kernel_rfl
theorem list4 {α : Type} {l : List α} (h : l.length = 4) : ∃ a b c d, l = [a, b, c, d] := by
  match l, h with
  | [a, b, c, d], _ => exact ⟨a, b, c, d, rfl⟩
theorem Rw.eq_iff {α : Type} (a b : Rw α) : a = b ↔ a.key = b.key ∧ a.val = b.val ∧ a.made = b.made ∧ a.ix = b.ix := by
  obtain ⟨x, y, z, u⟩ := a
  obtain ⟨x', y', z', u'⟩ := b
  simp
/-- Rows of ints may be compared. -/
def eqB (a b : Rw Int) : Bool := a.key.toList == b.key.toList && a.val == b.val && a.made == b.made && a.ix == b.ix
theorem eqB_iff (a b : Rw Int) : eqB a b = true ↔ a = b := by
  unfold eqB
  rw [Rw.eq_iff, Bool.and_eq_true, Bool.and_eq_true, Bool.and_eq_true, text_same, beq_iff_eq, beq_iff_eq, beq_iff_eq]
  exact ⟨fun h => ⟨h.1.1.1, h.1.1.2, h.1.2, h.2⟩, fun h => ⟨⟨⟨h.1, h.2.1⟩, h.2.2.1⟩, h.2.2.2⟩⟩
theorem tr_eq (a b : Rw Int) (w : World) : (Op.equalIn 10000 32 (trV a) (trV b)).run Try.prog w = .ok (eqB a b) w := by
  unfold trV
  rw [run_equalIn_struct w 9999 _ _ _ tr_fields tr_stood]
  have h := tr_flds
  generalize (Try.prog.fieldsOf 32).toList = fs at h
  have hl := congrArg List.length h
  rw [List.length_map] at hl
  obtain ⟨f0, f1, f2, f3, rfl⟩ := list4 hl
  simp only [List.map_cons, List.map_nil, List.cons.injEq, Prod.mk.injEq, and_true] at h
  obtain ⟨⟨h0, h1, h2⟩, ⟨h3, h4, h5⟩, ⟨h6, h7, h8⟩, h9, h10, h11⟩ := h
  simp only [Op.eqFields, h0, h1, h2, h3, h4, h5, h6, h7, h8, h9, h10, h11]
  unfold eqB
  cases k0 : (a.key.toList == b.key.toList)
  · simp [go_sem, k0]
  · by_cases k1 : a.val = b.val
    · by_cases k2 : a.made = b.made
      · by_cases k3 : a.ix = b.ix
        · simp [go_sem, k0, k1, k2, k3]
        · have k3' : ¬ (a.ix : Int) = (b.ix : Int) := by omega
          simp [go_sem, k0, k1, k2, k3, k3']
      · have k2' : ¬ (a.made : Int) = (b.made : Int) := by omega
        simp [go_sem, k0, k1, k2, k2']
    · simp [go_sem, k0, k1]
end Go.Proofs.Ytphjlcogjalidaa
