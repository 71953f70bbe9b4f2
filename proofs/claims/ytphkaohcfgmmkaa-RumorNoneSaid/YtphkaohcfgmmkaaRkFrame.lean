/-
  What comes in: an update by value, updates in a row (layer 8).
-/
import Derived.Test.YtphkaohcfgmmkaaRkMem
import Derived.Test.YtphkaohcfgmmkaaKFrame
namespace Go.Proofs.Ytphkaohcfgmmkaa
open Go.Joins Go.ChangeShapes Go.WideShapes Go.ChangeAt Go.RowKit
variable {H : Type} {enc : TypeId × Value → H}

theorem up_of {W : World} {n0 n1 n2 : Nat} {v0 v1 v2 : Value} {y0 y1 y2 : DataW H × List MemPlace}
    (t0 : DataW.trod enc Try.prog W 0 (fun _ => true) true n0 3 [v0] = some y0) (t1 : DataW.trod enc Try.prog W 0 (fun _ => true) true n1 27 [v1] = some y1) (t2 : DataW.trod enc Try.prog W 0 (fun _ => true) true n2 3 [v2] = some y2) :
    ∃ s : Up, v0 = .int .i64 s.node ∧ v1 = .int .u32 (s.inc : Int) ∧ v2 = .int .i64 s.st ∧ okUp s := by
  obtain ⟨z0, e0, _, w0⟩ := DataW.trod_int Try.underlying3 t0
  have b0 : -9223372036854775808 ≤ z0 ∧ z0 ≤ 9223372036854775807 := by simpa [Lit.wf, IntKind.min, IntKind.max, IntKind.signed, IntKind.bits] using w0
  obtain ⟨z1, e1, _, w1⟩ := DataW.trod_int Try.underlying27 t1
  have b1 : 0 ≤ z1 ∧ z1 ≤ 4294967295 := by simpa [Lit.wf, IntKind.min, IntKind.max, IntKind.signed, IntKind.bits] using w1
  obtain ⟨z2, e2, _, w2⟩ := DataW.trod_int Try.underlying3 t2
  have b2 : -9223372036854775808 ≤ z2 ∧ z2 ≤ 9223372036854775807 := by simpa [Lit.wf, IntKind.min, IntKind.max, IntKind.signed, IntKind.bits] using w2
  simp only [List.cons.injEq, and_true] at e0 e1 e2
  exact ⟨⟨z0, z1.toNat, z2⟩, e0, by rw [e1, show ((z1.toNat : Nat) : Int) = z1 by omega], e2, b0, by show z1.toNat < _; omega, b2⟩
/-- A step by value. -/
theorem up_arg {W : World} {base : Nat} {v : Value} {d : DataW H} {p : List MemPlace} (hok : Value.okWide Try.prog W .any base 29 v)
    (hf : DataW.Trod enc Try.prog W 0 (fun _ => true) true 29 v d p) : ∃ s : Up, v = .agg #[.int .i64 s.node, .int .u32 (s.inc : Int), .int .i64 s.st] ∧ okUp s := by
  obtain ⟨u0, u1, u2, y0, y1, y2, n0, rfl, _, _, t0, t1, t2⟩ := open_agg3 Try.underlying29 (by kernel_rfl) (by kernel_rfl) hok hf
  obtain ⟨s, rfl, rfl, rfl, h⟩ := up_of t0 t1 t2
  exact ⟨s, rfl, h⟩
/-- A slice of steps that came in. -/
theorem ups_arg {W : World} {A : Option Addr} {len cap : Nat} {d : DataW H} {p : List MemPlace}
    (h : DataW.Trod enc Try.prog W 0 (fun _ => true) true 32 (.slice A len cap) d p) :
    ∃ ss, SUp W A len ss ∧ (∀ x ∈ ss, okUp x) ∧ len ≤ cap ∧ cap ≤ maxLen := by
  obtain ⟨fuel, hf0⟩ := h
  have hf : DataW.trod enc Try.prog W 0 (fun _ => true) true fuel 32 [.slice A len cap] = some (d, p) := hf0
  rcases Go.Deep.open_slice Try.underlying32 hf with ⟨hcs, _⟩ | ⟨a, len', cap', m, n, D, Pl, hcs, _, hl, hm, hmm, hx, hi⟩
  · simp only [List.cons.injEq, Value.slice.injEq, and_true] at hcs
    obtain ⟨rfl, rfl, rfl⟩ := hcs
    exact ⟨[], SUp.zero _ _, (fun _ h => by cases h), by omega, by unfold maxLen; omega⟩
  · simp only [List.cons.injEq, Value.slice.injEq, and_true] at hcs
    obtain ⟨rfl, rfl, rfl⟩ := hcs
    simp only [if_true] at hmm
    subst hmm
    have hC : Try.prog.cellsOf 29 = 3 := by kernel_rfl
    rw [hC] at hi
    have hat : ∀ i, i < len → ∃ x : Up, okUp x ∧ W.cell? (a.add (i * 3)) = some (.int .i64 x.node) ∧ W.cell? (a.add (i * 3 + 1)) = some (.int .u32 (x.inc : Int)) ∧ W.cell? (a.add (i * 3 + 2)) = some (.int .i64 x.st) := by
      intro i hil
      obtain ⟨cs', hc, ht'⟩ := hi i (by omega)
      obtain ⟨_, hcl, hcat⟩ := World.cells?_some hc
      obtain ⟨ys, n', _, hy, _, hyl, hfl⟩ := DataW.trod_struct Try.underlying29 ht'
      match cs', hcl with
      | [c0, c1, c2], _ =>
        have h0 := hfl 0 _ rfl
        have h1 := hfl 1 _ rfl
        have h2 := hfl 2 _ rfl
        have hyl2 : ys.length = 3 := hyl
        match ys, hyl2 with
        | [y0, y1, y2], _ =>
          have e_int : Try.prog.cellsOf 3 = 1 := by kernel_rfl
          have e_uint32 : Try.prog.cellsOf 27 = 1 := by kernel_rfl
          have k0 : DataW.trod enc Try.prog W 0 (fun _ => true) true n' 3 [c0] = some y0 := by simpa [e_int, e_uint32] using h0
          have k1 : DataW.trod enc Try.prog W 0 (fun _ => true) true n' 27 [c1] = some y1 := by simpa [e_int, e_uint32] using h1
          have k2 : DataW.trod enc Try.prog W 0 (fun _ => true) true n' 3 [c2] = some y2 := by simpa [e_int, e_uint32] using h2
          obtain ⟨x, rfl, rfl, rfl, hok⟩ := up_of k0 k1 k2
          refine ⟨x, hok, ?_, ?_, ?_⟩
          · have := hcat 0 (by omega); rw [Go.Deep.add_add] at this; exact this
          · have := hcat 1 (by omega); rw [Go.Deep.add_add] at this; exact this
          · have := hcat 2 (by omega); rw [Go.Deep.add_add] at this; exact this
    rcases Nat.eq_zero_or_pos len with h0 | hp
    · subst h0
      exact ⟨[], SUp.zero _ _, (fun _ h => by cases h), hl, hm⟩
    · obtain ⟨b, off, spot⟩ := a
      have hspot : spot = none := by
        obtain ⟨x, _, h1, _⟩ := hat 0 hp
        simpa [Addr.add] using World.cell?_spot h1
      subst hspot
      have hb : b < W.heap.size := by
        obtain ⟨x, _, h1, _⟩ := hat 0 hp
        have := bcell_lt h1
        rwa [plain_add] at this
      have hch : ∃ g : Nat → Up, ∀ i, i < len → okUp (g i) ∧ UpAt W b (off + i * 3) (g i) := by
        have : ∀ i, ∃ x : Up, i < len → okUp x ∧ UpAt W b (off + i * 3) x := fun i => by
          by_cases hil : i < len
          · obtain ⟨x, hok, h0, h1, h2⟩ := hat i hil
            rw [plain_add] at h0 h1 h2
            exact ⟨x, fun _ => ⟨hok, h0, by rw [Nat.add_assoc]; exact h1, by rw [Nat.add_assoc]; exact h2⟩⟩
          · obtain ⟨x, hok, _⟩ := hat 0 hp
            exact ⟨x, fun h => absurd h hil⟩
        exact ⟨fun i => Classical.choose (this i), fun i => Classical.choose_spec (this i)⟩
      obtain ⟨g, hg⟩ := hch
      refine ⟨(List.range len).map g, ⟨by simp, fun _ => ⟨b, off, rfl, hb, fun i hi => ?_⟩⟩, ?_, hl, hm⟩
      · have hi' : i < len := by simpa using hi
        simpa using (hg i hi').2
      · intro x hx
        obtain ⟨i, hi, rfl⟩ := List.mem_map.1 hx
        exact (hg i (List.mem_range.1 hi)).1
end Go.Proofs.Ytphkaohcfgmmkaa
