/-
  Steps of layer 9's law that come in, in a row.
-/
import Derived.Test.YtmfokogckfoheaaStMem
import Derived.Test.YtmfokogckfoheaaRkFrame
namespace Go.Proofs.Ytmfokogckfoheaa
open Go.Joins Go.ChangeShapes Go.WideShapes Go.ChangeAt Go.RowKit
variable {H : Type} {enc : TypeId × Value → H}

theorem e_int9 : Try.prog.cellsOf 3 = 1 := by kernel_rfl
theorem e_u32 : Try.prog.cellsOf 22 = 1 := by kernel_rfl
theorem e_up9 : Try.prog.cellsOf 32 = 3 := by kernel_rfl
theorem e_st9 : Try.prog.cellsOf 34 = 4 := by kernel_rfl
/-- An update's cells. -/
theorem up_in {W : World} {fuel : Nat} {c0 c1 c2 : Value} {x : DataW H × List MemPlace}
    (hf : DataW.trod enc Try.prog W 0 (fun _ => true) true fuel 32 [c0, c1, c2] = some x) :
    ∃ u : Up, c0 = .int .i64 u.node ∧ c1 = .int .u32 (u.inc : Int) ∧ c2 = .int .i64 u.st ∧ okUp u := by
  obtain ⟨ys, n', _, hy, _, hyl, hfl⟩ := DataW.trod_struct Try.underlying32 hf
  have h0 := hfl 0 _ rfl
  have h1 := hfl 1 _ rfl
  have h2 := hfl 2 _ rfl
  have hyl3 : ys.length = 3 := hyl
  match ys, hyl3 with
  | [y0, y1, y2], _ =>
    have k0 : DataW.trod enc Try.prog W 0 (fun _ => true) true n' 3 [c0] = some y0 := by simpa [e_int9, e_u32] using h0
    have k1 : DataW.trod enc Try.prog W 0 (fun _ => true) true n' 22 [c1] = some y1 := by simpa [e_int9, e_u32] using h1
    have k2 : DataW.trod enc Try.prog W 0 (fun _ => true) true n' 3 [c2] = some y2 := by simpa [e_int9, e_u32] using h2
    exact up_of k0 k1 k2
/-- A step's cells. -/
theorem st_in {W : World} {fuel : Nat} {c0 c1 c2 c3 : Value} {x : DataW H × List MemPlace}
    (hf : DataW.trod enc Try.prog W 0 (fun _ => true) true fuel 34 [c0, c1, c2, c3] = some x) :
    ∃ s : St, c0 = .int .i64 s.kind ∧ c1 = .int .i64 s.u.node ∧ c2 = .int .u32 (s.u.inc : Int) ∧ c3 = .int .i64 s.u.st ∧ okSt s := by
  obtain ⟨ys, n', _, hy, _, hyl, hfl⟩ := DataW.trod_struct Try.underlying34 hf
  have h0 := hfl 0 _ rfl
  have h1 := hfl 1 _ rfl
  have hyl2 : ys.length = 2 := hyl
  match ys, hyl2 with
  | [y0, y1], _ =>
    have k0 : DataW.trod enc Try.prog W 0 (fun _ => true) true n' 3 [c0] = some y0 := by simpa [e_int9, e_up9] using h0
    have k1 : DataW.trod enc Try.prog W 0 (fun _ => true) true n' 32 [c1, c2, c3] = some y1 := by simpa [e_int9, e_up9] using h1
    obtain ⟨z0, e0, _, _⟩ := DataW.trod_int Try.underlying3 k0
    simp only [List.cons.injEq, and_true] at e0
    obtain ⟨u, e1, e2, e3, hok⟩ := up_in k1
    exact ⟨⟨z0, u⟩, e0, e1, e2, e3, hok⟩
/-- A slice of steps that came in. -/
theorem stps_arg {W : World} {A : Option Addr} {len cap : Nat} {d : DataW H} {p : List MemPlace}
    (h : DataW.Trod enc Try.prog W 0 (fun _ => true) true 23 (.slice A len cap) d p) :
    ∃ ss, SSt W A len ss ∧ (∀ x ∈ ss, okSt x) ∧ len ≤ cap ∧ cap ≤ maxLen := by
  obtain ⟨fuel, hf0⟩ := h
  have hf : DataW.trod enc Try.prog W 0 (fun _ => true) true fuel 23 [.slice A len cap] = some (d, p) := hf0
  rcases Go.Deep.open_slice Try.underlying23 hf with ⟨hcs, _⟩ | ⟨a, len', cap', m, n, D, Pl, hcs, _, hl, hm, hmm, hx, hi⟩
  · simp only [List.cons.injEq, Value.slice.injEq, and_true] at hcs
    obtain ⟨rfl, rfl, rfl⟩ := hcs
    exact ⟨[], SSt.zero _ _, (fun _ h => by cases h), by omega, by unfold maxLen; omega⟩
  · simp only [List.cons.injEq, Value.slice.injEq, and_true] at hcs
    obtain ⟨rfl, rfl, rfl⟩ := hcs
    simp only [if_true] at hmm
    subst hmm
    rw [e_st9] at hi
    have hat : ∀ i, i < len → ∃ x : St, okSt x ∧ W.cell? (a.add (i * 4)) = some (.int .i64 x.kind) ∧ W.cell? (a.add (i * 4 + 1)) = some (.int .i64 x.u.node) ∧ W.cell? (a.add (i * 4 + 2)) = some (.int .u32 (x.u.inc : Int)) ∧ W.cell? (a.add (i * 4 + 3)) = some (.int .i64 x.u.st) := by
      intro i hil
      obtain ⟨cs', hc, ht'⟩ := hi i (by omega)
      obtain ⟨_, hcl, hcat⟩ := World.cells?_some hc
      match cs', hcl with
      | [c0, c1, c2, c3], _ =>
        obtain ⟨x, rfl, rfl, rfl, rfl, hok⟩ := st_in ht'
        refine ⟨x, hok, ?_, ?_, ?_, ?_⟩
        · have := hcat 0 (by omega); rw [Go.Deep.add_add] at this; exact this
        · have := hcat 1 (by omega); rw [Go.Deep.add_add] at this; exact this
        · have := hcat 2 (by omega); rw [Go.Deep.add_add] at this; exact this
        · have := hcat 3 (by omega); rw [Go.Deep.add_add] at this; exact this
    rcases Nat.eq_zero_or_pos len with h0 | hp
    · subst h0
      exact ⟨[], SSt.zero _ _, (fun _ h => by cases h), hl, hm⟩
    · obtain ⟨b, off, spot⟩ := a
      have hspot : spot = none := by
        obtain ⟨x, _, h1, _⟩ := hat 0 hp
        simpa [Addr.add] using World.cell?_spot h1
      subst hspot
      have hb : b < W.heap.size := by
        obtain ⟨x, _, h1, _⟩ := hat 0 hp
        have := bcell_lt h1
        rwa [plain_add] at this
      have hch : ∃ g : Nat → St, ∀ i, i < len → okSt (g i) ∧ StAt W b (off + i * 4) (g i) := by
        have : ∀ i, ∃ x : St, i < len → okSt x ∧ StAt W b (off + i * 4) x := fun i => by
          by_cases hil : i < len
          · obtain ⟨x, hok, h0, h1, h2, h3⟩ := hat i hil
            rw [plain_add] at h0 h1 h2 h3
            exact ⟨x, fun _ => ⟨hok, h0, by rw [Nat.add_assoc]; exact h1, by rw [Nat.add_assoc, Nat.add_assoc]; exact h2, by rw [Nat.add_assoc, Nat.add_assoc]; exact h3⟩⟩
          · obtain ⟨x, hok, _⟩ := hat 0 hp
            exact ⟨x, fun h => absurd h hil⟩
        exact ⟨fun i => Classical.choose (this i), fun i => Classical.choose_spec (this i)⟩
      obtain ⟨g, hg⟩ := hch
      refine ⟨(List.range len).map g, ⟨by simp, fun _ => ⟨b, off, rfl, hb, fun i hi => ?_⟩⟩, ?_, hl, hm⟩
      · have hi' : i < len := by simpa using hi
        simpa using (hg i hi').2
      · intro x hx
        obtain ⟨i, hi, rfl⟩ := List.mem_map.1 hx
        exact (hg i (List.mem_range.1 hi)).1
end Go.Proofs.Ytmfokogckfoheaa
