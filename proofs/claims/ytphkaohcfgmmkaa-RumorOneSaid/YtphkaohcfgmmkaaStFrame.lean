/-
  Steps, and updates with a number of members, of layer 10's law, that come in.
-/
import Derived.Test.YtphkaohcfgmmkaaStMem
import Derived.Test.YtphkaohcfgmmkaaRkFrame
namespace Go.Proofs.Ytphkaohcfgmmkaa
open Go.Joins Go.ChangeShapes Go.WideShapes Go.ChangeAt Go.RowKit
variable {H : Type} {enc : TypeId × Value → H}

theorem e_int10 : Try.prog.cellsOf 3 = 1 := by kernel_rfl
theorem e_u32 : Try.prog.cellsOf 27 = 1 := by kernel_rfl
theorem e_u16 : Try.prog.cellsOf 40 = 1 := by kernel_rfl
theorem e_up10 : Try.prog.cellsOf 29 = 3 := by kernel_rfl
theorem e_ups10 : Try.prog.cellsOf 32 = 1 := by kernel_rfl
theorem e_st10 : Try.prog.cellsOf 31 = 6 := by kernel_rfl
theorem e_oth10 : Try.prog.cellsOf 42 = 2 := by kernel_rfl
/-- An update's cells. -/
theorem up_in {W : World} {fuel : Nat} {c0 c1 c2 : Value} {x : DataW H × List MemPlace}
    (hf : DataW.trod enc Try.prog W 0 (fun _ => true) true fuel 29 [c0, c1, c2] = some x) :
    ∃ u : Up, c0 = .int .i64 u.node ∧ c1 = .int .u32 (u.inc : Int) ∧ c2 = .int .i64 u.st ∧ okUp u := by
  obtain ⟨ys, n', _, hy, _, hyl, hfl⟩ := DataW.trod_struct Try.underlying29 hf
  have h0 := hfl 0 _ rfl
  have h1 := hfl 1 _ rfl
  have h2 := hfl 2 _ rfl
  have hyl3 : ys.length = 3 := hyl
  match ys, hyl3 with
  | [y0, y1, y2], _ =>
    have k0 : DataW.trod enc Try.prog W 0 (fun _ => true) true n' 3 [c0] = some y0 := by simpa [e_int10, e_u32] using h0
    have k1 : DataW.trod enc Try.prog W 0 (fun _ => true) true n' 27 [c1] = some y1 := by simpa [e_int10, e_u32] using h1
    have k2 : DataW.trod enc Try.prog W 0 (fun _ => true) true n' 3 [c2] = some y2 := by simpa [e_int10, e_u32] using h2
    exact up_of k0 k1 k2
/-- A step's cells. -/
theorem st_in {W : World} {fuel : Nat} {c0 c1 c2 c3 c4 c5 : Value} {x : DataW H × List MemPlace}
    (hf : DataW.trod enc Try.prog W 0 (fun _ => true) true fuel 31 [c0, c1, c2, c3, c4, c5] = some x) :
    ∃ s : St, c0 = .int .i64 s.kind ∧ c1 = .int .i64 s.u.node ∧ c2 = .int .u32 (s.u.inc : Int) ∧ c3 = .int .i64 s.u.st ∧ c4 = .int .i64 s.most ∧ c5 = .int .i64 s.mem ∧ okSt s := by
  obtain ⟨ys, n', _, hy, _, hyl, hfl⟩ := DataW.trod_struct Try.underlying31 hf
  have h0 := hfl 0 _ rfl
  have h1 := hfl 1 _ rfl
  have h2 := hfl 2 _ rfl
  have h3 := hfl 3 _ rfl
  have hyl4 : ys.length = 4 := hyl
  match ys, hyl4 with
  | [y0, y1, y2, y3], _ =>
    have k0 : DataW.trod enc Try.prog W 0 (fun _ => true) true n' 3 [c0] = some y0 := by simpa [e_int10, e_up10] using h0
    have k1 : DataW.trod enc Try.prog W 0 (fun _ => true) true n' 29 [c1, c2, c3] = some y1 := by simpa [e_int10, e_up10] using h1
    have k2 : DataW.trod enc Try.prog W 0 (fun _ => true) true n' 3 [c4] = some y2 := by simpa [e_int10, e_up10] using h2
    have k3 : DataW.trod enc Try.prog W 0 (fun _ => true) true n' 3 [c5] = some y3 := by simpa [e_int10, e_up10] using h3
    obtain ⟨z0, e0, _, _⟩ := DataW.trod_int Try.underlying3 k0
    obtain ⟨z2, e4, _, w2⟩ := DataW.trod_int Try.underlying3 k2
    obtain ⟨z3, e5, _, w3⟩ := DataW.trod_int Try.underlying3 k3
    have b2 : wfI z2 := by unfold wfI; simpa [Lit.wf, IntKind.min, IntKind.max, IntKind.signed, IntKind.bits] using w2
    have b3 : wfI z3 := by unfold wfI; simpa [Lit.wf, IntKind.min, IntKind.max, IntKind.signed, IntKind.bits] using w3
    simp only [List.cons.injEq, and_true] at e0 e4 e5
    obtain ⟨u, e1, e2, e3, hok⟩ := up_in k1
    exact ⟨⟨z0, u, z2, z3⟩, e0, e1, e2, e3, e4, e5, hok, b2, b3⟩
/-- A step by value. -/
theorem st_arg {W : World} {base : Nat} {v : Value} {d : DataW H} {p : List MemPlace} (hok : Value.okWide Try.prog W .any base 31 v)
    (hf : DataW.Trod enc Try.prog W 0 (fun _ => true) true 31 v d p) :
    ∃ s : St, v = .agg #[.int .i64 s.kind, .int .i64 s.u.node, .int .u32 (s.u.inc : Int), .int .i64 s.u.st, .int .i64 s.most, .int .i64 s.mem] ∧ okSt s := by
  obtain ⟨cs, rfl, hcs⟩ := okWide_struct Try.underlying31 hok
  rw [e_st10] at hcs
  match cs, hcs with
  | ⟨[c0, c1, c2, c3, c4, c5]⟩, _ =>
    obtain ⟨m, hm⟩ := hf
    obtain ⟨s, rfl, rfl, rfl, rfl, rfl, rfl, hs⟩ := st_in (x := (d, p)) (by simpa [Value.cells] using hm)
    exact ⟨s, rfl, hs⟩
/-- A slice of steps that came in. -/
theorem stps_arg {W : World} {A : Option Addr} {len cap : Nat} {d : DataW H} {p : List MemPlace}
    (h : DataW.Trod enc Try.prog W 0 (fun _ => true) true 22 (.slice A len cap) d p) :
    ∃ ss, SSt W A len ss ∧ (∀ x ∈ ss, okSt x) ∧ len ≤ cap ∧ cap ≤ maxLen := by
  obtain ⟨fuel, hf0⟩ := h
  have hf : DataW.trod enc Try.prog W 0 (fun _ => true) true fuel 22 [.slice A len cap] = some (d, p) := hf0
  rcases Go.Deep.open_slice Try.underlying22 hf with ⟨hcs, _⟩ | ⟨a, len', cap', m, n, D, Pl, hcs, _, hl, hm, hmm, hx, hi⟩
  · simp only [List.cons.injEq, Value.slice.injEq, and_true] at hcs
    obtain ⟨rfl, rfl, rfl⟩ := hcs
    exact ⟨[], SSt.zero _ _, (fun _ h => by cases h), by omega, by unfold maxLen; omega⟩
  · simp only [List.cons.injEq, Value.slice.injEq, and_true] at hcs
    obtain ⟨rfl, rfl, rfl⟩ := hcs
    simp only [if_true] at hmm
    subst hmm
    rw [e_st10] at hi
    have hat : ∀ i, i < len → ∃ x : St, okSt x ∧ W.cell? (a.add (i * 6)) = some (.int .i64 x.kind) ∧ W.cell? (a.add (i * 6 + 1)) = some (.int .i64 x.u.node) ∧ W.cell? (a.add (i * 6 + 2)) = some (.int .u32 (x.u.inc : Int)) ∧ W.cell? (a.add (i * 6 + 3)) = some (.int .i64 x.u.st) ∧ W.cell? (a.add (i * 6 + 4)) = some (.int .i64 x.most) ∧ W.cell? (a.add (i * 6 + 5)) = some (.int .i64 x.mem) := by
      intro i hil
      obtain ⟨cs', hc, ht'⟩ := hi i (by omega)
      obtain ⟨_, hcl, hcat⟩ := World.cells?_some hc
      match cs', hcl with
      | [c0, c1, c2, c3, c4, c5], _ =>
        obtain ⟨x, rfl, rfl, rfl, rfl, rfl, rfl, hok⟩ := st_in ht'
        refine ⟨x, hok, ?_, ?_, ?_, ?_, ?_, ?_⟩
        · have := hcat 0 (by omega); rw [Go.Deep.add_add] at this; exact this
        · have := hcat 1 (by omega); rw [Go.Deep.add_add] at this; exact this
        · have := hcat 2 (by omega); rw [Go.Deep.add_add] at this; exact this
        · have := hcat 3 (by omega); rw [Go.Deep.add_add] at this; exact this
        · have := hcat 4 (by omega); rw [Go.Deep.add_add] at this; exact this
        · have := hcat 5 (by omega); rw [Go.Deep.add_add] at this; exact this
    rcases Nat.eq_zero_or_pos len with h0 | hp
    · subst h0
      exact ⟨[], SSt.zero _ _, (fun _ h => by cases h), hl, hm⟩
    · obtain ⟨b, off, spot⟩ := a
      have hspot : spot = none := by
        obtain ⟨x, _, h1, _⟩ := hat 0 hp
        simpa [Addr.add] using World.cell?_spot h1
      subst hspot
      have hb : b < W.heap.size := by
        obtain ⟨x, _, h1, _⟩ := hat 0 hp
        have := bcell_lt h1
        rwa [plain_add] at this
      have hch : ∃ g : Nat → St, ∀ i, i < len → okSt (g i) ∧ StAt W b (off + i * 6) (g i) := by
        have : ∀ i, ∃ x : St, i < len → okSt x ∧ StAt W b (off + i * 6) x := fun i => by
          by_cases hil : i < len
          · obtain ⟨x, hok, h0, h1, h2, h3, h4, h5⟩ := hat i hil
            rw [plain_add] at h0 h1 h2 h3 h4 h5
            refine ⟨x, fun _ => ⟨hok, h0, ⟨by rw [Nat.add_assoc]; exact h1, by rw [Nat.add_assoc, Nat.add_assoc]; exact h2, by rw [Nat.add_assoc, Nat.add_assoc]; exact h3⟩, by rw [Nat.add_assoc]; exact h4, by rw [Nat.add_assoc]; exact h5⟩⟩
          · obtain ⟨x, hok, _⟩ := hat 0 hp
            exact ⟨x, fun h => absurd h hil⟩
        exact ⟨fun i => Classical.choose (this i), fun i => Classical.choose_spec (this i)⟩
      obtain ⟨g, hg⟩ := hch
      refine ⟨(List.range len).map g, ⟨by simp, fun _ => ⟨b, off, rfl, hb, fun i hi => ?_⟩⟩, ?_, hl, hm⟩
      · have hi' : i < len := by simpa using hi
        simpa using (hg i hi').2
      · intro x hx
        obtain ⟨i, hi, rfl⟩ := List.mem_map.1 hx
        exact (hg i (List.mem_range.1 hi)).1
/-- Updates, and how many members there are. -/
structure Oth where
  A : Option Addr
  n : Nat
  c : Nat
  ss : List Up
  mem : Nat
structure okOth (W : World) (s : Oth) : Prop where
  row : SUp W s.A s.n s.ss
  ok : ∀ x ∈ s.ss, okUp x
  nc : s.n ≤ s.c
  cm : s.c ≤ maxLen
  mem : s.mem < 65536
theorem oth_arg {W : World} {base : Nat} {v : Value} {d : DataW H} {p : List MemPlace} (hok : Value.okWide Try.prog W .any base 42 v)
    (hf : DataW.Trod enc Try.prog W 0 (fun _ => true) true 42 v d p) :
    ∃ s : Oth, v = .agg #[.slice s.A s.n s.c, .int .u16 (s.mem : Int)] ∧ okOth W s := by
  obtain ⟨cs, rfl, hcs⟩ := okWide_struct Try.underlying42 hok
  rw [e_oth10] at hcs
  match cs, hcs with
  | ⟨[c0, c1]⟩, _ =>
    obtain ⟨m, hm⟩ := hf
    have hm' : DataW.trod enc Try.prog W 0 (fun _ => true) true m 42 [c0, c1] = some (d, p) := by simpa [Value.cells] using hm
    obtain ⟨ys, n', _, hy, _, hyl, hfl⟩ := DataW.trod_struct Try.underlying42 hm'
    have h0 := hfl 0 _ rfl
    have h1 := hfl 1 _ rfl
    have hyl2 : ys.length = 2 := hyl
    match ys, hyl2 with
    | [y0, y1], _ =>
      have k0 : DataW.trod enc Try.prog W 0 (fun _ => true) true n' 32 [c0] = some y0 := by simpa [e_ups10, e_u16] using h0
      have k1 : DataW.trod enc Try.prog W 0 (fun _ => true) true n' 40 [c1] = some y1 := by simpa [e_ups10, e_u16] using h1
      obtain ⟨z1, e1, _, w1⟩ := DataW.trod_int Try.underlying40 k1
      have b1 : 0 ≤ z1 ∧ z1 ≤ 65535 := by simpa [Lit.wf, IntKind.min, IntKind.max, IntKind.signed, IntKind.bits] using w1
      simp only [List.cons.injEq, and_true] at e1
      have e1' : c1 = .int .u16 ((z1.toNat : Nat) : Int) := by rw [e1, show ((z1.toNat : Nat) : Int) = z1 by omega]
      have hsl : ∃ A l c, c0 = .slice A l c := by
        rcases Go.Deep.open_slice Try.underlying32 k0 with ⟨hcs, _⟩ | ⟨a, len', cap', _, _, _, _, hcs, _⟩
        · simp only [List.cons.injEq, and_true] at hcs
          exact ⟨_, _, _, hcs⟩
        · simp only [List.cons.injEq, and_true] at hcs
          exact ⟨_, _, _, hcs⟩
      obtain ⟨A, l, c, rfl⟩ := hsl
      obtain ⟨ss, hS, hok2, hlc, hcm⟩ := ups_arg (enc := enc) (W := W) (A := A) (len := l) (cap := c) (d := y0.1) (p := y0.2) ⟨n', k0⟩
      exact ⟨⟨A, l, c, ss, z1.toNat⟩, by rw [e1'], hS, hok2, hlc, hcm, by show z1.toNat < 65536; omega⟩
end Go.Proofs.Ytphkaohcfgmmkaa
