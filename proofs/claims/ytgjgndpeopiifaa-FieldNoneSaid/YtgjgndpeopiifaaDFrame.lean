/-
  What comes in, at layer 4: texts, numbers, an item by value, a step by value, steps in a row; each with its bulk.
-/
import Derived.Test.YtgjgndpeopiifaaSFrame
import Derived.Test.YtgjgndpeopiifaaDRefB
import Derived.Test.YtgjgndpeopiifaaStp
import Derived.Lib.SmallJoins
import Derived.Deep.Slices
import Derived.Deep.Fields
import Derived.ChangeSame
import Derived.SliceStrings
import Derived.JoinedCond
namespace Go.Proofs.Ytgjgndpeopiifaa
open Go.Joins Go.ChangeShapes Go.WideShapes Go.ChangeAt Go.RowKit
variable {H : Type} {enc : TypeId × Value → H}

theorem bulk_pos (d : DataW H) : 1 ≤ Rows.uptoBulk d := by
  cases d with
  | lit x => cases x <;> simp [Rows.uptoBulk]
  | _ => simp [Rows.uptoBulk]
theorem bulk_len : ∀ l : List (DataW H), l.length ≤ Rows.uptoBulkAll l
  | [] => Nat.zero_le _
  | d :: r => by
    have h1 := bulk_pos d
    have h2 := bulk_len r
    simp only [Rows.uptoBulkAll, List.length_cons]
    omega
theorem bulk_mem : ∀ (l : List (DataW H)) (d : DataW H), d ∈ l → Rows.uptoBulk d ≤ Rows.uptoBulkAll l
  | x :: r, d, h => by
    simp only [Rows.uptoBulkAll]
    rcases List.mem_cons.1 h with rfl | h
    · omega
    · have := bulk_mem r d h
      omega
theorem size_list (s : ByteArray) : s.data.toList.length = s.size := rfl
theorem bulk_strs : ∀ l : List ByteArray, Rows.uptoBulkAll (strs l : List (DataW H)) ≤ 1048576 → ((l.map fun s => s.data.toList).flatMap textB).length ≤ 9 * Rows.uptoBulkAll (strs l : List (DataW H))
  | [], _ => by simp [strs, Rows.uptoBulkAll]
  | s :: r, h => by
    have h4 : Rows.uptoBulkAll (strs (s :: r) : List (DataW H)) = (s.data.toList.length + 1) + Rows.uptoBulkAll (strs r : List (DataW H)) := by simp [strs, Rows.uptoBulkAll, Rows.uptoBulk]
    rw [h4] at h ⊢
    have h1 := bulk_strs r (by omega)
    have h2 := textB_length s.data.toList
    have h3 := numB_le (n := s.data.toList.length) (by omega)
    rw [List.map_cons, List.flatMap_cons, List.length_append]
    omega
theorem plain_add (b off k : Nat) : (⟨b, off, none⟩ : Addr).add k = ⟨b, off + k, none⟩ := by unfold Addr.add; split <;> simp_all
/-- A slice of texts that came in. -/
theorem texts_opened {W : World} {fuel : Nat} {v : Value} {x : DataW H × List MemPlace} (hf : DataW.trod enc Try.prog W 0 (fun _ => true) true fuel 24 [v] = some x) (hbk : Rows.uptoBulk x.1 ≤ 1048576) :
    ∃ A n c, ∃ l : List (List UInt8), v = .slice A n c ∧ RV W A n (l.map strV) ∧ n ≤ 1048576 ∧ (textsB l).length ≤ 10000000 := by
  rcases open_strings Try.underlying24 Try.underlying9 (by kernel_rfl) hf with ⟨hcs, _⟩ | ⟨a, len, cap, ss, hcs, _, hl, hm, hz, hx, hcell, hws⟩
  · simp only [List.cons.injEq, and_true] at hcs
    refine ⟨none, 0, 0, [], hcs, RV.zero _ _, by omega, ?_⟩
    simp [textsB, numB, digs_zero]
  · simp only [List.cons.injEq, and_true] at hcs
    have hz' : ss.length = cap := by simpa using hz
    have hbk' : Rows.uptoBulkAll (strs (ss.take len) : List (DataW H)) ≤ 1048575 := by
      rw [hx] at hbk
      simp only [Rows.uptoBulk] at hbk
      omega
    have hlen : len ≤ 1048576 := by
      have h1 := bulk_len (strs (ss.take len) : List (DataW H))
      have h2 : (strs (ss.take len) : List (DataW H)).length = len := by simp [strs]; omega
      omega
    refine ⟨some a, len, cap, (ss.take len).map fun s => s.data.toList, hcs, ⟨by simp; omega, fun h0 => ?_⟩, hlen, ?_⟩
    · obtain ⟨b, off, spot⟩ := a
      have hc := hcell 0 (by omega)
      have hspot : spot = none := by simpa [Addr.add] using World.cell?_spot hc
      subst hspot
      rw [plain_add] at hc
      refine ⟨b, off, rfl, bcell_lt hc, fun j hj => ?_⟩
      simp only [List.length_map, List.length_take] at hj
      have hcj := hcell j (by omega)
      rw [plain_add] at hcj
      rw [hcj]
      have hg : ss.getD j ByteArray.empty = ss[j] := by simp [List.getD, List.getElem?_eq_getElem (show j < ss.length by omega)]
      rw [hg]
      simp [strV]
    · rw [textsB, List.length_append]
      have h1 := bulk_strs (H := H) (ss.take len) (by omega)
      have h2 := numB_le (n := ((ss.take len).map fun s => s.data.toList).length) (by simp; omega)
      omega
theorem nums_len : ∀ l : List Nat, (∀ x ∈ l, x < 256 ^ 8) → (l.flatMap numB).length ≤ 9 * l.length
  | [], _ => by simp
  | x :: r, h => by
    have h1 := nums_len r (fun y hy => h y (by simp [hy]))
    have h2 := numB_le (h x (by simp))
    rw [List.flatMap_cons, List.length_append, List.length_cons]
    omega
/-- A slice of numbers that came in. -/
theorem nums_opened {W : World} {fuel : Nat} {v : Value} {x : DataW H × List MemPlace} (hf : DataW.trod enc Try.prog W 0 (fun _ => true) true fuel 25 [v] = some x) (hbk : Rows.uptoBulk x.1 ≤ 1048576) :
    ∃ A n c, ∃ l : List Nat, v = .slice A n c ∧ RV W A n (l.map u64V) ∧ n ≤ 1048576 ∧ (numsB l).length ≤ 10000000 ∧ ∀ x ∈ l, x < 256 ^ 8 := by
  rcases open_ints Try.underlying25 Try.underlying23 (by kernel_rfl) hf with ⟨hcs, _⟩ | ⟨a, len, cap, zs, hcs, _, hl, hm, hz, hx, hcell, hwz⟩
  · simp only [List.cons.injEq, and_true] at hcs
    refine ⟨none, 0, 0, [], hcs, RV.zero _ _, by omega, ?_, by simp⟩
    simp [numsB, numB, digs_zero]
  · simp only [List.cons.injEq, and_true] at hcs
    have hz' : zs.length = cap := by simpa using hz
    have hwz' : ∀ z ∈ zs, 0 ≤ z ∧ z ≤ 18446744073709551615 := fun z hz => by
      have := hwz z hz
      simpa [Lit.wf, IntKind.min, IntKind.max, IntKind.signed, IntKind.bits] using this
    have hlen : len ≤ 1048576 := by
      rw [hx] at hbk
      simp only [Rows.uptoBulk] at hbk
      have h1 := bulk_len (lits IntKind.u64 (zs.take len) : List (DataW H))
      have h2 : (lits IntKind.u64 (zs.take len) : List (DataW H)).length = len := by simp [lits]; omega
      omega
    have hlt : ∀ x ∈ (zs.take len).map Int.toNat, x < 256 ^ 8 := fun x hx => by
      obtain ⟨z, h1, rfl⟩ := List.mem_map.1 hx
      have := hwz' z (List.mem_of_mem_take h1)
      omega
    refine ⟨some a, len, cap, (zs.take len).map Int.toNat, hcs, ⟨by simp; omega, fun h0 => ?_⟩, hlen, ?_, hlt⟩
    · obtain ⟨b, off, spot⟩ := a
      have hc := hcell 0 (by omega)
      have hspot : spot = none := by simpa [Addr.add] using World.cell?_spot hc
      subst hspot
      rw [plain_add] at hc
      refine ⟨b, off, rfl, bcell_lt hc, fun j hj => ?_⟩
      simp only [List.length_map, List.length_take] at hj
      have hcj := hcell j (by omega)
      rw [plain_add] at hcj
      rw [hcj]
      have hjz : j < zs.length := by omega
      have hg : zs.getD j 0 = zs[j] := by simp [List.getD, List.getElem?_eq_getElem hjz]
      have h1 := hwz' zs[j] (List.getElem_mem hjz)
      rw [hg]
      simp [u64V]
      omega
    · rw [numsB, List.length_append]
      have h1 := nums_len _ hlt
      have h2 := numB_le (n := ((zs.take len).map Int.toNat).length) (by simp; omega)
      simp only [List.length_map, List.length_take] at h1 h2 ⊢
      omega
/-- An item by value. -/
theorem item_arg {W : World} {base : Nat} {v : Value} {d : DataW H} {p : List MemPlace} (hok : Value.okWide Try.prog W .any base 27 v)
    (hf : DataW.Trod enc Try.prog W 0 (fun _ => true) true 27 v d p) (hbk : Rows.uptoBulk d ≤ 1048576) :
    ∃ (s : ByteArray) (is : Bool) (A1 : Option Addr) (n1 c1 : Nat) (l : List (List UInt8)) (A2 : Option Addr) (n2 c2 : Nat) (m : List Nat), v = .agg #[.string s, .bool is, .slice A1 n1 c1, .slice A2 n2 c2] ∧ s.size ≤ 1048576 ∧
      RV W A1 n1 (l.map strV) ∧ n1 ≤ 1048576 ∧ (textsB l).length ≤ 10000000 ∧ RV W A2 n2 (m.map u64V) ∧ n2 ≤ 1048576 ∧ (numsB m).length ≤ 10000000 ∧ ∀ x ∈ m, x < 256 ^ 8 := by
  obtain ⟨u0, u1, u2, u3, y0, y1, y2, y3, n0, rfl, hd, _, t0, t1, t2, t3⟩ := open_agg4 Try.underlying27 (by kernel_rfl) (by kernel_rfl) hok hf
  obtain ⟨s, e0, rfl, _⟩ := DataW.trod_string Try.underlying9 t0
  obtain ⟨is, e1, rfl⟩ := DataW.trod_bool Try.underlying4 t1
  rw [hd] at hbk
  simp only [Rows.uptoBulk, Rows.uptoBulkAll] at hbk
  obtain ⟨A1, n1, c1, l, rfl, hl, hn1, hb1⟩ := texts_opened t2 (by omega)
  obtain ⟨A2, n2, c2, m, rfl, hm, hn2, hb2, hlt⟩ := nums_opened t3 (by omega)
  simp only [List.cons.injEq, and_true] at e0 e1
  subst e0 e1
  exact ⟨s, is, A1, n1, c1, l, A2, n2, c2, m, rfl, by have := size_list s; omega, hl, hn1, hb1, hm, hn2, hb2, hlt⟩
theorem stp_of {W : World} {n0 n1 n2 n3 : Nat} {v0 v1 v2 v3 : Value} {y0 y1 y2 y3 : DataW H × List MemPlace}
    (t0 : DataW.trod enc Try.prog W 0 (fun _ => true) true n0 3 [v0] = some y0) (t1 : DataW.trod enc Try.prog W 0 (fun _ => true) true n1 3 [v1] = some y1)
    (t2 : DataW.trod enc Try.prog W 0 (fun _ => true) true n2 3 [v2] = some y2) (t3 : DataW.trod enc Try.prog W 0 (fun _ => true) true n3 23 [v3] = some y3) :
    ∃ s : Stp, v0 = .int .i64 s.kind ∧ v1 = .int .i64 s.many ∧ v2 = .int .i64 s.most ∧ v3 = .int .u64 (s.num : Int) ∧ okStp s := by
  obtain ⟨k, e0, _, w0⟩ := DataW.trod_int Try.underlying3 t0
  obtain ⟨many, e1, _, w1⟩ := DataW.trod_int Try.underlying3 t1
  obtain ⟨most, e2, _, w2⟩ := DataW.trod_int Try.underlying3 t2
  obtain ⟨num, e3, _, w3⟩ := DataW.trod_int Try.underlying23 t3
  simp only [List.cons.injEq, and_true] at e0 e1 e2 e3
  have h1 : -9223372036854775808 ≤ many ∧ many ≤ 9223372036854775807 := by simpa [Lit.wf, IntKind.min, IntKind.max, IntKind.signed, IntKind.bits] using w1
  have h2 : -9223372036854775808 ≤ most ∧ most ≤ 9223372036854775807 := by simpa [Lit.wf, IntKind.min, IntKind.max, IntKind.signed, IntKind.bits] using w2
  have h3 : 0 ≤ num ∧ num ≤ 18446744073709551615 := by simpa [Lit.wf, IntKind.min, IntKind.max, IntKind.signed, IntKind.bits] using w3
  exact ⟨⟨k, many, most, num.toNat⟩, e0, e1, e2, by rw [e3, show ((num.toNat : Nat) : Int) = num by omega], h1.2, h2.2, by show num.toNat < 256 ^ 8; omega⟩
/-- A step by value. -/
theorem step_arg {W : World} {base : Nat} {v : Value} {d : DataW H} {p : List MemPlace} (hok : Value.okWide Try.prog W .any base 48 v)
    (hf : DataW.Trod enc Try.prog W 0 (fun _ => true) true 48 v d p) : ∃ s : Stp, v = .agg #[.int .i64 s.kind, .int .i64 s.many, .int .i64 s.most, .int .u64 (s.num : Int)] ∧ okStp s := by
  obtain ⟨u0, u1, u2, u3, y0, y1, y2, y3, n0, rfl, _, _, t0, t1, t2, t3⟩ := open_agg4 Try.underlying48 (by kernel_rfl) (by kernel_rfl) hok hf
  obtain ⟨s, rfl, rfl, rfl, rfl, h⟩ := stp_of t0 t1 t2 t3
  exact ⟨s, rfl, h⟩
/-- A slice of steps that came in. -/
theorem steps_arg {W : World} {A : Option Addr} {len cap : Nat} {d : DataW H} {p : List MemPlace}
    (h : DataW.Trod enc Try.prog W 0 (fun _ => true) true 40 (.slice A len cap) d p) (hbk : Rows.uptoBulk d ≤ 1048576) :
    ∃ ss, SSt W A len ss ∧ (∀ x ∈ ss, okStp x) ∧ len ≤ 1048576 := by
  obtain ⟨fuel, hf0⟩ := h
  have hf : DataW.trod enc Try.prog W 0 (fun _ => true) true fuel 40 [.slice A len cap] = some (d, p) := hf0
  rcases Go.Deep.open_slice Try.underlying40 hf with ⟨hcs, _⟩ | ⟨a, len', cap', m, n, D, Pl, hcs, _, hl, hm, hmm, hx, hi⟩
  · simp only [List.cons.injEq, Value.slice.injEq, and_true] at hcs
    obtain ⟨rfl, rfl, rfl⟩ := hcs
    exact ⟨[], SSt.zero _ _, (fun _ h => by cases h), by omega⟩
  · simp only [List.cons.injEq, Value.slice.injEq, and_true] at hcs
    obtain ⟨rfl, rfl, rfl⟩ := hcs
    simp only [if_true] at hmm
    subst hmm
    have hC : Try.prog.cellsOf 48 = 4 := by kernel_rfl
    rw [hC] at hi
    have hlen : len ≤ 1048576 := by
      simp only [Prod.mk.injEq] at hx
      rw [hx.1] at hbk
      simp only [Rows.uptoBulk] at hbk
      have h1 := bulk_len ((List.range len).map D)
      simp only [List.length_map, List.length_range] at h1
      omega
    have hat : ∀ i, i < len → ∃ x : Stp, okStp x ∧ W.cell? (a.add (i * 4)) = some (.int .i64 x.kind) ∧ W.cell? (a.add (i * 4 + 1)) = some (.int .i64 x.many) ∧ W.cell? (a.add (i * 4 + 2)) = some (.int .i64 x.most) ∧ W.cell? (a.add (i * 4 + 3)) = some (.int .u64 (x.num : Int)) := by
      intro i hil
      obtain ⟨cs', hc, ht'⟩ := hi i (by omega)
      obtain ⟨_, hcl, hcat⟩ := World.cells?_some hc
      obtain ⟨ys, n', _, hy, _, hyl, hfl⟩ := DataW.trod_struct Try.underlying48 ht'
      match cs', hcl with
      | [c0, c1, c2, c3], _ =>
        have h0 := hfl 0 _ rfl
        have h1 := hfl 1 _ rfl
        have h2 := hfl 2 _ rfl
        have h3 := hfl 3 _ rfl
        have hyl2 : ys.length = 4 := hyl
        match ys, hyl2 with
        | [y0, y1, y2, y3], _ =>
          have ei : Try.prog.cellsOf 3 = 1 := by kernel_rfl
          have eu : Try.prog.cellsOf 23 = 1 := by kernel_rfl
          have k0 : DataW.trod enc Try.prog W 0 (fun _ => true) true n' 3 [c0] = some y0 := by simpa [ei] using h0
          have k1 : DataW.trod enc Try.prog W 0 (fun _ => true) true n' 3 [c1] = some y1 := by simpa [ei] using h1
          have k2 : DataW.trod enc Try.prog W 0 (fun _ => true) true n' 3 [c2] = some y2 := by simpa [ei] using h2
          have k3 : DataW.trod enc Try.prog W 0 (fun _ => true) true n' 23 [c3] = some y3 := by simpa [ei, eu] using h3
          obtain ⟨x, rfl, rfl, rfl, rfl, hok⟩ := stp_of k0 k1 k2 k3
          refine ⟨x, hok, ?_, ?_, ?_, ?_⟩
          · have := hcat 0 (by omega); rw [Go.Deep.add_add] at this; exact this
          · have := hcat 1 (by omega); rw [Go.Deep.add_add] at this; exact this
          · have := hcat 2 (by omega); rw [Go.Deep.add_add] at this; exact this
          · have := hcat 3 (by omega); rw [Go.Deep.add_add] at this; exact this
    rcases Nat.eq_zero_or_pos len with h0 | hp
    · subst h0
      exact ⟨[], SSt.zero _ _, (fun _ h => by cases h), hlen⟩
    · obtain ⟨b, off, spot⟩ := a
      have hspot : spot = none := by
        obtain ⟨x, _, h1, _⟩ := hat 0 hp
        simpa [Addr.add] using World.cell?_spot h1
      subst hspot
      have hb : b < W.heap.size := by
        obtain ⟨x, _, h1, _⟩ := hat 0 hp
        have := bcell_lt h1
        rwa [plain_add] at this
      have hch : ∃ g : Nat → Stp, ∀ i, i < len → okStp (g i) ∧ StpAt W b (off + i * 4) (g i) := by
        have : ∀ i, ∃ x : Stp, i < len → okStp x ∧ StpAt W b (off + i * 4) x := fun i => by
          by_cases hil : i < len
          · obtain ⟨x, hok, h1, h2, h3, h4⟩ := hat i hil
            rw [plain_add] at h1 h2 h3 h4
            exact ⟨x, fun _ => ⟨hok, h1, by rw [Nat.add_assoc]; exact h2, by rw [Nat.add_assoc]; exact h3, by rw [Nat.add_assoc]; exact h4⟩⟩
          · exact ⟨⟨0, 0, 0, 0⟩, fun h => absurd h hil⟩
        exact ⟨fun i => Classical.choose (this i), fun i => Classical.choose_spec (this i)⟩
      obtain ⟨g, hg⟩ := hch
      refine ⟨(List.range len).map g, ⟨by simp, fun _ => ⟨b, off, rfl, hb, fun i hi => ?_⟩⟩, ?_, hlen⟩
      · have hi' : i < len := by simpa using hi
        simpa using (hg i hi').2
      · intro x hx
        obtain ⟨i, hi, rfl⟩ := List.mem_map.1 hx
        exact (hg i (List.mem_range.1 hi)).1
end Go.Proofs.Ytgjgndpeopiifaa
