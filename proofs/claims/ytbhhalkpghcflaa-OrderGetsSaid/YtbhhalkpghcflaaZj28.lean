/-
  An append of a slice of structs (none of them, too) to a row of the call's own, as an operation of a region that is walked by a table (own law, of whatever program).
-/
import Derived.Test.YtbhhalkpghcflaaZj10
import Derived.Test.YtbhhalkpghcflaaZj3
import Derived.Laws.AppendOwnNone
namespace Go.Proofs.Ytbhhalkpghcflaa
open Go.RowKit
set_option linter.unusedSimpArgs false

theorem run_append_sk {α : Type} {enc : α → List Value} {k : Nat} {E : TypeId} {w : World} {P : Program} (t ty : TypeId)
    (i : TypeInfo) (z : Value) (bytes : Nat) (ht : P.underlying t = some (.slice E)) (hi : P.info? E = some i) (hz : i.zero = some z) (hsize : i.size = k) (hby : i.bytes = bytes) (hzs : z.cells.size = k) (hk0 : 0 < k)
    (hk : ∀ x, (enc x).length = k) (ys : List α) (h1 : ∀ y ∈ ys, ∀ u ∈ enc y, u.oneCell' = true)
    (base : Nat) (v : Value) (l : List α) (hown : rowK enc E k w base v l) (A : Option Addr) (c : Nat) (hc : SK enc k w A ys.length ys) (hA : A = none → c = 0)
    (hl : l.length + ys.length ≤ maxLen) (hlb : (l.length + ys.length) * bytes ≤ 140737488355328) (hbase : base ≤ w.heap.size) :
    ∃ v' w', (Builtin.append_ #[t, t] ty #[v, .slice A ys.length c]).run P w = .ok v' w' ∧ rowK enc E k w' base v' (l ++ ys) ∧ w.grownBy w' v.ownBlock := by
  cases A with
  | none =>
    have hn : ys = [] := by
      rcases Nat.eq_zero_or_pos ys.length with e | e
      · exact List.eq_nil_of_length_eq_zero e
      · obtain ⟨b, off, e2, _⟩ := hc.2 e
        cases e2
    subst hn
    rw [hA rfl]
    exact ⟨v, w, run_append_owned_none w base t ty E i k ht hi v l.length (l.flatMap enc) hown, by rw [List.append_nil]; exact hown, ⟨rfl, rfl, rfl, Nat.le_refl _, fun _ _ _ => rfl⟩⟩
  | some ad =>
    obtain ⟨v', w', hr, ho, hg, _⟩ := run_append_own (P := P) w base t ty E i z k bytes ht hi hz hsize hby hzs hk0 v l.length (l.flatMap enc) hown ad ys.length c (ys.flatMap enc) (flat_length hk ys) (fun j u hu => by
      have hj : j < ys.length * k := by rw [← flat_length hk]; exact (List.getElem?_eq_some_iff.1 hu).1
      have hd : j / k < ys.length := (Nat.div_lt_iff_lt_mul hk0).2 hj
      have hm : j % k < k := Nat.mod_lt _ hk0
      have e := flat_at hk hd (j % k) hm
      have ej : j / k * k + j % k = j := by rw [Nat.mul_comm]; exact Nat.div_add_mod j k
      rw [ej, hu] at e
      obtain ⟨b, off, e2, _, hit⟩ := hc.2 (Nat.lt_of_le_of_lt (Nat.zero_le _) hd)
      cases e2
      have := hit (j / k) hd (j % k) u e.symm
      rw [plain_add, ← ej, ← Nat.add_assoc]
      exact this) (fun u hu => by
        obtain ⟨x, hx, hu⟩ := List.mem_flatMap.1 hu
        exact h1 x hx u hu) hl hlb hbase
    refine ⟨v', w', hr, ?_, hg⟩
    unfold rowK
    rw [List.flatMap_append, List.length_append]
    exact ho
/-- The same to a row without room: nothing that was there changes. -/
theorem run_append_full {α : Type} {enc : α → List Value} {k : Nat} {E : TypeId} {w : World} {P : Program} (t ty : TypeId)
    (i : TypeInfo) (z : Value) (bytes : Nat) (ht : P.underlying t = some (.slice E)) (hi : P.info? E = some i) (hz : i.zero = some z) (hsize : i.size = k) (hby : i.bytes = bytes) (hzs : z.cells.size = k) (hk0 : 0 < k)
    (hk : ∀ x, (enc x).length = k) (ys : List α) (h1 : ∀ y ∈ ys, ∀ u ∈ enc y, u.oneCell' = true)
    (base Z : Nat) (l : List α) (hown : rowK enc E k w base (.slice (some ⟨Z, 0, none⟩) l.length l.length) l) (A : Option Addr) (c : Nat) (hc : SK enc k w A ys.length ys) (hA : A = none → c = 0) (hA0 : ys.length = 0 → A = none)
    (hl : l.length + ys.length ≤ maxLen) (hlb : (l.length + ys.length) * bytes ≤ 140737488355328) (hbase : base ≤ w.heap.size) :
    ∃ v' w', (Builtin.append_ #[t, t] ty #[.slice (some ⟨Z, 0, none⟩) l.length l.length, .slice A ys.length c]).run P w = .ok v' w' ∧ rowK enc E k w' base v' (l ++ ys) ∧ Below w.heap.size w w' := by
  obtain ⟨v', w', hr, ho, hg⟩ := run_append_sk (P := P) t ty i z bytes ht hi hz hsize hby hzs hk0 hk ys h1 base _ l hown A c hc hA hl hlb hbase
  refine ⟨v', w', hr, ho, ?_⟩
  cases A with
  | none =>
    have hn : ys = [] := by
      rcases Nat.eq_zero_or_pos ys.length with e | e
      · exact List.eq_nil_of_length_eq_zero e
      · obtain ⟨b, off, e2, _⟩ := hc.2 e
        cases e2
    subst hn
    rw [hA rfl, show ([] : List α).length = 0 from rfl, run_append_owned_none w base t ty E i k ht hi _ l.length (l.flatMap enc) hown] at hr
    simp only [Result.ok.injEq] at hr
    rw [← hr.2]
    exact Below.refl _ _
  | some ad =>
    have hm : 0 < ys.length := by
      rcases Nat.eq_zero_or_pos ys.length with e | e
      · cases hA0 e
      · exact e
    subst hsize
    subst hby
    have hn : ∀ j u, (ys.flatMap enc)[j]? = some u → w.cell? (ad.add j) = some u := fun j u hu => by
      have hj : j < ys.length * i.size := by rw [← flat_length hk]; exact (List.getElem?_eq_some_iff.1 hu).1
      have hd : j / i.size < ys.length := (Nat.div_lt_iff_lt_mul hk0).2 hj
      have e := flat_at hk hd (j % i.size) (Nat.mod_lt _ hk0)
      have ej : j / i.size * i.size + j % i.size = j := by rw [Nat.mul_comm]; exact Nat.div_add_mod j i.size
      rw [ej, hu] at e
      obtain ⟨b, off, e2, _, hit⟩ := hc.2 (Nat.lt_of_le_of_lt (Nat.zero_le _) hd)
      cases e2
      have := hit (j / i.size) hd (j % i.size) u e.symm
      rw [plain_add, ← ej, ← Nat.add_assoc]
      exact this
    have hg := run_append_grow (P := P) w t ty E i z ht hi hz ⟨Z, 0, none⟩ l.length l.length (l.flatMap enc) (flat_length hk l) (World.ownsRow.cells hown (g := Z) rfl) ad ys.length c (ys.flatMap enc) (flat_length hk ys) hn (by omega) (by unfold maxLen at hl; omega) (growslice_fits (by unfold maxLen at hl; omega) hlb)
    rw [hg] at hr
    simp only [Result.ok.injEq] at hr
    rw [← hr.2]
    exact (Below.refl _ w).drew.alloc (Nat.le_refl _) _
theorem runs_append {P : Program} {o : Oper} {r : Operand → Value} {K : Value → World → Prop} {w w' : World} {v vx v' : Value} (s x : Operand) (t : TypeId)
    (ho : o.op = .call { callee := .builtin .append, args := #[s, x], argTypes := #[t, t] }) (hs : r s = v) (hx : r x = vx)
    (hr : (Builtin.append_ #[t, t] o.type #[v, vx]).run P w = .ok v' w') (h : K v' w') : Go.Rel.Runs P ((execOp r o).run P w) K := by
  unfold execOp
  simp only [ho, resolve, invoke, builtin, Sem.run_bind, Sem.run_pure, Result.andThen_ok, List.map_toArray, List.map_cons, List.map_nil, hs, hx, hr]
  exact h
end Go.Proofs.Ytbhhalkpghcflaa
