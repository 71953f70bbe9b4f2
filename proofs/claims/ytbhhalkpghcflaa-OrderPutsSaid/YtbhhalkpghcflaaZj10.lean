/-
  More on slices of bytes: cut, turned to a text, kept, appended (what frame and field both use).
-/
import Derived.Test.YtbhhalkpghcflaaZj9
import Derived.Laws.IdiomStrings
import Derived.Lib.AppendStr
namespace Go.Proofs.Ytbhhalkpghcflaa
open Go.RowKit

theorem rb_drop {w : World} {b off n m : Nat} {xs : List UInt8} (h : RB w (some ⟨b, off, none⟩) n xs) (hm : m ≤ n) : RB w (some ⟨b, off + m, none⟩) (n - m) (xs.drop m) := by
  have hl := h.1
  refine ⟨by rw [List.length_drop, hl], fun hp => ?_⟩
  obtain ⟨b', off', e, hb, hc⟩ := h.2 (by omega)
  simp only [Option.some.injEq, Addr.mk.injEq] at e
  obtain ⟨rfl, rfl, _⟩ := e
  refine ⟨b, off + m, rfl, hb, fun j hj => ?_⟩
  rw [List.length_drop] at hj
  rw [List.getElem_drop, Nat.add_assoc]
  exact hc (m + j) (by omega)
theorem own_conv {w : World} {A : Option Addr} {n : Nat} {xs : List UInt8} (h : RB w A n xs) (c : Nat) : (convert 32 9 (.slice A n c)).run Try.prog w = .ok (.string ⟨xs.toArray⟩) w := by
  have hl := h.1
  rcases Nat.eq_zero_or_pos n with h0 | hp
  · subst h0
    obtain rfl : xs = [] := List.eq_nil_of_length_eq_zero hl
    rw [run_convert_bytes_string w _ _ _ _ 0 c Try.underlying32 Try.underlying5 Try.underlying9]
    cases A <;> simp [Conv.bytesToString, loadCells]
    all_goals rfl
  · obtain ⟨b, off, rfl, _, hc⟩ := h.2 hp
    subst hl
    refine run_convert_bytes_back w _ _ _ ⟨b, off, none⟩ c xs Try.underlying32 Try.underlying5 Try.underlying9 fun j hj => ?_
    have hplain : (⟨b, off, none⟩ : Addr).add j = ⟨b, off + j, none⟩ := by unfold Addr.add; split <;> simp_all
    rw [hplain]
    exact hc j hj
theorem RB.at_ {w : World} {A : Option Addr} {n : Nat} {xs : List UInt8} (h : RB w A n xs) (hn : 0 < n) : ∃ b off, A = some ⟨b, off, none⟩ ∧ b < w.heap.size ∧ ∀ j, j < n → w.cell? ⟨b, off + j, none⟩ = some (.int .u8 ((xs.getD j 0).toNat : Int)) := by
  obtain ⟨b, off, e, hb, hc⟩ := h.2 hn
  refine ⟨b, off, e, hb, fun j hj => ?_⟩
  have hl := h.1
  have := hc j (by omega)
  rw [this]
  simp [List.getD, List.getElem?_eq_getElem (show j < xs.length by omega)]
theorem RB.but {S : Nat → Prop} {w w' : World} {A : Option Addr} {n : Nat} {xs : List UInt8} (h : RB w A n xs) (hb : But S w w') (hs : ∀ b off, A = some ⟨b, off, none⟩ → 0 < n → ¬ S b) : RB w' A n xs :=
  ⟨h.1, fun hn => by
    obtain ⟨b, off, e, hlt, hc⟩ := h.2 hn
    exact ⟨b, off, e, Nat.lt_of_lt_of_le hlt hb.size, fun j hj => (hb.cell (p := ⟨b, off + j, none⟩) hlt (hs b off e hn)).trans (hc j hj)⟩⟩
theorem wpList_append_rbh {P : Program} {w : World} {ops : Array Oper} {rest : List Oper} {o : Oper} {a : Act} {Q : Exit → Act → World → Prop} (hgd : o.guard = none) (s x : Operand) (t : TypeId)
    (ho : o.op = .call { callee := .builtin .append, args := #[s, x], argTypes := #[t, t] })
    (base : Nat) (i : TypeInfo) (ht : P.underlying t = some (.slice 5)) (hi : P.info? 5 = some i) (hz : i.zero = some (.int .u8 0))
    (hsize : i.size = 1) (hby : i.bytes = 1)
    (v : Value) (m : Nat) (ys : List UInt8) (hs : a.eval s = v) (hown : w.ownsRow base 5 1 v m (ys.map byteV))
    (A : Option Addr) (n c : Nat) (xs : List UInt8) (hx : a.eval x = .slice A n c) (hnil : A = none → c = 0) (hR : RB w A n xs)
    (h63 : m + n ≤ maxLen) (hbytes : (m + n) * 1 ≤ 140737488355328) (hbase : base ≤ w.heap.size)
    (h : Hid (∀ v' w', w'.ownsRow base 5 1 v' (m + n) ((ys ++ xs).map byteV) → w.grownBy w' v.ownBlock → wpList P ops Q rest (a.put o.dst v') w')) : wpList P ops Q (o :: rest) a w :=
  wpList_append_rb hgd s x t ho base 5 i (.int .u8 0) 1 ht hi hz hsize hby rfl v m (ys.map byteV) hs hown A n c xs hx hnil hR h63 hbytes hbase (fun v' w' h1 h2 => h.out v' w' (by rw [List.map_append]; exact h1) h2)
end Go.Proofs.Ytbhhalkpghcflaa
