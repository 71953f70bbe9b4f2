/-
  The document's draws: New and Below, walked (layer 5).
-/
import Derived.Test.YtckeknhoimgccaaEBelow
namespace Go.Proofs.Ytckeknhoimgccaa
open Go.RowKit
set_option linter.unusedSimpArgs false

/-- What the document's New gives. -/
def MadeR (S : Nat → Prop) (w : World) (d : Dr) (e : Ending) (w' : World) : Prop := ∃ B, e = .returned (.pointer (some ⟨B, 0, none⟩)) ∧ w.heap.size ≤ B ∧ B < w'.heap.size ∧ RwAt (fun k => S k ∨ w.heap.size ≤ k) w' B d ∧ Below w.heap.size w w'
theorem madeR_of {S : Nat → Prop} {w : World} {A : Option Addr} {m c : Nat} {xs : List Nat} (hR : RVn S w A m (xs.map u32V)) (hmc : m ≤ c) (hc : c ≤ maxLen) (hx : okDr ⟨xs, 0⟩) (hl : xs.length ≤ 4096) :
    MadeR S w ⟨xs, 0⟩ (.returned (.pointer (some ⟨w.heap.size, 0, none⟩))) (w.alloc (.cells #[.slice A m c, .int .i64 0] 48)) := by
  refine ⟨w.heap.size, rfl, Nat.le_refl _, by simp, ⟨⟨hx, hl, Nat.zero_le _⟩, .inr (Nat.le_refl _), A, m, c, heap_alloc_new _ _, ⟨hR.1.below ((Below.refl _ _).alloc (Nat.le_refl _) _), fun b off e hn hs => ?_⟩, hmc, hc⟩, (Below.refl _ _).alloc (Nat.le_refl _) _⟩
  obtain ⟨b', off', e', hlt, _⟩ := hR.1.2 hn
  rcases hs with hs | hs
  · exact hR.2 b off e hn hs
  · rw [e] at e'
    simp only [Option.some.injEq, Addr.mk.injEq] at e'
    omega
theorem RVn.take {S : Nat → Prop} {w : World} {A : Option Addr} {n : Nat} {xs : List Value} (h : RVn S w A n xs) {k : Nat} (hk : k ≤ n) : RVn S w A k (xs.take k) := ⟨h.1.take hk, fun b off e h0 => h.2 b off e (by omega)⟩
set_option maxHeartbeats 1000000 in
theorem rnew_any (S : Nat → Prop) (A : Option Addr) (n c : Nat) (xs : List Nat) (w : World) (hR : RVn S w A n (xs.map u32V)) (hnc : n ≤ c) (hc : c ≤ maxLen) (hx : ∀ x ∈ xs, x < 4294967296) :
    Calls Try.prog 10 #[.slice A n c] w (MadeR S w ⟨xs.take 4096, 0⟩) := by
  have hln : xs.length = n := by simpa using hR.1.1
  have hok : okDr ⟨xs.take 4096, 0⟩ := fun x h => hx x (List.mem_of_mem_take h)
  have hc' := hc
  unfold maxLen at hc
  by_cases h4 : n ≤ 4096
  · have hM : MadeR S w ⟨xs.take 4096, 0⟩ (.returned (.pointer (some ⟨w.heap.size, 0, none⟩))) (w.alloc (.cells #[.slice A n c, .int .i64 0] 48)) := madeR_of (by rw [List.take_of_length_le (by omega)]; exact hR) hnc hc' hok (by rw [List.length_take]; omega)
    have HM := Lib.hid hM
    clear hM hR hln hok hx hc'
    have q : ¬ (4096 : Int) < (n : Int) := by omega
    go_enter Try.func10, Try.ntmps10
    go_wp2
    go_ret
    exact HM.out
  · have hM : MadeR S w ⟨xs.take 4096, 0⟩ (.returned (.pointer (some ⟨w.heap.size, 0, none⟩))) (w.alloc (.cells #[.slice A 4096 c, .int .i64 0] 48)) := madeR_of (by rw [List.map_take]; exact hR.take (by omega)) (by omega) hc' hok (by rw [List.length_take]; omega)
    have HM := Lib.hid hM
    clear hM hR hln hok hx hc'
    have q : (4096 : Int) < (n : Int) := by omega
    have q1 : (4096 : Int) ≤ (c : Int) := by omega
    go_enter Try.func10, Try.ntmps10
    go_wp2
    go_ret
    exact HM.out

theorem RwAt.drewN {S : Nat → Prop} {w : World} {B : Nat} {d : Dr} (h : RwAt S w B d) (n : Nat) : RwAt S (w.drewN n) B d := h
theorem rbelow_few (S : Nat → Prop) (B : Nat) (d : Dr) (n : Int) (w : World) (h : RwAt S w B d) (hn : n < 2) :
    Calls Try.prog 28 #[.pointer (some ⟨B, 0, none⟩), .int .i64 n] w fun e w' => e = .returned (.int .i64 0) ∧ RwAt S w' B d ∧ But (· = B) w w' := by
  have H := Lib.hid h
  clear h
  go_enter Try.func28, Try.ntmps28
  go_wp2
  go_quiet (fail)
  go_wp2
  go_ret
  exact ⟨rfl, H.out.drewN _, (But.refl _ _).drewN _⟩
theorem rbelow_empty (S : Nat → Prop) (B : Nat) (d : Dr) (n : Int) (w : World) (h : RwAt S w B d) (hn : 2 ≤ n) (hs : d.l.length ≤ d.at_) :
    Calls Try.prog 28 #[.pointer (some ⟨B, 0, none⟩), .int .i64 n] w fun e w' => e = .returned (.int .i64 0) ∧ RwAt S w' B d ∧ But (· = B) w w' := by
  have H := Lib.hid h
  obtain ⟨hok, hSB, A, m, c, hh, hr, hm⟩ := h
  have hml : d.l.length = m := by simpa using hr.1.1
  have c0 : w.cell? ⟨B, 0, none⟩ = some (.slice A m c) := by rw [cell_of_row _ _ _ _ _ _ hh]; rfl
  have c1 : w.cell? ⟨B, 1, none⟩ = some (.int .i64 (d.at_ : Int)) := by rw [cell_of_row _ _ _ _ _ _ hh]; rfl
  have q : decide (n < 2) = false := by simpa using hn
  have q1 : (m : Int) ≤ (d.at_ : Int) := by omega
  clear hok hSB hh hr hm hml
  go_enter Try.func28, Try.ntmps28
  go_wp2
  go_quiet (fail)
  go_wp2
  go_ret
  exact ⟨rfl, H.out.drewN _, (But.refl _ _).drewN _⟩
/-- What the store leaves. -/
theorem rw_next {S : Nat → Prop} {w : World} {B : Nat} {d : Dr} (h : RwAt S w B d) (hs : d.at_ < d.l.length) :
    RwAt S (w.setCell ⟨B, 1, none⟩ (.int .i64 ((d.at_ : Int) + 1))) B ⟨d.l, d.at_ + 1⟩ ∧ But (· = B) w (w.setCell ⟨B, 1, none⟩ (.int .i64 ((d.at_ : Int) + 1))) := by
  obtain ⟨hok, hSB, A, m, c, hh, hr, hm⟩ := h
  have hb : But (· = B) w (w.setCell ⟨B, 1, none⟩ (.int .i64 ((d.at_ : Int) + 1))) := But.set (S := (· = B)) w (p := ⟨B, 1, none⟩) rfl _
  refine ⟨⟨⟨hok.1, hok.2.1, hs⟩, hSB, A, m, c, ?_, hr.but (hb.mono fun k hk => hk ▸ hSB), hm⟩, hb⟩
  rw [block_set hh]
  simp
set_option maxHeartbeats 1000000 in
theorem rbelow_some (S : Nat → Prop) (B : Nat) (d : Dr) (n : Int) (w : World) (h : RwAt S w B d) (hn : 2 ≤ n) (hn63 : n ≤ 9223372036854775807) (hs : d.at_ < d.l.length) :
    Calls Try.prog 28 #[.pointer (some ⟨B, 0, none⟩), .int .i64 n] w fun e w' => e = .returned (.int .i64 (d.below n : Int)) ∧ RwAt S w' B (d.next n) ∧ But (· = B) w w' := by
  have H := Lib.hid h
  obtain ⟨hok, hSB, A, m, c, hh, hr, hm⟩ := h
  have hml : d.l.length = m := by simpa using hr.1.1
  have c0 : w.cell? ⟨B, 0, none⟩ = some (.slice A m c) := by rw [cell_of_row _ _ _ _ _ _ hh]; rfl
  have c1 : w.cell? ⟨B, 1, none⟩ = some (.int .i64 (d.at_ : Int)) := by rw [cell_of_row _ _ _ _ _ _ hh]; rfl
  have f1 : w.frozen? ⟨B, 1, none⟩ = false := by simp [World.frozen?, hh]
  obtain ⟨b, off, rfl, hb, hx⟩ := hr.1.at_ (k := d.at_) (by omega)
  obtain ⟨x, hxx⟩ : ∃ x, d.l.getD d.at_ 0 = x := ⟨_, rfl⟩
  have hx32 : x < 4294967296 := by rw [← hxx]; exact hok.1.get _
  have hxe : (d.l.map u32V)[d.at_]'(by simp; omega) = .int .u32 (x : Int) := by
    rw [List.getElem_map, ← hxx]
    simp [u32V, List.getD, List.getElem?_eq_getElem hs]
  rw [hxe] at hx
  have q : decide (n < 2) = false := by simpa using hn
  have q1 : ¬ (m : Int) ≤ (d.at_ : Int) := by omega
  have q2 : (d.at_ : Int) < (m : Int) := by omega
  have q3 : (0 : Int) ≤ (d.at_ : Int) := by omega
  have q4 : (d.at_ : Int) ≤ 4096 := by have := hok.2.1; have := hok.2.2; omega
  have HP : Hid ((x : Int) * min n 2147483648 / 4294967296 = (d.below n : Int)) := Lib.hid (by
    have e : (capB n : Int) = min n 2147483648 := by unfold capB; split <;> omega
    rw [Dr.below, if_neg (by unfold Dr.spent; omega), hxx, ← e, ← Int.natCast_mul]
    omega)
  have HNx : Hid (d.next n = ⟨d.l, d.at_ + 1⟩) := Lib.hid (by rw [Dr.next, if_neg (by unfold Dr.spent; omega)])
  have HD : Hid (∀ q, RwAt S ((w.drewN q).setCell ⟨B, 1, none⟩ (.int .i64 ((d.at_ : Int) + 1))) B (d.next n) ∧ But (· = B) w ((w.drewN q).setCell ⟨B, 1, none⟩ (.int .i64 ((d.at_ : Int) + 1)))) := Lib.hid (fun q => by
    have h1 := rw_next (H.out.drewN q) hs
    rw [HNx.out]
    exact ⟨h1.1, ((But.refl _ w).drewN q).trans h1.2⟩)
  clear hok hSB hh hr hm hml hxx hxe
  by_cases hn31 : n ≤ 2147483648
  · have hp0 : (0 : Int) ≤ (x : Int) * n := Int.mul_nonneg (by omega) (by omega)
    have hp1 : (x : Int) * n ≤ 9223372036854775807 := Int.le_trans (Int.mul_le_mul (c := 4294967295) (d := 2147483648) (by omega) hn31 (by omega) (by omega)) (by omega)
    have hp2 : (x : Int) * n / 4294967296 ≤ 9223372036854775807 := by omega
    go_enter Try.func28, Try.ntmps28
    go_wp2
    go_quiet (fail)
    go_wp2
    go_quiet (fail)
    go_wp2
    go_ret
    refine ⟨?_, HD.out _⟩
    rw [← HP.out, show min n 2147483648 = n by omega]
    rfl
  · have hq : (2147483648 : Int) < n := by omega
    go_enter Try.func28, Try.ntmps28
    go_wp2
    go_quiet (fail)
    go_wp2
    go_quiet (fail)
    go_wp2
    go_ret
    refine ⟨?_, HD.out _⟩
    rw [← HP.out, show min n 2147483648 = 2147483648 by omega]
    rfl
theorem rbelow_any (S : Nat → Prop) (B : Nat) (d : Dr) (n : Int) (w : World) (h : RwAt S w B d) (hn63 : n ≤ 9223372036854775807) :
    Calls Try.prog 28 #[.pointer (some ⟨B, 0, none⟩), .int .i64 n] w fun e w' => e = .returned (.int .i64 (d.below n : Int)) ∧ RwAt S w' B (d.next n) ∧ But (· = B) w w' := by
  by_cases hs : d.spent n
  · rw [Dr.below, if_pos hs, Dr.next, if_pos hs]
    by_cases h2 : n < 2
    · exact rbelow_few S B d n w h h2
    · have : d.l.length ≤ d.at_ := by unfold Dr.spent at hs; omega
      exact rbelow_empty S B d n w h (by omega) this
  · unfold Dr.spent at hs
    exact rbelow_some S B d n w h (by omega) hn63 (by omega)
end Go.Proofs.Ytckeknhoimgccaa
