/-
  New of the program's draws, walked (layer 5).
-/
import Derived.Test.YtckeknhoimgccaaEBelow
namespace Go.Proofs.Ytckeknhoimgccaa
open Go.RowKit
set_option linter.unusedSimpArgs false

theorem u32_info : (Try.prog.info? 61).map (fun i => (i.zero, i.size, i.bytes)) = some (some (.int .u32 0), 1, 4) := by kernel_rfl
/-- What New gives: draws of their own. -/
def Made (w : World) (d : Dr) (e : Ending) (w' : World) : Prop := ∃ B, e = .returned (.pointer (some ⟨B, 0, none⟩)) ∧ w.heap.size ≤ B ∧ B < w'.heap.size ∧ DwAt (fun k => k < w.heap.size ∨ k = B) w' (.pointer (some ⟨B, 0, none⟩)) d ∧ Below w.heap.size w w'
theorem made_of {w w1 : World} {A : Option Addr} {m c : Nat} {xs : List Nat} (hown : w1.ownsRow w.heap.size 61 1 (.slice A m c) m (xs.map u32V)) (hb : Below w.heap.size w w1) (hx : okDr ⟨xs, 0⟩) (hl : xs.length ≤ 4096) :
    Made w ⟨xs, 0⟩ (.returned (.pointer (some ⟨w1.heap.size, 0, none⟩))) (w1.alloc (.cells #[.slice A m c, .int .i64 0] 64)) := by
  obtain ⟨A', c', e, hR, _, hnc, hm, hbase⟩ := RV.own hown
  simp only [Value.slice.injEq, true_and] at e
  obtain ⟨rfl, rfl⟩ := e
  refine ⟨w1.heap.size, rfl, hb.size, by simp, ⟨⟨hx, hl, Nat.zero_le _⟩, .inr ⟨_, A, m, c, rfl, .inr rfl, heap_alloc_new _ _, ?_, hnc, hm⟩⟩, hb.alloc hb.size _⟩
  refine ⟨hR.below ((Below.refl _ _).alloc (Nat.le_refl _) _), fun b off e hn hs => ?_⟩
  have h1 := hbase b off e
  obtain ⟨b', off', e', hlt, _⟩ := hR.2 hn
  rw [e] at e'
  simp only [Option.some.injEq, Addr.mk.injEq] at e'
  rcases hs with hs | hs <;> omega
set_option maxHeartbeats 1000000 in
theorem new_any (A : Option Addr) (n c : Nat) (xs : List Nat) (w : World) (hR : RV w A n (xs.map u32V)) (hnil : A = none → c = 0) (hnc : n ≤ c) (hn : n ≤ 35184372088832) (hx : ∀ x ∈ xs, x < 4294967296) :
    Calls Try.prog 9 #[.slice A n c] w (Made w ⟨xs.take 4096, 0⟩) := by
  obtain ⟨i0, hi, hz0, hz1, hz2⟩ := info_parts u32_info
  have hln : xs.length = n := by simpa using hR.1
  obtain ⟨m, hm⟩ : ∃ m, min n 4096 = m := ⟨_, rfl⟩
  have hmn : m ≤ n ∧ m ≤ 4096 := by omega
  have HR : Hid (RV w A m ((xs.take 4096).map u32V)) := Lib.hid (by
    have := hR.take (k := m) hmn.1
    rw [← List.map_take] at this
    have e : xs.take m = xs.take 4096 := by
      rw [← hm, ← hln, Nat.min_comm, List.take_eq_take_iff]
      omega
    rwa [e] at this)
  have HM := Lib.hid hm
  have HOk : Hid (okDr ⟨xs.take 4096, 0⟩) := Lib.hid (fun x h => hx x (List.mem_of_mem_take h))
  have HNil := Lib.hid hnil
  have q0 : (0 : Int) ≤ (n : Int) := by omega
  have HOne : Hid (∀ u ∈ (xs.take 4096).map u32V, u.oneCell' = true) := Lib.hid (fun u hu => by
    obtain ⟨y, _, rfl⟩ := List.mem_map.1 hu
    rfl)
  obtain ⟨vs, hvs⟩ : ∃ vs, (xs.take 4096).map u32V = vs := ⟨_, rfl⟩
  rw [hvs] at HR HOne
  have HMade : Hid (∀ A1 c1 w1 k, k = m → w1.ownsRow w.heap.size 61 1 (.slice A1 k c1) k vs → Below w.heap.size w w1 → Made w ⟨xs.take 4096, 0⟩ (.returned (.pointer (some ⟨w1.heap.size, 0, none⟩))) (w1.alloc (.cells #[.slice A1 k c1, .int .i64 0] 64))) := Lib.hid (fun A1 c1 w1 k _ h1 h2 => made_of (by rw [hvs]; exact h1) h2 HOk.out (by rw [List.length_take]; omega))
  clear hR hx hnil hln hvs
  by_cases h4 : n ≤ 4096
  · obtain rfl : m = n := by omega
    clear hm
    go_enter Try.func9, Try.ntmps9
    go_wp2_with (at_builtin; refine wpList_append_rv rfl (.const (.slice none 0 0)) (.tmp 9) 22 rfl w.heap.size 61 i0 (.int .u32 0) 4 Try.underlying22 hi hz0 hz1 hz2 rfl (.slice none 0 0) 0 [] rfl (World.ownsRow_nil _ _ _ _) A m c vs rfl HNil.out HR.out HOne.out ?c1 ?c2 ?c3 ?_)
    case c1 => unfold maxLen; omega
    case c2 => omega
    case c3 => exact Nat.le_refl _
    refine Lib.hid ?_
    intro v1 w1 hown hg
    obtain ⟨A1, c1, rfl, _⟩ := RV.own hown
    have HB := Lib.hid ((Below.refl w.heap.size w).grown hg (Nat.le_refl _) (fun j hj => by cases hj))
    have HOwn := Lib.hid hown
    clear hown hg
    go_wp2
    go_ret
    exact HMade.out _ _ _ _ rfl HOwn.out HB.out
  · obtain rfl : m = 4096 := by omega
    clear hm
    have q1 : (4096 : Int) ≤ (c : Int) := by omega
    go_enter Try.func9, Try.ntmps9
    go_wp2_with (at_builtin; refine wpList_append_rv rfl (.const (.slice none 0 0)) (.tmp 9) 22 rfl w.heap.size 61 i0 (.int .u32 0) 4 Try.underlying22 hi hz0 hz1 hz2 rfl (.slice none 0 0) 0 [] rfl (World.ownsRow_nil _ _ _ _) A 4096 c vs rfl HNil.out HR.out HOne.out ?c1 ?c2 ?c3 ?_)
    case c1 => unfold maxLen; omega
    case c2 => omega
    case c3 => exact Nat.le_refl _
    refine Lib.hid ?_
    intro v1 w1 hown hg
    obtain ⟨A1, c1, rfl, _⟩ := RV.own hown
    have HB := Lib.hid ((Below.refl w.heap.size w).grown hg (Nat.le_refl _) (fun j hj => by cases hj))
    have HOwn := Lib.hid hown
    clear hown hg
    go_wp2
    go_ret
    exact HMade.out _ _ _ _ rfl HOwn.out HB.out
end Go.Proofs.Ytckeknhoimgccaa
