import Derived.Test.YtaicipldjmngaaaGreatDoorZj1
import Derived.Test.YtaicipldjmngaaaGreatDoorZj2
namespace Go.Proofs.YtaicipldjmngaaaGreatDoor.dr
structure Dr where
  l : List Nat
  at_ : Nat
def Dr.spent (n : Int) (d : Dr) : Prop := n < 2 ∨ d.l.length ≤ d.at_
instance (n : Int) (d : Dr) : Decidable (d.spent n) := by unfold Dr.spent; exact inferInstance
def capB (n : Int) : Nat := if 2147483648 < n then 2147483648 else n.toNat
def Dr.below (n : Int) (d : Dr) : Nat := if d.spent n then 0 else d.l.getD d.at_ 0 * capB n / 4294967296
def Dr.next (n : Int) (d : Dr) : Dr := if d.spent n then d else ⟨d.l, d.at_ + 1⟩
theorem Dr.next_l (n : Int) (d : Dr) : (d.next n).l = d.l := by unfold Dr.next; split <;> rfl
theorem Dr.next_le (n : Int) (d : Dr) (h : d.at_ ≤ d.l.length) : (d.next n).at_ ≤ (d.next n).l.length := by
  unfold Dr.next
  split
  · exact h
  · rename_i hs
    unfold Dr.spent at hs
    show d.at_ + 1 ≤ d.l.length
    omega
def okDr (d : Dr) : Prop := ∀ x ∈ d.l, x < 4294967296
theorem okDr.next {d : Dr} (h : okDr d) (n : Int) : okDr (d.next n) := by unfold okDr; rw [Dr.next_l]; exact h
theorem okDr.get {d : Dr} (h : okDr d) (i : Nat) : d.l.getD i 0 < 4294967296 := by
  rcases Nat.lt_or_ge i d.l.length with hi | hi
  · have : d.l.getD i 0 = d.l[i] := by simp [List.getD, List.getElem?_eq_getElem hi]
    rw [this]; exact h _ (List.getElem_mem hi)
  · have : d.l.getD i 0 = 0 := by simp [List.getD, List.getElem?_eq_none hi]
    rw [this]; omega
theorem below_lt {d : Dr} (h : okDr d) {n : Int} (hn : 1 ≤ n) : ((d.below n : Nat) : Int) < n := by
  unfold Dr.below
  split
  · omega
  · rename_i hs
    have hx := h.get d.at_
    have hc : 0 < capB n ∧ ((capB n : Nat) : Int) ≤ n := by
      unfold capB
      split <;> omega
    have h1 : d.l.getD d.at_ 0 * capB n < 4294967296 * capB n := Nat.mul_lt_mul_of_pos_right hx hc.1
    have h2 : d.l.getD d.at_ 0 * capB n / 4294967296 < capB n := Nat.div_lt_of_lt_mul h1
    omega
def swapL (l : List Nat) (i j : Nat) : List Nat := (l.set i (l.getD j 0)).set j (l.getD i 0)
theorem swapL_length (l : List Nat) (i j : Nat) : (swapL l i j).length = l.length := by simp [swapL]
theorem swapL_count (l : List Nat) (i j : Nat) (hi : i < l.length) (hj : j < l.length) (x : Nat) : (swapL l i j).count x = l.count x := by
  have gi : l.getD i 0 = l[i] := by simp [List.getD, List.getElem?_eq_getElem hi]
  have gj : l.getD j 0 = l[j] := by simp [List.getD, List.getElem?_eq_getElem hj]
  unfold swapL
  rw [gi, gj]
  have h1 := List.count_set (l := l) (i := i) (a := l[j]) (b := x) hi
  have hj' : j < (l.set i l[j]).length := by simpa using hj
  have h2 := List.count_set (l := l.set i l[j]) (i := j) (a := l[i]) (b := x) hj'
  have hg : (l.set i l[j])[j] = l[j] := by
    rw [List.getElem_set]
    split
    · rfl
    · rfl
  have c1 : l[i] = x → 0 < List.count x l := fun e => List.count_pos_iff.2 (e ▸ List.getElem_mem hi)
  rw [h2, hg, h1, Nat.add_sub_cancel]
  by_cases e1 : l[i] = x
  · have := c1 e1
    have hb : (l[i] == x) = true := by simpa using e1
    rw [if_pos hb]
    omega
  · have hb : ¬ (l[i] == x) = true := by simpa using e1
    rw [if_neg hb, Nat.sub_zero, Nat.add_zero]
def ordGo : Nat → List Nat → Dr → List Nat × Dr
  | 0, l, d => (l, d)
  | i + 1, l, d => ordGo i (swapL l (i + 1) (d.below ((i : Int) + 2))) (d.next ((i : Int) + 2))
def sizeO (n : Int) : Nat := if n < 0 then 0 else if 64 < n then 64 else n.toNat
def Dr.order (n : Int) (d : Dr) : List Nat := (ordGo (sizeO n - 1) (List.range (sizeO n)) d).1
def Dr.afterO (n : Int) (d : Dr) : Dr := (ordGo (sizeO n - 1) (List.range (sizeO n)) d).2
def Dr.some_ (n k : Int) (d : Dr) : List Nat := (d.order n).take k.toNat
theorem ordGo_count : ∀ (i : Nat) (l : List Nat) (d : Dr), okDr d → (i = 0 ∨ i < l.length) → ∀ x, (ordGo i l d).1.count x = l.count x
  | 0, _, _, _, _, _ => rfl
  | i + 1, l, d, h, hi, x => by
    have hlt : i + 1 < l.length := by omega
    have hb := below_lt h (n := (i : Int) + 2) (by omega)
    rw [ordGo, ordGo_count i _ _ (h.next _) (by rw [swapL_length]; omega) x, swapL_count l (i + 1) _ hlt (by omega) x]
theorem ordGo_ok : ∀ (i : Nat) (l : List Nat) (d : Dr), okDr d → okDr (ordGo i l d).2
  | 0, _, _, h => h
  | i + 1, l, d, h => by rw [ordGo]; exact ordGo_ok i _ _ (h.next _)
theorem order_once {d : Dr} (h : okDr d) (n : Int) : (d.order n).Nodup ∧ ∀ x ∈ d.order n, x < sizeO n := by
  have hc : ∀ x, (d.order n).count x = (List.range (sizeO n)).count x := ordGo_count _ _ _ h (by rw [List.length_range]; omega)
  refine ⟨?_, fun x hx => ?_⟩
  · rw [List.nodup_iff_count]
    intro x
    rw [hc]
    exact List.nodup_iff_count.1 List.nodup_range x
  · have h1 : 0 < (d.order n).count x := List.count_pos_iff.2 hx
    rw [hc] at h1
    exact List.mem_range.1 (List.count_pos_iff.1 h1)
end Go.Proofs.YtaicipldjmngaaaGreatDoor.dr

namespace Go.Proofs.YtaicipldjmngaaaGreatDoor.dr
open Go.RowKit
def u32V (x : Nat) : Value := .int .u32 (x : Int)
def Tgt (v : Value) (k : Nat) : Prop := v = .pointer (some ⟨k, 0, none⟩)
def okD (d : Dr) : Prop := okDr d ∧ d.l.length ≤ 4096 ∧ d.at_ ≤ d.l.length
theorem okD.next {d : Dr} (h : okD d) (n : Int) : okD (d.next n) := ⟨h.1.next n, by rw [Dr.next_l]; exact h.2.1, Dr.next_le n d h.2.2⟩
theorem okD_ordGo : ∀ (i : Nat) (l : List Nat) (d : Dr), okD d → okD (ordGo i l d).2
  | 0, _, _, h => h
  | i + 1, l, d, h => by rw [ordGo]; exact okD_ordGo i _ _ (h.next _)
theorem okD.afterO {d : Dr} (h : okD d) (n : Int) : okD (d.afterO n) := okD_ordGo _ _ _ h
def DwAt (S : Nat → Prop) (w : World) (v : Value) (d : Dr) : Prop :=
  okD d ∧ ((v = .pointer none ∧ d = ⟨[], 0⟩) ∨ ∃ B A n c, v = .pointer (some ⟨B, 0, none⟩) ∧ S B ∧ w.heap[B]? = some (.cells #[.slice A n c, .int .i64 (d.at_ : Int)] 196 (0, 0)) ∧ RVn S w A n ((d.l.drop d.at_).map u32V) ∧ n ≤ c ∧ c ≤ maxLen)
theorem DwAt.but {S S' : Nat → Prop} {w w' : World} {v : Value} {d : Dr} (h : DwAt S w v d) (hb : But S' w w') (hS : ∀ k, S' k → S k) (hv : ∀ k, S' k → ¬ Tgt v k) : DwAt S w' v d :=
  ⟨h.1, h.2.imp id fun ⟨B, A, n, c, e, h0, hh, hr, h1⟩ => ⟨B, A, n, c, e, h0, (hb.block B (block_lt hh) (fun hs => hv B hs e)).trans hh, hr.but (hb.mono hS), h1⟩⟩
theorem DwAt.below {S : Nat → Prop} {w w' : World} {v : Value} {d : Dr} (h : DwAt S w v d) (hb : Below w.heap.size w w') : DwAt S w' v d := h.but (S' := fun _ => False) (But.of_below hb) (fun _ h => h.elim) (fun _ h => h.elim)
theorem DwAt.lt {S : Nat → Prop} {w : World} {v : Value} {d : Dr} (h : DwAt S w v d) (k : Nat) (hk : Tgt v k) : k < w.heap.size := by
  rcases h.2 with ⟨e, _⟩ | ⟨B, A, n, c, e, _, hh, _⟩
  · rw [Tgt, e] at hk; cases hk
  · rw [Tgt, e] at hk
    simp only [Value.pointer.injEq, Option.some.injEq, Addr.mk.injEq] at hk
    have := block_lt hh
    omega
theorem DwAt.narrow {S S' : Nat → Prop} {w : World} {v : Value} {d : Dr} (h : DwAt S w v d) (hs : ∀ k, k < w.heap.size → S' k → S k) (hv : ∀ k, Tgt v k → S' k) : DwAt S' w v d :=
  ⟨h.1, h.2.imp id fun ⟨B, A, n, c, e, _, hh, hr, h1⟩ => ⟨B, A, n, c, e, hv B e, hh, hr.narrow hs, h1⟩⟩
end Go.Proofs.YtaicipldjmngaaaGreatDoor.dr

namespace Go.Proofs.YtaicipldjmngaaaGreatDoor.dr
open Go.RowKit
set_option linter.unusedSimpArgs false
end Go.Proofs.YtaicipldjmngaaaGreatDoor.dr

namespace Go.Proofs.YtaicipldjmngaaaGreatDoor.dr
open Go.RowKit
set_option linter.unusedSimpArgs false
theorem u32_info : (Tryz.prog.info? 39).map (fun i => (i.zero, i.size, i.bytes)) = some (some (.int .u32 0), 1, 4) := by kernel_rfl
def Made (w : World) (d : Dr) (e : Ending) (w' : World) : Prop := ∃ B, e = .returned (.pointer (some ⟨B, 0, none⟩)) ∧ w.heap.size ≤ B ∧ B < w'.heap.size ∧ DwAt (fun k => k < w.heap.size ∨ k = B) w' (.pointer (some ⟨B, 0, none⟩)) d ∧ Below w.heap.size w w'
theorem made_of {w w1 : World} {A : Option Addr} {m c : Nat} {xs : List Nat} (hown : w1.ownsRow w.heap.size 39 1 (.slice A m c) m (xs.map u32V)) (hb : Below w.heap.size w w1) (hx : okDr ⟨xs, 0⟩) (hl : xs.length ≤ 4096) :
    Made w ⟨xs, 0⟩ (.returned (.pointer (some ⟨w1.heap.size, 0, none⟩))) (w1.alloc (.cells #[.slice A m c, .int .i64 0] 196)) := by
  obtain ⟨A', c', e, hR, _, hnc, hm, hbase⟩ := RV.own hown
  simp only [Value.slice.injEq, true_and] at e
  obtain ⟨rfl, rfl⟩ := e
  refine ⟨w1.heap.size, rfl, hb.size, by simp, ⟨⟨hx, hl, Nat.zero_le _⟩, .inr ⟨_, A, m, c, rfl, .inr rfl, heap_alloc_new _ _, ?_, hnc, hm⟩⟩, hb.alloc hb.size _⟩
  refine ⟨hR.below ((Below.refl _ _).alloc (Nat.le_refl _) _), fun b off e hn hs => ?_⟩
  have h1 := hbase b off e
  obtain ⟨b', off', e', hlt, _⟩ := hR.2 hn
  rw [e] at e'
  simp only [Option.some.injEq, Addr.mk.injEq] at e'
  rcases hs with hs | hs <;> omega
set_option maxHeartbeats 1000000 in
theorem new_any (A : Option Addr) (n c : Nat) (xs : List Nat) (w : World) (hR : RV w A n (xs.map u32V)) (hnil : A = none → c = 0) (hnc : n ≤ c) (hn : n ≤ 35184372088832) (hx : ∀ x ∈ xs, x < 4294967296) :
    Calls Tryz.prog 65 #[.slice A n c] w (Made w ⟨xs.take 4096, 0⟩) := by
  obtain ⟨i0, hi, hz0, hz1, hz2⟩ := info_parts u32_info
  have hln : xs.length = n := by simpa using hR.1
  obtain ⟨m, hm⟩ : ∃ m, min n 4096 = m := ⟨_, rfl⟩
  have hmn : m ≤ n ∧ m ≤ 4096 := by omega
  have HR : Hid (RV w A m ((xs.take 4096).map u32V)) := Lib.hid (by
    have := hR.take (k := m) hmn.1
    rw [← List.map_take] at this
    have e : xs.take m = xs.take 4096 := by
      rw [← hm, ← hln, Nat.min_comm, List.take_eq_take_iff]
      omega
    rwa [e] at this)
  have HM := Lib.hid hm
  have HOk : Hid (okDr ⟨xs.take 4096, 0⟩) := Lib.hid (fun x h => hx x (List.mem_of_mem_take h))
  have HNil := Lib.hid hnil
  have q0 : (0 : Int) ≤ (n : Int) := by omega
  have HOne : Hid (∀ u ∈ (xs.take 4096).map u32V, u.oneCell' = true) := Lib.hid (fun u hu => by
    obtain ⟨y, _, rfl⟩ := List.mem_map.1 hu
    rfl)
  obtain ⟨vs, hvs⟩ : ∃ vs, (xs.take 4096).map u32V = vs := ⟨_, rfl⟩
  rw [hvs] at HR HOne
  have HMade : Hid (∀ A1 c1 w1 k, k = m → w1.ownsRow w.heap.size 39 1 (.slice A1 k c1) k vs → Below w.heap.size w w1 → Made w ⟨xs.take 4096, 0⟩ (.returned (.pointer (some ⟨w1.heap.size, 0, none⟩))) (w1.alloc (.cells #[.slice A1 k c1, .int .i64 0] 196))) := Lib.hid (fun A1 c1 w1 k _ h1 h2 => made_of (by rw [hvs]; exact h1) h2 HOk.out (by rw [List.length_take]; omega))
  clear hR hx hnil hln hvs
  by_cases h4 : n ≤ 4096
  · obtain rfl : m = n := by omega
    clear hm
    go_enter Tryz.func65, Tryz.ntmps65
    go_wp2_with (at_builtin; refine wpList_append_rv rfl (.const (.slice none 0 0)) (.tmp 9) 67 rfl w.heap.size 39 i0 (.int .u32 0) 4 Tryz.underlying67 hi hz0 hz1 hz2 rfl (.slice none 0 0) 0 [] rfl (World.ownsRow_nil _ _ _ _) A m c vs rfl HNil.out HR.out HOne.out ?c1 ?c2 ?c3 ?_)
    case c1 => unfold maxLen; omega
    case c2 => omega
    case c3 => exact Nat.le_refl _
    refine Lib.hid ?_
    intro v1 w1 hown hg
    obtain ⟨A1, c1, rfl, _⟩ := RV.own hown
    have HB := Lib.hid ((Below.refl w.heap.size w).grown hg (Nat.le_refl _) (fun j hj => by cases hj))
    have HOwn := Lib.hid hown
    clear hown hg
    go_wp2
    go_ret
    exact HMade.out _ _ _ _ rfl HOwn.out HB.out
  · obtain rfl : m = 4096 := by omega
    clear hm
    have q1 : (4096 : Int) ≤ (c : Int) := by omega
    go_enter Tryz.func65, Tryz.ntmps65
    go_wp2_with (at_builtin; refine wpList_append_rv rfl (.const (.slice none 0 0)) (.tmp 9) 67 rfl w.heap.size 39 i0 (.int .u32 0) 4 Tryz.underlying67 hi hz0 hz1 hz2 rfl (.slice none 0 0) 0 [] rfl (World.ownsRow_nil _ _ _ _) A 4096 c vs rfl HNil.out HR.out HOne.out ?c1 ?c2 ?c3 ?_)
    case c1 => unfold maxLen; omega
    case c2 => omega
    case c3 => exact Nat.le_refl _
    refine Lib.hid ?_
    intro v1 w1 hown hg
    obtain ⟨A1, c1, rfl, _⟩ := RV.own hown
    have HB := Lib.hid ((Below.refl w.heap.size w).grown hg (Nat.le_refl _) (fun j hj => by cases hj))
    have HOwn := Lib.hid hown
    clear hown hg
    go_wp2
    go_ret
    exact HMade.out _ _ _ _ rfl HOwn.out HB.out
end Go.Proofs.YtaicipldjmngaaaGreatDoor.dr
