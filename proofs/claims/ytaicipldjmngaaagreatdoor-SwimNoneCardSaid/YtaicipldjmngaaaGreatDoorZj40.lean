import Derived.Test.YtaicipldjmngaaaGreatDoorZj16
import Derived.Test.YtaicipldjmngaaaGreatDoorZj39
import Derived.Test.YtaicipldjmngaaaGreatDoorZj4
import Derived.RangeFuncNested
import Derived.Test.YtaicipldjmngaaaGreatDoorZj32
import Derived.RangeFuncBound
import Derived.RangeFuncCalls
import Derived.RangeFuncLeaves
import Derived.Shelf.Abstract
import Derived.Shelf.RegionOpen
import Derived.OwnWalkIn
import Derived.TacticsInMore
import Derived.LoopNIn
import Derived.LoopIn
import Derived.Test.YtaicipldjmngaaaGreatDoorZj2
import Derived.Outline
import Derived.Maps.AppendAt
namespace Go.Proofs.YtaicipldjmngaaaGreatDoor
open Go.RowKit
set_option linter.unusedSimpArgs false
end Go.Proofs.YtaicipldjmngaaaGreatDoor

namespace Go.Proofs.YtaicipldjmngaaaGreatDoor
open Go.RowKit
set_option linter.unusedSimpArgs false
end Go.Proofs.YtaicipldjmngaaaGreatDoor

namespace Go.Proofs.YtaicipldjmngaaaGreatDoor
open Go.RowKit
set_option linter.unusedSimpArgs false
end Go.Proofs.YtaicipldjmngaaaGreatDoor

namespace Go.Proofs.YtaicipldjmngaaaGreatDoor
open Go.RowKit
set_option linter.unusedSimpArgs false
end Go.Proofs.YtaicipldjmngaaaGreatDoor

namespace Go.Proofs.YtaicipldjmngaaaGreatDoor.sp
open Go.RowKit
set_option linter.unusedSimpArgs false
set_option linter.unusedVariables false
end Go.Proofs.YtaicipldjmngaaaGreatDoor.sp

namespace Go.Proofs.YtaicipldjmngaaaGreatDoor.sp
open Go.RowKit
set_option linter.unusedSimpArgs false
set_option linter.unusedVariables false
end Go.Proofs.YtaicipldjmngaaaGreatDoor.sp

namespace Go.Proofs.YtaicipldjmngaaaGreatDoor.sp
open Go.RowKit
set_option linter.unusedSimpArgs false
set_option linter.unusedVariables false
theorem Mis.cells {w : World} {A : Option Addr} {n c : Nat} {l : List Mi} (h : Mis w A n c l) {k : Nat} (hk : k < n) (hk' : k < l.length) : ∃ b off, A = some ⟨b, off, none⟩ ∧ b < w.heap.size ∧ w.cell? ⟨b, off + k * 6, none⟩ = some (.int .i64 l[k].kind) ∧ w.cell? ⟨b, off + k * 6 + 1, none⟩ = some (.int .u32 (l[k].seq : Int)) ∧ w.cell? ⟨b, off + k * 6 + 2, none⟩ = some (.int .i64 l[k].src) ∧ w.cell? ⟨b, off + k * 6 + 3, none⟩ = some (.int .i64 l[k].tgt) ∧ w.cell? ⟨b, off + k * 6 + 4, none⟩ = some (.bool l[k].rep) ∧ w.cell? ⟨b, off + k * 6 + 5, none⟩ = some (.slice l[k].us.A l[k].us.l.length l[k].us.c) := by
  obtain ⟨b, off, e, hb, hc⟩ := h.at_.at_ hk hk'
  exact ⟨b, off, e, hb, hc 0 _ rfl, hc 1 _ rfl, hc 2 _ rfl, hc 3 _ rfl, hc 4 _ rfl, hc 5 _ rfl⟩
def pingM : Mi := ⟨1, 5, 1, 2, false, ⟨none, 0, []⟩⟩
end Go.Proofs.YtaicipldjmngaaaGreatDoor.sp

namespace Go.Rel
open Go Go.RowKit
section
variable {F : Fence} {n : Nat} {P : Program}
variable {w : World}
end
end Go.Rel

namespace Go.Proofs.YtaicipldjmngaaaGreatDoor
open Go.RowKit Go.Shelf Go.Rel
set_option linter.unusedSimpArgs false
attribute [local go_sem] Oper.semAt_some
structure Item where
  p : Nat
  f : Fr
  A : Option Addr
  c : Nat
def Item.key (x : Item) : Nat × Fr := (x.p, x.f)
def itemR (x : Item) (W : World) : Prop := (BodyAt W x.A x.c x.f.b ∧ TyB W x.A x.f.b.length) ∧ x.f.b.length ≤ 1000 ∧ x.p ≤ 140737488355328
def told (fs : List Fr) (k : Nat) : List (Nat × Fr) := (List.range k).map fun i => (placeOf fs i, fs.getD i ⟨0, []⟩)
def RBb (B : Nat) (w : World) (A : Option Addr) (n : Nat) (xs : List UInt8) : Prop := RB w A n xs ∧ ∀ b off, A = some ⟨b, off, none⟩ → 0 < n → b < B
theorem RBb.below {B : Nat} {w w' : World} {A : Option Addr} {n : Nat} {xs : List UInt8} (h : RBb B w A n xs) (hb : Below B w w') : RBb B w' A n xs := by
  obtain ⟨⟨h1, h2⟩, h3⟩ := h
  refine ⟨⟨h1, fun hn => ?_⟩, h3⟩
  obtain ⟨b, off, e, hlt, hc⟩ := h2 hn
  exact ⟨b, off, e, Nat.lt_of_lt_of_le hlt hb.size, fun j hj => (hb.cell (p := ⟨b, off + j, none⟩) (h3 b off e hn)).trans (hc j hj)⟩
end Go.Proofs.YtaicipldjmngaaaGreatDoor

namespace Go.Proofs.YtaicipldjmngaaaGreatDoor
open Go.RowKit Go.Shelf Go.Rel
set_option linter.unusedSimpArgs false
attribute [local go_sem] Oper.semAt_some
end Go.Proofs.YtaicipldjmngaaaGreatDoor

namespace Go.Proofs.YtaicipldjmngaaaGreatDoor
open Go.RowKit Go.Shelf Go.Rel
set_option linter.unusedSimpArgs false
attribute [local go_sem] Oper.semAt_some
theorem fr_info : (Tryz.prog.info? 120).map (fun i => (i.zero, i.size, i.bytes)) = some (some (.agg #[.int .u8 0, .slice none 0 0]), 2, 32) := by kernel_rfl
def itemCells (x : Item) : List Value := [.int .u8 (x.f.k.toNat : Int), .slice x.A x.f.b.length x.c]
theorem itemCells_at : ∀ (l : List Item) (j : Nat) (h : j < l.length), (l.flatMap itemCells)[j * 2]? = some (.int .u8 (l[j].f.k.toNat : Int)) ∧ (l.flatMap itemCells)[j * 2 + 1]? = some (.slice l[j].A l[j].f.b.length l[j].c)
  | x :: l, 0, _ => ⟨rfl, rfl⟩
  | x :: l, j + 1, h => by
    have ih := itemCells_at l j (by simpa using h)
    rw [List.flatMap_cons]
    have e : (itemCells x).length = 2 := rfl
    rw [List.getElem?_append_right (by rw [e]; omega), List.getElem?_append_right (by rw [e]; omega), e, show (j + 1) * 2 - 2 = j * 2 by omega, show (j + 1) * 2 + 1 - 2 = j * 2 + 1 by omega]
    exact ih
theorem RFs.of_rowB {W : World} {base : Nat} {v : Value} {pre : List Item} (h : W.ownsRow base 120 2 v pre.length (pre.flatMap itemCells)) (hi : ∀ x ∈ pre, BodyAt W x.A x.c x.f.b) :
    ∃ A c, v = .slice A pre.length c ∧ RFs W A pre.length (pre.map (·.f)) ∧ (A = none → c = 0) ∧ pre.length ≤ c := by
  rcases h.2 with ⟨rfl, h0⟩ | ⟨g, cap, cur, rfl, _, hh, hle, hm, hsz, ht⟩
  · have : pre = [] := by
      cases pre with
      | nil => rfl
      | cons x l => simp [itemCells] at h0
    subst this
    exact ⟨none, 0, rfl, RFs.zero _ _, fun _ => rfl, Nat.le_refl _⟩
  · refine ⟨some ⟨g, 0, none⟩, cap, rfl, ⟨by simp, fun _ => ?_⟩, (fun e => by cases e), hle⟩
    have hgl : g < W.heap.size := (Array.getElem?_eq_some_iff.1 hh).1
    refine ⟨g, 0, rfl, hgl, fun j hj => ?_⟩
    have hj' : j < pre.length := by simpa using hj
    obtain ⟨e0, e1⟩ := itemCells_at pre j hj'
    have c0 := h.cells (g := g) rfl _ _ e0
    have c1 := h.cells (g := g) rfl _ _ e1
    have pa : ∀ k, (⟨g, 0, none⟩ : Addr).add k = ⟨g, 0 + k, none⟩ := fun k => by unfold Addr.add; split <;> simp_all
    rw [pa] at c0 c1
    have hx := hi pre[j] (List.getElem_mem hj')
    rw [List.getElem_map]
    exact ⟨hgl, c0, pre[j].A, pre[j].c, by rw [Nat.add_assoc]; exact c1, hx⟩
theorem RFs.of_row {W : World} {base : Nat} {v : Value} {pre : List Item} (h : W.ownsRow base 120 2 v pre.length (pre.flatMap itemCells)) (hi : ∀ x ∈ pre, itemR x W) :
    ∃ A c, v = .slice A pre.length c ∧ RFs W A pre.length (pre.map (·.f)) ∧ (A = none → c = 0) ∧ pre.length ≤ c := RFs.of_rowB h (fun x hx => (hi x hx).1.1)
theorem row_not_u8 {W : World} {base : Nat} {v : Value} {k : Nat} {xs : List Value} (h : W.ownsRow base 120 2 v k xs) : ∀ r, v.ownBlock = some r → ∀ cur, W.heap[r]? ≠ some (.cells cur 5 (0, 0)) := fun r e cur hc => by
  rcases h.2 with ⟨rfl, _⟩ | ⟨g, cap, cur', rfl, _, hh, _⟩
  · cases e
  · have : g = r := by simpa [Value.ownBlock] using e
    subst this
    rw [hh] at hc
    simp at hc
end Go.Proofs.YtaicipldjmngaaaGreatDoor

namespace Go.Proofs.YtaicipldjmngaaaGreatDoor
open Go.RowKit
set_option linter.unusedSimpArgs false
theorem int_info : (Tryz.prog.info? 3).map (fun i => (i.zero, i.size, i.bytes)) = some (some (.int .i64 0), 1, 8) := by kernel_rfl
def placesV (fs : List Fr) (q : Nat) : List Value := (List.range q).map fun j => .int .i64 ((placeOf fs j : Nat) : Int)
def PlAt (w : World) (A : Option Addr) (n : Nat) (fs : List Fr) : Prop := 0 < n → ∃ b off, A = some ⟨b, off, none⟩ ∧ b < w.heap.size ∧ ∀ j, j < n → w.cell? ⟨b, off + j, none⟩ = some (.int .i64 ((placeOf fs j : Nat) : Int))
theorem PlAt.below {w w' : World} {A : Option Addr} {n : Nat} {fs : List Fr} (h : PlAt w A n fs) (hb : Below w.heap.size w w') : PlAt w' A n fs := fun hn => by
  obtain ⟨b, off, e, hlt, hc⟩ := h hn
  exact ⟨b, off, e, Nat.lt_of_lt_of_le hlt hb.size, fun j hj => (hb.cell (p := ⟨b, off + j, none⟩) hlt).trans (hc j hj)⟩
theorem PlAt.of_row {W : World} {base q : Nat} {v : Value} {fs : List Fr} (h : W.ownsRow base 3 1 v q (placesV fs q)) : ∃ A c, v = .slice A q c ∧ PlAt W A q fs ∧ (A = none → c = 0) ∧ q ≤ c := by
  rcases h.2 with ⟨rfl, h0⟩ | ⟨g, cap, cur, rfl, _, hh, hle, hm, hsz, ht⟩
  · have : q = 0 := by simpa [placesV] using h0
    subst this
    exact ⟨none, 0, rfl, fun h => absurd h (by omega), fun _ => rfl, Nat.le_refl _⟩
  · refine ⟨some ⟨g, 0, none⟩, cap, rfl, fun _ => ⟨g, 0, rfl, (Array.getElem?_eq_some_iff.1 hh).1, fun j hj => ?_⟩, (fun e => by cases e), hle⟩
    have c0 := h.cells (g := g) rfl j (.int .i64 ((placeOf fs j : Nat) : Int)) (by simp [placesV, hj])
    have pa : ∀ k, (⟨g, 0, none⟩ : Addr).add k = ⟨g, 0 + k, none⟩ := fun k => by unfold Addr.add; split <;> simp_all
    rw [pa] at c0
    exact c0
end Go.Proofs.YtaicipldjmngaaaGreatDoor
