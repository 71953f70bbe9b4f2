import Derived.Lib.Hide
import Derived.Test.YtaicipldjmngaaaGreatDoorZj6
import Derived.Test.YtaicipldjmngaaaGreatDoorZj10
namespace Go.Proofs.YtaicipldjmngaaaGreatDoor.dr
end Go.Proofs.YtaicipldjmngaaaGreatDoor.dr
namespace Go.Proofs.YtaicipldjmngaaaGreatDoor.pr
open Go.Proofs.YtaicipldjmngaaaGreatDoor.dr
structure Rg where
  row : List Int
  at_ : Nat
structure Rg.ok (g : Rg) : Prop where
  once : g.row.Nodup
  nodes : ∀ x ∈ g.row, 0 ≤ x ∧ x < 8
  pos : g.at_ ≤ g.row.length
def Rg.new : Rg := ⟨[], 0⟩
theorem Rg.new_ok : Rg.new.ok := ⟨by simp [Rg.new], by simp [Rg.new], by simp [Rg.new]⟩
def nodeOk (n : Int) : Bool := decide (0 ≤ n ∧ n < 8)
def Rg.takes (g : Rg) (n : Int) : Bool := nodeOk n && !(g.row.contains n)
def putAt (l : List Int) (k : Nat) (n : Int) : List Int := l.take k ++ n :: l.drop k
def Rg.add (g : Rg) (n : Int) (k : Nat) : Rg := ⟨putAt g.row k n, if k < g.at_ then g.at_ + 1 else g.at_⟩
theorem putAt_perm (l : List Int) (k : Nat) (n : Int) : (putAt l k n).Perm (n :: l) := by
  unfold putAt
  refine List.perm_middle.trans ?_
  rw [List.take_append_drop]
theorem putAt_length (l : List Int) (k : Nat) (n : Int) : (putAt l k n).length = l.length + 1 := by simpa using (putAt_perm l k n).length_eq
theorem Rg.takes_iff (g : Rg) (n : Int) : g.takes n = true ↔ (0 ≤ n ∧ n < 8) ∧ n ∉ g.row := by unfold Rg.takes nodeOk; simp
theorem Rg.add_ok {g : Rg} (h : g.ok) {n : Int} (ht : g.takes n = true) (k : Nat) : (g.add n k).ok := by
  obtain ⟨h1, h2⟩ := (Rg.takes_iff g n).1 ht
  have hp := putAt_perm g.row k n
  refine ⟨?_, ?_, ?_⟩
  · exact (hp.nodup_iff).2 (List.nodup_cons.2 ⟨h2, h.once⟩)
  · intro x hx
    rcases List.mem_cons.1 (hp.mem_iff.1 hx) with e | e
    · rw [e]; exact h1
    · exact h.nodes x e
  · show (if k < g.at_ then g.at_ + 1 else g.at_) ≤ (putAt g.row k n).length
    rw [putAt_length]
    have := h.pos
    split <;> omega
theorem few_ints : ∀ (m : Nat) (l : List Int), l.Nodup → (∀ x ∈ l, 0 ≤ x ∧ x < (m : Int)) → l.length ≤ m
  | 0, l, _, h => by
    cases l with
    | nil => simp
    | cons x l => have := h x (by simp); omega
  | m + 1, l, hd, h => by
    have h1 := few_ints m (l.erase (m : Int)) (hd.erase _) (fun x hx => by
      have h2 := h x (List.mem_of_mem_erase hx)
      have h3 : x ≠ (m : Int) := (List.Nodup.mem_erase_iff hd |>.mp hx).1
      omega)
    rw [List.length_erase] at h1
    split at h1 <;> omega
theorem Rg.few {g : Rg} (h : g.ok) : g.row.length ≤ 8 := few_ints 8 g.row h.once h.nodes
def Rg.has (g : Rg) (n : Int) : Bool := g.row.contains n
def Rg.remove (g : Rg) (n : Int) : Rg := ⟨g.row.filter (fun x => !(x == n)), if g.row.idxOf n < g.at_ ∧ g.row.contains n = true then g.at_ - 1 else g.at_⟩
theorem filter_out {l : List Int} {n : Int} (h : n ∉ l) : l.filter (fun x => !(x == n)) = l := by
  rw [List.filter_eq_self]
  intro x hx
  have : x ≠ n := fun e => h (e ▸ hx)
  simpa using this
theorem filter_len {l : List Int} (hd : l.Nodup) {n : Int} (h : n ∈ l) : (l.filter (fun x => !(x == n))).length + 1 = l.length := by
  induction l with
  | nil => cases h
  | cons x l ih =>
    rw [List.nodup_cons] at hd
    by_cases e : x = n
    · subst e
      rw [List.filter_cons_of_neg (by simp), filter_out hd.1, List.length_cons]
    · rw [List.filter_cons_of_pos (by simpa using e), List.length_cons, List.length_cons, ih hd.2 (by rcases List.mem_cons.1 h with k | k; exact absurd k.symm e; exact k)]
theorem Rg.remove_ok {g : Rg} (h : g.ok) (n : Int) : (g.remove n).ok := by
  refine ⟨h.once.sublist List.filter_sublist, fun x hx => h.nodes x (List.mem_filter.1 hx).1, ?_⟩
  show (if g.row.idxOf n < g.at_ ∧ g.row.contains n = true then g.at_ - 1 else g.at_) ≤ (g.row.filter (fun x => !(x == n))).length
  have hp := h.pos
  by_cases hm : n ∈ g.row
  · have h1 := filter_len h.once hm
    split
    · omega
    · rename_i hc
      have h2 : ¬ g.row.idxOf n < g.at_ := fun k => hc ⟨k, by simpa using hm⟩
      have h3 := List.idxOf_lt_length_of_mem hm
      omega
  · rw [filter_out hm]
    split <;> omega
def scan (live : List Int) (row : List Int) (at_ : Nat) : Option (Int × Nat) :=
  match (row.drop at_).findIdx? (fun x => live.contains x) with
  | none => none
  | some i => some (row.getD (at_ + i) 0, at_ + i + 1)
def Rg.next (g : Rg) (live p : List Int) : Int × Bool × Rg :=
  match scan live g.row g.at_ with
  | some (x, k) => (x, true, ⟨g.row, k⟩)
  | none => match scan live p 0 with
    | some (x, k) => (x, true, ⟨p, k⟩)
    | none => (0, false, ⟨p, p.length⟩)
def rest (live row : List Int) (at_ : Nat) : List Int := (row.drop at_).filter (fun x => live.contains x)
theorem find_rest (live : List Int) : ∀ l : List Int, l.findIdx? (fun x => live.contains x) = none ↔ l.filter (fun x => live.contains x) = []
  | l => by
    rw [List.findIdx?_eq_none_iff, List.filter_eq_nil_iff]
    constructor
    · intro h x hx; rw [h x hx]; simp
    · intro h x hx; simpa using h x hx
theorem scan_none {live row : List Int} {k : Nat} : scan live row k = none ↔ rest live row k = [] := by
  unfold scan rest
  rw [← find_rest]
  cases h : (row.drop k).findIdx? (fun x => live.contains x) <;> simp
theorem filter_find {p : Int → Bool} : ∀ {l : List Int} {i : Nat}, l.findIdx? p = some i → ∃ (h : i < l.length), p l[i] = true ∧ l.filter p = l[i] :: (l.drop (i + 1)).filter p
  | [], i, h => by simp at h
  | x :: l, i, h => by
    rw [List.findIdx?_cons] at h
    by_cases hx : p x = true
    · rw [if_pos hx] at h
      cases h
      refine ⟨by simp, hx, ?_⟩
      rw [List.filter_cons_of_pos hx]
      rfl
    · rw [if_neg hx] at h
      cases hl : l.findIdx? p with
      | none => rw [hl] at h; simp at h
      | some j =>
        rw [hl] at h
        simp at h
        subst h
        obtain ⟨h1, h2, h3⟩ := filter_find hl
        refine ⟨by simpa using h1, by simpa using h2, ?_⟩
        rw [List.filter_cons_of_neg hx]
        simpa using h3
theorem scan_some {live row : List Int} {k : Nat} {x : Int} {j : Nat} (h : scan live row k = some (x, j)) : rest live row k = x :: rest live row j ∧ k < j ∧ j ≤ row.length ∧ x ∈ row ∧ x ∈ live := by
  unfold scan at h
  cases hf : (row.drop k).findIdx? (fun x => live.contains x) with
  | none => rw [hf] at h; cases h
  | some i =>
    rw [hf] at h
    simp only [Option.some.injEq, Prod.mk.injEq] at h
    obtain ⟨rfl, rfl⟩ := h
    obtain ⟨h1, h2, h3⟩ := filter_find hf
    have h1' : k + i < row.length := by rw [List.length_drop] at h1; omega
    have e : (row.drop k)[i] = row[k + i] := by rw [List.getElem_drop]
    have eg : row.getD (k + i) 0 = row[k + i] := by simp [List.getD, h1']
    rw [e] at h2 h3
    rw [eg]
    refine ⟨?_, by omega, by omega, List.getElem_mem h1', by simpa using h2⟩
    unfold rest
    rw [h3, List.drop_drop, Nat.add_assoc]
theorem rest_zero (live row : List Int) : rest live row 0 = row.filter (fun x => live.contains x) := by unfold rest; rw [List.drop_zero]
theorem Rg.next_row {g : Rg} {live p : List Int} (hp : p.Perm g.row) : (g.next live p).2.2.row.Perm g.row := by
  unfold Rg.next
  split
  · exact List.Perm.refl _
  · split
    · exact hp
    · exact hp
theorem Rg.next_ok {g : Rg} (h : g.ok) {live p : List Int} (hp : p.Perm g.row) : (g.next live p).2.2.ok := by
  have h1 := Rg.next_row (live := live) hp
  refine ⟨(h1.nodup_iff).2 h.once, fun x hx => h.nodes x (h1.mem_iff.1 hx), ?_⟩
  unfold Rg.next
  split
  · rename_i x k h2
    exact (scan_some h2).2.2.1
  · split
    · rename_i x k h2
      exact (scan_some h2).2.2.1
    · exact Nat.le_refl _
theorem Rg.next_live {g : Rg} {live p : List Int} (hp : p.Perm g.row) : ((g.next live p).2.1 = true → (g.next live p).1 ∈ g.row ∧ (g.next live p).1 ∈ live) ∧ ((g.next live p).2.1 = true ↔ ∃ x ∈ g.row, x ∈ live) := by
  unfold Rg.next
  cases h1 : scan live g.row g.at_ with
  | some xk =>
    obtain ⟨x, k⟩ := xk
    obtain ⟨_, _, _, h2, h3⟩ := scan_some h1
    exact ⟨fun _ => ⟨h2, h3⟩, fun _ => ⟨x, h2, h3⟩, fun _ => rfl⟩
  | none =>
    simp only
    cases h2 : scan live p 0 with
    | some xk =>
      obtain ⟨x, k⟩ := xk
      obtain ⟨_, _, _, h3, h4⟩ := scan_some h2
      have h3' := hp.mem_iff.1 h3
      exact ⟨fun _ => ⟨h3', h4⟩, fun _ => ⟨x, h3', h4⟩, fun _ => rfl⟩
    | none =>
      refine ⟨(fun h => by cases h), (fun h => by cases h), fun ⟨x, h3, h4⟩ => ?_⟩
      exfalso
      have := scan_none.1 h2
      rw [rest_zero] at this
      have h5 : x ∈ p.filter (fun x => live.contains x) := List.mem_filter.2 ⟨hp.mem_iff.2 h3, by simpa using h4⟩
      rw [this] at h5
      cases h5
end Go.Proofs.YtaicipldjmngaaaGreatDoor.pr

namespace Go.Proofs.YtaicipldjmngaaaGreatDoor.dr
end Go.Proofs.YtaicipldjmngaaaGreatDoor.dr
namespace Go.Proofs.YtaicipldjmngaaaGreatDoor.pr
open Go.Proofs.YtaicipldjmngaaaGreatDoor.dr
def pickL (row : List Int) (is : List Nat) : List Int := is.map fun i => row.getD i 0
theorem pickL_length (row : List Int) (is : List Nat) : (pickL row is).length = is.length := by simp [pickL]
theorem order_count {d : Dr} (h : okDr d) (n : Int) (x : Nat) : (d.order n).count x = (List.range (sizeO n)).count x := ordGo_count _ _ _ h (by rw [List.length_range]; omega) x
theorem pick_range (row : List Int) : pickL row (List.range row.length) = row := by
  unfold pickL
  apply List.ext_getElem
  · simp
  · intro i h1 h2
    simp [List.getD, h2]
theorem sizeO_of {n : Nat} (h : n ≤ 64) : sizeO (n : Int) = n := by unfold sizeO; split <;> (try split) <;> omega
theorem pick_perm {d : Dr} (h : okDr d) (row : List Int) (hn : row.length ≤ 64) : (pickL row (d.order row.length)).Perm row := by
  have hp : (d.order row.length).Perm (List.range row.length) := by
    rw [List.perm_iff_count]
    intro x
    rw [order_count h, sizeO_of hn]
  have := hp.map (fun i => row.getD i 0)
  exact this.trans (by
    have e := pick_range row
    unfold pickL at e
    rw [e])
theorem some_in {d : Dr} (h : okDr d) (n : Nat) (k : Int) (hn : n ≤ 64) : (d.some_ n k).Nodup ∧ ∀ x ∈ d.some_ n k, x < n := by
  obtain ⟨h1, h2⟩ := order_once h (n : Int)
  rw [sizeO_of hn] at h2
  unfold Dr.some_
  exact ⟨h1.sublist (List.take_sublist _ _), fun x hx => h2 x (List.mem_of_mem_take hx)⟩
def Rg.asked (g : Rg) (live : List Int) (d : Dr) : Int × Bool × Rg := g.next live (pickL g.row (d.order g.row.length))
def _root_.Go.Proofs.YtaicipldjmngaaaGreatDoor.dr.Dr.asked (d : Dr) (g : Rg) (live : List Int) : Dr := if (scan live g.row g.at_).isSome then d else d.afterO g.row.length
theorem Rg.asked_perm {g : Rg} (h : g.ok) {d : Dr} (hd : okDr d) : (pickL g.row (d.order g.row.length)).Perm g.row := pick_perm hd g.row (by have := g.few h; omega)
theorem Rg.asked_ok {g : Rg} (h : g.ok) (live : List Int) {d : Dr} (hd : okDr d) : (g.asked live d).2.2.ok := Rg.next_ok h (Rg.asked_perm h hd)
end Go.Proofs.YtaicipldjmngaaaGreatDoor.pr

namespace Go.Proofs.YtaicipldjmngaaaGreatDoor.dr
end Go.Proofs.YtaicipldjmngaaaGreatDoor.dr
namespace Go.Proofs.YtaicipldjmngaaaGreatDoor.pr
open Go.Proofs.YtaicipldjmngaaaGreatDoor.dr
open Go.RowKit
abbrev TG : TypeId := 194
abbrev TW : TypeId := 194
def nV (z : Int) : Value := .int .i64 z
theorem nV_one (xs : List Int) : ∀ u ∈ xs.map nV, u.oneCell' = true := fun u hu => by
  obtain ⟨z, _, rfl⟩ := List.mem_map.1 hu
  rfl
def IRow (w : World) (xs : List Int) (e : Ending) (w' : World) : Prop :=
  ∃ A c, e = .returned (.slice A xs.length c) ∧ RV w' A xs.length (xs.map nV) ∧ xs.length ≤ c ∧ c ≤ maxLen ∧ (A = none → c = 0) ∧ (∀ b off, A = some ⟨b, off, none⟩ → w.heap.size ≤ b) ∧ Below w.heap.size w w'
def ringC (p : Bool) (v : Value) (n : Int) : Obj := if p then .cells #[.bool true, v, .int .i64 n] TG (0, 0) else .cells #[v, .int .i64 n] TW (0, 0)
def po (p : Bool) : Nat := if p then 2 else 1
def pl (p : Bool) : Nat := if p then 1 else 0
structure RgIs (p : Bool) (S : Nat → Prop) (w : World) (B : Nat) (A : Option Addr) (c : Nat) (g : Rg) : Prop where
  mine : S B
  blk : w.heap[B]? = some (ringC p (.slice A g.row.length c) (g.at_ : Int))
  row : RVn S w A g.row.length (g.row.map nV)
  le : g.row.length ≤ c
  max : c ≤ maxLen
  nil : A = none → c = 0
def RgAt (p : Bool) (S : Nat → Prop) (w : World) (B : Nat) (g : Rg) : Prop := g.ok ∧ ∃ A c, RgIs p S w B A c g
section
variable {p : Bool} {S S' : Nat → Prop} {w w' : World} {B : Nat} {A : Option Addr} {c : Nat} {g : Rg}
theorem ringC_cells (p : Bool) (v : Value) (n : Int) : ∃ cs T, ringC p v n = .cells cs T (0, 0) ∧ cs[pl p]? = some v ∧ cs[po p]? = some (.int .i64 n) ∧ cs.setIfInBounds (po p) (.int .i64 n) = cs := by
  cases p
  · exact ⟨_, _, rfl, rfl, rfl, rfl⟩
  · exact ⟨_, _, rfl, rfl, rfl, rfl⟩
theorem RgIs.lt (h : RgIs p S w B A c g) : B < w.heap.size := block_lt h.blk
theorem RgIs.but (h : RgIs p S w B A c g) (hb : But S' w w') (hS : ∀ k, S' k → S k) (hB : ¬ S' B) : RgIs p S w' B A c g :=
  ⟨h.mine, (hb.block B h.lt hB).trans h.blk, h.row.but (hb.mono hS), h.le, h.max, h.nil⟩
theorem RgIs.below (h : RgIs p S w B A c g) (hb : Below w.heap.size w w') : RgIs p S w' B A c g := h.but (S' := fun _ => False) (But.of_below hb) (fun _ h => h.elim) (fun h => h)
theorem RgIs.narrow (h : RgIs p S w B A c g) (hs : ∀ k, k < w.heap.size → S' k → S k) (hB : S' B) : RgIs p S' w B A c g := ⟨hB, h.blk, h.row.narrow hs, h.le, h.max, h.nil⟩
theorem RgIs.cl (h : RgIs p S w B A c g) : w.cell? ⟨B, pl p, none⟩ = some (.slice A g.row.length c) := by
  obtain ⟨cs, T, e, h1, _, _⟩ := ringC_cells p (.slice A g.row.length c) (g.at_ : Int)
  rw [cell_of_row _ _ _ cs T _ (by rw [h.blk, e])]
  exact h1
theorem RgIs.froz (h : RgIs p S w B A c g) (i : Nat) : w.frozen? ⟨B, i, none⟩ = false := by
  obtain ⟨cs, T, e, _, h1, _⟩ := ringC_cells p (.slice A g.row.length c) (g.at_ : Int)
  have hb := h.blk
  rw [e] at hb
  simp [World.frozen?, hb]
theorem RgIs.built (h : RgIs true S w B A c g) : w.cell? ⟨B, 0, none⟩ = some (.bool true) := by
  rw [cell_of_row _ _ _ _ _ _ (show w.heap[B]? = some (.cells #[.bool true, .slice A g.row.length c, .int .i64 (g.at_ : Int)] TG (0, 0)) from h.blk)]
  rfl
theorem ringC_setRow {v v' : Value} {n : Int} (h : w.heap[B]? = some (ringC p v n)) : (w.setCell ⟨B, pl p, none⟩ v').heap[B]? = some (ringC p v' n) := by
  cases p
  · exact (block_set (cur := #[v, .int .i64 n]) h 0 _).trans rfl
  · exact (block_set (cur := #[.bool true, v, .int .i64 n]) h 1 _).trans rfl
theorem _root_.Go.Proofs.YtaicipldjmngaaaGreatDoor.But.set_ (S : Nat → Prop) (w : World) (B i : Nat) (v : Value) (h : S B) : But S w (w.setCell ⟨B, i, none⟩ v) := But.set (S := S) w (p := ⟨B, i, none⟩) h v
theorem RgIs.setRow (h : RgIs p S w B A c g) {A' : Option Addr} {c' : Nat} {row : List Int} (hr : RVn S w A' row.length (row.map nV)) (h1 : row.length ≤ c') (h2 : c' ≤ maxLen) (h3 : A' = none → c' = 0) : RgIs p S (w.setCell ⟨B, pl p, none⟩ (.slice A' row.length c')) B A' c' ⟨row, g.at_⟩ :=
  ⟨h.mine, ringC_setRow h.blk, hr.but (But.set_ S w B _ _ h.mine), h1, h2, h3⟩
theorem RgIs.node (h : RgIs p S w B A c g) {k : Nat} (hk : k < g.row.length) : ∃ b off, A = some ⟨b, off, none⟩ ∧ b < w.heap.size ∧ w.cell? ⟨b, off + k, none⟩ = some (.int .i64 g.row[k]) := by
  obtain ⟨b, off, e, hb, hc⟩ := h.row.1.at_ hk
  rw [List.getElem_map] at hc
  exact ⟨b, off, e, hb, hc⟩
theorem RgAt.but (h : RgAt p S w B g) (hb : But S' w w') (hS : ∀ k, S' k → S k) (hB : ¬ S' B) : RgAt p S w' B g := by
  obtain ⟨h0, A, c, h1⟩ := h
  exact ⟨h0, A, c, h1.but hb hS hB⟩
theorem RgAt.below (h : RgAt p S w B g) (hb : Below w.heap.size w w') : RgAt p S w' B g := h.but (S' := fun _ => False) (But.of_below hb) (fun _ h => h.elim) (fun h => h)
theorem RgAt.lt (h : RgAt p S w B g) : B < w.heap.size := by
  obtain ⟨_, A, c, h1⟩ := h
  exact h1.lt
theorem RgAt.mine (h : RgAt p S w B g) : S B := by
  obtain ⟨_, A, c, h1⟩ := h
  exact h1.mine
theorem RgAt.narrow (h : RgAt p S w B g) (hs : ∀ k, k < w.heap.size → S' k → S k) (hB : S' B) : RgAt p S' w B g := by
  obtain ⟨h0, A, c, h1⟩ := h
  exact ⟨h0, A, c, h1.narrow hs hB⟩
end
def NoRg (w : World) (v : Value) : Prop := v = .pointer none ∨ ∃ B, v = .pointer (some ⟨B, 0, none⟩) ∧ w.heap[B]? = some (.cells #[.bool false, .slice none 0 0, .int .i64 0] TG (0, 0))
theorem NoRg.below {w w' : World} {v : Value} (h : NoRg w v) (hb : Below w.heap.size w w') : NoRg w' v := h.imp id fun ⟨B, e, hh⟩ => ⟨B, e, (hb.block B (block_lt hh)).trans hh⟩
structure Lst (S : Nat → Prop) (w : World) (A : Option Addr) (n c : Nat) (xs : List Int) : Prop where
  rv : RVn S w A n (xs.map nV)
  le : n ≤ c
  max : n ≤ 9223372036854775807
theorem Lst.len {S : Nat → Prop} {w : World} {A : Option Addr} {n c : Nat} {xs : List Int} (h : Lst S w A n c xs) : xs.length = n := by simpa using h.rv.1.1
theorem Lst.but {S S' : Nat → Prop} {w w' : World} {A : Option Addr} {n c : Nat} {xs : List Int} (h : Lst S w A n c xs) (hb : But S' w w') (hS : ∀ k, S' k → S k) : Lst S w' A n c xs := ⟨h.rv.but (hb.mono hS), h.le, h.max⟩
theorem Lst.below {S : Nat → Prop} {w w' : World} {A : Option Addr} {n c : Nat} {xs : List Int} (h : Lst S w A n c xs) (hb : Below w.heap.size w w') : Lst S w' A n c xs := h.but (S' := fun _ => False) (But.of_below hb) (fun _ h => h.elim)
theorem Lst.node {S : Nat → Prop} {w : World} {A : Option Addr} {n c : Nat} {xs : List Int} (h : Lst S w A n c xs) {k : Nat} (hk : k < n) : ∃ b off, A = some ⟨b, off, none⟩ ∧ b < w.heap.size ∧ w.cell? ⟨b, off + k, none⟩ = some (.int .i64 (xs[k]'(by have := h.len; omega))) := by
  obtain ⟨b, off, e, hb, hc⟩ := h.rv.1.at_ hk
  rw [List.getElem_map] at hc
  exact ⟨b, off, e, hb, hc⟩
end Go.Proofs.YtaicipldjmngaaaGreatDoor.pr

namespace Go.Proofs.YtaicipldjmngaaaGreatDoor.dr
end Go.Proofs.YtaicipldjmngaaaGreatDoor.dr
namespace Go.Proofs.YtaicipldjmngaaaGreatDoor.pr
open Go.Proofs.YtaicipldjmngaaaGreatDoor.dr
open Go.RowKit
set_option linter.unusedSimpArgs false
set_option linter.unusedVariables false
theorem made_no (v : Value) (w : World) (h : NoRg w v) : Calls Tryz.prog 187 #[v] w fun e w' => e = .returned (.bool false) ∧ w = w' := by
  rcases h with rfl | ⟨B, rfl, hh⟩
  · go_enter Tryz.func187, Tryz.ntmps187
    go_wp2
    go_ret
    exact ⟨rfl, rfl⟩
  · have c0 : w.cell? ⟨B, 0, none⟩ = some (.bool false) := by rw [cell_of_row _ _ _ _ _ _ hh]; rfl
    clear hh
    go_enter Tryz.func187, Tryz.ntmps187
    go_wp2
    go_ret
    exact ⟨rfl, rfl⟩
theorem made_yes {S : Nat → Prop} {B : Nat} {A : Option Addr} {c : Nat} {g : Rg} (w : World) (h : RgIs true S w B A c g) : Calls Tryz.prog 187 #[.pointer (some ⟨B, 0, none⟩)] w fun e w' => e = .returned (.bool true) ∧ w = w' := by
  have c0 := h.built
  clear h
  go_enter Tryz.func187, Tryz.ntmps187
  go_wp2
  go_ret
  exact ⟨rfl, rfl⟩
theorem rgnew_any (w : World) : Calls Tryz.prog 64 #[] w fun e w' => e = .returned (.pointer (some ⟨w.heap.size, 0, none⟩)) ∧ w' = w.alloc (.cells #[.bool true, .slice none 0 0, .int .i64 0] TG) := by
  go_enter Tryz.func64, Tryz.ntmps64
  go_wp2
  go_ret
  exact ⟨rfl, rfl⟩
theorem rg_new (p : Bool) (S : Nat → Prop) (w : World) (hS : S w.heap.size) {o : Obj} (ho : o = ringC p (.slice none 0 0) 0) : RgAt p S (w.alloc o) w.heap.size Rg.new := by
  subst ho
  exact ⟨Rg.new_ok, none, 0, hS, heap_alloc_new w _, ⟨RV.zero _ _, fun b off e => by cases e⟩, Nat.le_refl _, Nat.zero_le _, fun _ => rfl⟩
end Go.Proofs.YtaicipldjmngaaaGreatDoor.pr
