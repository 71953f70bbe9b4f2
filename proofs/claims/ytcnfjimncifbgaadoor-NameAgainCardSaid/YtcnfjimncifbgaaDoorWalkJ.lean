/-
  The walks of name.Without and name.With (layer 1).
-/
import Derived.Test.YtcnfjimncifbgaaDoorWalkI
namespace Go.Proofs.YtcnfjimncifbgaaDoor
open Go.RowKit Go.ChangeShapes Go.WideShapes Go.ChangeAt
set_option linter.unusedSimpArgs false

/-- A row of the call's own that holds the texts ys; nothing that was there has changed. -/
def Own (w : World) (B : Nat) (v : Value) (ys : List ByteArray) (w' : World) : Prop := w'.ownsRow B 9 1 v ys.length (ys.map Value.string) ∧ Below w.heap.size w w' ∧ w.heap.size ≤ B
/-- The same, as a call's result. -/
def Gives (w : World) (ys : List ByteArray) (e : Ending) (w' : World) : Prop := ∃ A c, e = .returned (.slice A ys.length c) ∧ RS w' A ys.length ys ∧ Below w.heap.size w w'
theorem own_base {w : World} {base base' : Nat} {e : TypeId} {size n : Nat} {v : Value} {xs : List Value} (h : w.ownsRow base e size v n xs) (hb : base' ≤ base) : w.ownsRow base' e size v n xs :=
  ⟨h.1, h.2.imp id fun ⟨g, cap, cur, h1, h2, h3⟩ => ⟨g, cap, cur, h1, Nat.le_trans hb h2, h3⟩⟩
theorem own_keep {w w' : World} {base : Nat} {e : TypeId} {size n : Nat} {v : Value} {xs : List Value} (h : w.ownsRow base e size v n xs) (hb : Below w.heap.size w w') : w'.ownsRow base e size v n xs :=
  ⟨h.1, h.2.imp id fun ⟨g, cap, cur, h1, h2, h3, h4⟩ => ⟨g, cap, cur, h1, h2, by
    have hlt : g < w.heap.size := by
      rcases Nat.lt_or_ge g w.heap.size with hlt | hge
      · exact hlt
      · rw [Array.getElem?_eq_none hge] at h3; cases h3
    rw [hb.block g hlt]; exact h3, h4⟩⟩
theorem Own.gives {w w' : World} {B : Nat} {v : Value} {ys : List ByteArray} (h : Own w B v ys w') : Gives w ys (.returned v) w' := by
  obtain ⟨A, c, rfl, hR⟩ := RS.own h.1
  exact ⟨A, c, rfl, hR, h.2.1⟩
theorem Keeps.own {w wr : World} {o : Obj} {f : ByteArray → Bool} {l : List ByteArray} {k : Nat} {v : Value} (h : Keeps (w.alloc o) f l k v wr) (hk : l.length ≤ k) : Own w (w.heap.size + 1) v (l.filter f) wr := by
  obtain ⟨h1, h2⟩ := h
  rw [Kept.all hk] at h1
  exact ⟨own_base h1 (by simp), ((Below.refl _ _).alloc (Nat.le_refl _) o).trans (h2.mono (by simp)), by omega⟩
theorem Keeps.own' {w wr : World} {f : ByteArray → Bool} {l : List ByteArray} {k : Nat} {v : Value} (h : Keeps w f l k v wr) (hk : l.length ≤ k) : Own w w.heap.size v (l.filter f) wr := by
  obtain ⟨h1, h2⟩ := h
  rw [Kept.all hk] at h1
  exact ⟨h1, h2, Nat.le_refl _⟩

theorem RS.alloc {w : World} {A : Option Addr} {n : Nat} {xs : List ByteArray} (h : RS w A n xs) (o : Obj) : RS (w.alloc o) A n xs := h.below ((Below.refl _ _).alloc (Nat.le_refl _) o)
theorem box_cell (w : World) (s : ByteArray) : (w.alloc (.cells #[.string s] 9)).cell? ⟨w.heap.size, 0, none⟩ = some (.string s) := by
  rw [cell_of_row (w.alloc (.cells #[.string s] 9)) w.heap.size 0 _ _ _ (heap_alloc_new w _)]
  rfl
theorem RS.size_le {w : World} {A : Option Addr} {n : Nat} {xs : List ByteArray} (h : RS w A n xs) : xs.length ≤ n := Nat.le_of_eq h.1

theorem without_any (A : Option Addr) (n c : Nat) (xs : List ByteArray) (s : ByteArray) (w : World) (h : RS w A n xs) (hn : n ≤ 1000) :
    Calls Tryd.prog 27 #[.slice A n c, .string s] w fun e w' => Gives w (withoutB xs s) e w' := by
  have c1 := (keep_unlike A n c xs s w.heap.size (w.alloc (.cells #[.string s] 9)) (h.alloc _) hn (box_cell w s)).mono (R' := fun e w' => Gives w (withoutB xs s) e w') (by
    rintro e w' ⟨v, rfl, hk⟩
    exact (hk.own h.size_le).gives)
  clear h
  go_enter Tryd.func27, Tryd.ntmps27
  go_wp2_with (go_at_call 40; refine c1.mono ?_; rintro e w1 ⟨A1, d1, rfl, hR1⟩)
  go_ret
  exact ⟨A1, d1, rfl, hR1⟩

theorem own_one {w w0 w1 : World} {B : Nat} {v v' : Value} {ys : List ByteArray} {s : ByteArray} {o : Obj} (h : Own w B v ys w0)
    (hown : w1.ownsRow B 9 1 v' (ys.length + 1) (ys.map Value.string ++ [.string s])) (hg : (w0.alloc o).grownBy w1 v.ownBlock) : Own w B v' (ys ++ [s]) w1 := by
  have hs := h.2.1.size
  have hB := h.2.2
  exact ⟨by simpa using hown, (h.2.1.alloc hs o).grown hg (by simp; omega) (fun j hj => Nat.le_trans hB (h.1.lt j hj).1), hB⟩
theorem own_more {w w0 w1 : World} {B : Nat} {v v' : Value} {ys zs : List ByteArray} (h : Own w B v ys w0)
    (hown : w1.ownsRow B 9 1 v' (ys.length + zs.length) (ys.map Value.string ++ zs.map Value.string)) (hg : w0.grownBy w1 v.ownBlock) : Own w B v' (ys ++ zs) w1 := by
  have hs := h.2.1.size
  have hB := h.2.2
  exact ⟨by simpa using hown, h.2.1.grown hg hs (fun j hj => Nat.le_trans hB (h.1.lt j hj).1), hB⟩
theorem Own.then_ {w w1 w2 : World} {B : Nat} {v : Value} {ys : List ByteArray} (h : Own w B v ys w1) (hb : Below w1.heap.size w1 w2) : Own w B v ys w2 := ⟨own_keep h.1 hb, h.2.1.trans (hb.mono h.2.1.size), h.2.2⟩
/-- The box stands behind an append. -/
theorem box_stays {w w0 w1 : World} {v : Value} {ys : List ByteArray} {s : ByteArray} {o : Obj} (h : Own w (w.heap.size + 1) v ys w0) (hc : w0.cell? ⟨w.heap.size, 0, none⟩ = some (.string s)) (hg : (w0.alloc o).grownBy w1 v.ownBlock) :
    w1.cell? ⟨w.heap.size, 0, none⟩ = some (.string s) :=
  hg.cell ((World.cell?_alloc_past _ _ _ (cell_lt hc)).trans hc) (fun e => by have := (h.1.lt w.heap.size e.symm).1; omega)

set_option maxHeartbeats 1000000 in
theorem with_any (A : Option Addr) (n c : Nat) (xs : List ByteArray) (s : ByteArray) (w : World) (h : RS w A n xs) (hn : n ≤ 1000) :
    Calls Tryd.prog 25 #[.slice A n c, .string s] w fun e w' => Gives w (withB xs s) e w' := by
  obtain ⟨i0, hi, hz0, hz1, hz2⟩ := info_parts str_info
  have hl := h.1
  have l1 := List.length_filter_le (fun x => ltS x s) xs
  have l2 := List.length_filter_le (fun x => ltS s x) xs
  obtain ⟨ys, hys⟩ : ∃ ys, xs.filter (fun x => ltS x s) = ys := ⟨_, rfl⟩
  obtain ⟨zs, hzs⟩ : ∃ zs, xs.filter (fun x => ltS s x) = zs := ⟨_, rfl⟩
  rw [hys] at l1
  rw [hzs] at l2
  have c1 := (keep_less A n c xs s w.heap.size (w.alloc (.cells #[.string s] 9)) (h.alloc _) hn (box_cell w s)).mono (R' := fun e w' => ∃ v, e = .returned v ∧ Own w (w.heap.size + 1) v ys w' ∧ w'.cell? ⟨w.heap.size, 0, none⟩ = some (.string s)) (by
    rintro e w' ⟨v, rfl, hk⟩
    exact ⟨v, rfl, hys ▸ hk.own h.size_le, (hk.2.cell (p := ⟨w.heap.size, 0, none⟩) (by simp)).trans (box_cell w s)⟩)
  have c2 : Hid (∀ W, Below w.heap.size w W → W.cell? ⟨w.heap.size, 0, none⟩ = some (.string s) → Calls Tryd.prog 40 #[.slice A n c, .func (.func 44) #[] #[.pointer (some ⟨w.heap.size, 0, none⟩)]] W fun e w' => ∃ v, e = .returned v ∧ Own W W.heap.size v zs w') := Lib.hid (fun W hb hc =>
    (keep_more A n c xs s w.heap.size W (h.below hb) hn hc).mono (by
      rintro e w' ⟨v, rfl, hk⟩
      exact ⟨v, rfl, hzs ▸ hk.own' h.size_le⟩))
  have HW : Hid (withB xs s = (ys ++ [s]) ++ zs) := Lib.hid (by rw [withB, hys, hzs]; simp)
  clear hys hzs h
  go_enter Tryd.func25, Tryd.ntmps25
  go_wp2_with (first
    | (go_at_call 40; refine c1.mono ?_; rintro e w1 ⟨v1, rfl, ho1, hc1⟩; have HO1 := Lib.hid ho1; clear ho1 c1)
    | (at_builtin; refine wpList_append_own _ rfl (.tmp 9) (.tmp 11) 25 rfl (w.heap.size + 1) 9 i0 (.string ⟨#[]⟩) 1 16 Tryd.underlying25 hi hz0 hz1 hz2 rfl (by decide) v1 ys.length (ys.map Value.string) rfl (HO1.out.1.alloc _) ⟨w1.heap.size, 0, none⟩ 1 1 [.string s] rfl rfl ?c1 ?c2 ?c3 ?c4 ?c5 ?_))
  case c1 =>
    intro j u hj
    match j, hj with
    | 0, hj => simp at hj; subst hj; simp [Addr.add]
  case c2 => intro u hu; simp at hu; subst hu; rfl
  case c3 => unfold maxLen; omega
  case c4 => omega
  case c5 => have := HO1.out.2.1.size; simp; omega
  intro v2 w2 hown2 hg2 _
  have ho2 := own_one HO1.out hown2 hg2
  have hc2 := box_stays HO1.out hc1 hg2
  have c3 := c2.out w2 ho2.2.1 hc2
  have hbx2 := cell_lt hc2
  obtain ⟨yq, hyq⟩ : ∃ yq, ys ++ [s] = yq := ⟨_, rfl⟩
  have hyl : yq.length ≤ 1001 := by rw [← hyq]; simp; omega
  rw [hyq] at ho2
  have HW2 : Hid (withB xs s = yq ++ zs) := Lib.hid (by rw [HW.out, hyq])
  have HO2 := Lib.hid ho2
  clear hown2 hg2 ho2 HO1 hc1 hc2 c2 hyq HW
  go_wp2_with fail
  refine c3.mono ?_
  rintro e w3 ⟨v3, rfl, ho3⟩
  have ho := HO2.out.then_ ho3.2.1
  have hzl : zs.length ≤ 1000 := by omega
  have hbx3 : w.heap.size < w3.heap.size := Nat.lt_of_lt_of_le hbx2 ho3.2.1.size
  have hb3 := ho3.2.1
  rcases ho3.1.2 with ⟨rfl, h0⟩ | ⟨g3, cap3, cur3, rfl, _⟩
  · obtain rfl : zs = [] := List.eq_nil_of_length_eq_zero h0
    have HO := Lib.hid ho
    clear ho ho3 c3 HO2 hb3
    go_wp2_with (at_builtin; refine wpList_append_own_none rfl (.tmp 13) (.tmp 16) 25 rfl (w.heap.size + 1) 9 i0 1 Tryd.underlying25 hi v2 yq.length (yq.map Value.string) rfl HO.out.1 rfl ?_)
    obtain ⟨A4, d4, hv, hR4, hb4⟩ := HO.out.gives
    go_ret
    rw [HW2.out, List.append_nil]
    exact ⟨A4, d4, hv, hR4, hb4⟩
  · have hcells := ho3.1.cells (g := g3) rfl
    have HO := Lib.hid ho
    have HC := Lib.hid hcells
    clear ho ho3 c3 HO2 hb3 hcells
    go_wp2_with (at_builtin; refine wpList_append_own _ rfl (.tmp 13) (.tmp 16) 25 rfl (w.heap.size + 1) 9 i0 (.string ⟨#[]⟩) 1 16 Tryd.underlying25 hi hz0 hz1 hz2 rfl (by decide) v2 yq.length (yq.map Value.string) rfl HO.out.1 ⟨g3, 0, none⟩ zs.length cap3 (zs.map Value.string) rfl (by simp) HC.out ?d2 ?d3 ?d4 ?d5 ?_)
    case d2 => intro u hu; simp only [List.mem_map] at hu; obtain ⟨y, _, rfl⟩ := hu; rfl
    case d3 => unfold maxLen; omega
    case d4 => omega
    case d5 => omega
    intro v4 w4 hown4 hg4 _
    have ho4 := (own_more HO.out hown4 hg4).gives
    obtain ⟨A4, d4, hv, hR4, hb4⟩ := ho4
    clear hown4 hg4
    go_wp2
    go_ret
    rw [HW2.out]
    exact ⟨A4, d4, hv, hR4, hb4⟩
end Go.Proofs.YtcnfjimncifbgaaDoor
