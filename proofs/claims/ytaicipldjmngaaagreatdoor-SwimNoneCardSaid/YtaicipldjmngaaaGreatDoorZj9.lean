import Derived.Test.YtaicipldjmngaaaGreatDoorZj7
import Derived.Test.YtaicipldjmngaaaGreatDoorZj8
import Derived.OwnWalkIn
import Derived.TacticsInMore
namespace Go.Proofs.YtaicipldjmngaaaGreatDoor.wh
open Go.RowKit Go.Maps Go.Sort Go.Lib Go.Shelf
set_option linter.unusedSimpArgs false
theorem stop_gives (id x : Int) (X : Nat) (W : World) (hc : W.cell? ⟨X, 0, none⟩ = some (.int .i64 id)) : FnGives Tryz.prog 169 #[.pointer (some ⟨X, 0, none⟩)] #[encZ x] (.bool (x == id)) W := by
  show Calls Tryz.prog 169 #[.int .i64 x, .pointer (some ⟨X, 0, none⟩)] W _
  go_enter Tryz.func169, Tryz.ntmps169
  go_wp2
  go_ret
  exact ⟨rfl, 0, rfl⟩
theorem int_zero (w : World) : (zeroValue 3).run Tryz.prog w = .ok (encZ 0) w := by kernel_rfl
def keepL (id : Int) (l : List Int) : List Int := l.filter fun x => !(x == id)
theorem keepL_le (id : Int) (l : List Int) : (keepL id l).length ≤ l.length := List.length_filter_le _ _
theorem grownBy_put {w : World} {b k : Nat} (d : Array Int) : w.grownBy (putRow encZ (Sort.ahead w k) b 0 d) (some b) := by
  have := grownBy_sorted_i (w := w) (g := b) (n := k) (os := #[]) d
  rwa [grow_empty] at this
set_option maxHeartbeats 1000000 in
theorem delete_any (w : World) (l : List Int) (b cap X : Nat) (id : Int) (hown : rowOwn w (.slice (some ⟨b, 0, none⟩) l.length cap) l) (hX : w.cell? ⟨X, 0, none⟩ = some (.int .i64 id)) (hXl : X < w.heap.size) (hne : X ≠ b) :
    Calls Tryz.prog 168 #[.slice (some ⟨b, 0, none⟩) l.length cap, .func (.func 169) #[] #[.pointer (some ⟨X, 0, none⟩)]] w fun e w' =>
      e = .returned (.slice (some ⟨b, 0, none⟩) (keepL id l).length cap) ∧ rowOwn w' (.slice (some ⟨b, 0, none⟩) (keepL id l).length cap) (keepL id l) ∧ w.grownBy w' (some b) := by
  have eg : ∀ args w, (callFunc 169 args).run Tryz.prog w = .ok (.enter 169 args) w := enters_of Tryz.func169 (by kernel_rfl) rfl
  have hO : rowOwn w (.slice (some ⟨b, 0, none⟩) l.length cap) l := hown
  obtain ⟨g, c, e, _, _, hnc, hm, _, hH⟩ := holds_of_ownsRow hown (by simp)
  simp only [Value.slice.injEq, Option.some.injEq, Addr.mk.injEq, true_and, and_true] at e
  obtain ⟨rfl, rfl⟩ := e
  unfold maxLen at hm
  have hp : PredAt Tryz.prog 169 #[.pointer (some ⟨X, 0, none⟩)] encZ (fun x => x == id) w := fun W x hb => stop_gives id x X W ((hb.cell (p := ⟨X, 0, none⟩) hXl).trans hX)
  have hpo : PredOver Tryz.prog 169 #[.pointer (some ⟨X, 0, none⟩)] encZ (fun x => x == id) b 0 l.toArray.size w := fun n os dk x _ => stop_gives id x X _ (by
    unfold sortWorld
    rw [cell?_grow _ _ _ (by show X < (putRow _ _ _ _ _).heap.size; rw [size_putRow]; exact hXl), cell?_putRow_other _ _ b 0 _ _ (Or.inl hne)]
    exact hX)
  have hcon := Tryz.slices_DeleteFunc encZ (fun _ => rfl) (fun x => x == id) 169 #[.pointer (some ⟨X, 0, none⟩)] eg 0 int_zero b 0 cap l.toArray w hp hpo hH (by simp; omega) (by simpa using hnc)
  rw [List.size_toArray] at hcon
  refine hcon.mono ?_
  rintro e w' ⟨rfl, k, rfl⟩
  have h1 := ownsRow_putRow (q := k) (k := (keepL id l).length) (ys := keepL id l ++ List.replicate (l.length - (keepL id l).length) 0) hO (by have := keepL_le id l; simp; omega) (keepL_le id l)
  rw [List.take_left] at h1
  exact ⟨rfl, h1, grownBy_put _⟩
end Go.Proofs.YtaicipldjmngaaaGreatDoor.wh

namespace Go.Proofs.YtaicipldjmngaaaGreatDoor.wh
open Go.RowKit Go.Rel
set_option linter.unusedSimpArgs false
set_option linter.unusedVariables false
def stopA (_ : Nat → Prop) (w0 : World) (B : Nat) (M : Nat) (X : Nat) (id : Int) (d : Nat) (l : Nat) (is : Bool) : Nat → Value → World → Prop
  | 0, v, _ => v = .pointer (some ⟨B, 0, none⟩)
  | 1, v, _ => v = .pointer (some ⟨B, 0, none⟩)
  | 2, v, _ => v = .pointer (some ⟨B, 1, none⟩)
  | 3, v, _ => v = .map (some M)
  | 4, v, _ => v = .int .i64 id
  | 5, v, _ => v = .tuple #[.agg #[.int .i64 (d : Int), .int .i64 (l : Int)], .bool is]
  | 6, v, _ => v = .tuple #[.agg #[.int .i64 (d : Int), .int .i64 (l : Int)], .bool is]
  | 7, v, _ => v = .agg #[.int .i64 (d : Int), .int .i64 (l : Int)]
  | 8, v, _ => v = .bool is
  | 9, v, _ => v = .pointer (some ⟨w0.heap.size, 0, none⟩)
  | 10, v, _ => v = undef
  | 11, v, _ => v = .bool is
  | _, _, _ => True
theorem stopA_stable (S : Nat → Prop) (w0 : World) (B : Nat) (M : Nat) (X : Nat) (id : Int) (d : Nat) (l : Nat) (is : Bool) : ∀ i v w w', stopA S w0 B M X id d l is i v w → But S w w' → stopA S w0 B M X id d l is i v w'
  | 0, _, _, _, h, _ | 1, _, _, _, h, _ | 2, _, _, _, h, _ | 3, _, _, _, h, _ | 4, _, _, _, h, _ | 5, _, _, _, h, _ | 6, _, _, _, h, _ | 7, _, _, _, h, _ | 8, _, _, _, h, _ | 9, _, _, _, h, _ | 10, _, _, _, h, _ | 11, _, _, _, h, _ => h
  | _ + 12, _, _, _, h, _ => h
def stopB (_ : Nat → Prop) (B : Nat) (X : Nat) (Y : Nat) (lv : Int) (j : Nat) (A1 : Nat) (O : Nat) (u : Value) (v1 : Value) : Nat → Value → World → Prop
  | 0, v, _ => v = .pointer (some ⟨B, 0, none⟩)
  | 1, v, _ => v = .pointer (some ⟨Y, 1, none⟩)
  | 2, v, _ => v = .int .i64 lv
  | 3, v, _ => v = .int .i64 (j : Int)
  | 4, v, _ => v = .pointer (some ⟨B, 0, none⟩)
  | 5, v, _ => v = .pointer (some ⟨Y, 1, none⟩)
  | 6, v, _ => v = .int .i64 lv
  | 7, v, _ => v = .int .i64 (j : Int)
  | 8, v, _ => v = .pointer (some ⟨B, 0, none⟩)
  | 9, v, _ => v = .pointer (some ⟨B, 2, none⟩)
  | 10, v, _ => v = .pointer (some ⟨B, A1, none⟩)
  | 11, v, _ => v = .pointer (some ⟨B, O, none⟩)
  | 12, v, _ => v = u
  | 13, v, _ => v = .func (.func 169) #[] #[.pointer (some ⟨X, 0, none⟩)]
  | 14, v, _ => v = v1
  | 15, v, _ => v = .pointer (some ⟨B, 0, none⟩)
  | 16, v, _ => v = .pointer (some ⟨B, 2, none⟩)
  | 17, v, _ => v = .pointer (some ⟨B, A1, none⟩)
  | 18, v, _ => v = .pointer (some ⟨B, O, none⟩)
  | 19, v, _ => v = undef
  | _, _, _ => True
theorem stopB_stable (S : Nat → Prop) (w3 : World) (B : Nat) (X : Nat) (Y : Nat) (lv : Int) (j : Nat) (A1 : Nat) (O : Nat) (u : Value) (v1 : Value) : ∀ i v w w', stopB S B X Y lv j A1 O u v1 i v w → But (Olds S w3) w w' → stopB S B X Y lv j A1 O u v1 i v w'
  | 0, _, _, _, h, _ | 1, _, _, _, h, _ | 2, _, _, _, h, _ | 3, _, _, _, h, _ | 4, _, _, _, h, _ | 5, _, _, _, h, _ | 6, _, _, _, h, _ | 7, _, _, _, h, _ | 8, _, _, _, h, _ | 9, _, _, _, h, _ | 10, _, _, _, h, _ | 11, _, _, _, h, _ | 12, _, _, _, h, _ | 13, _, _, _, h, _ | 14, _, _, _, h, _ | 15, _, _, _, h, _ | 16, _, _, _, h, _ | 17, _, _, _, h, _ | 18, _, _, _, h, _ | 19, _, _, _, h, _ => h
  | _ + 20, _, _, _, h, _ => h
def stopC (_ : Nat → Prop) (B : Nat) (M : Nat) (X : Nat) (id : Int) : Nat → Value → World → Prop
  | 0, v, _ => v = .pointer (some ⟨B, 0, none⟩)
  | 1, v, _ => v = .pointer (some ⟨B, 0, none⟩)
  | 2, v, _ => v = .pointer (some ⟨B, 1, none⟩)
  | 3, v, _ => v = .map (some M)
  | 4, v, _ => v = .int .i64 id
  | _, _, _ => True
theorem stopC_stable (S : Nat → Prop) (B : Nat) (M : Nat) (X : Nat) (id : Int) : ∀ i v w w', stopC S B M X id i v w → But S w w' → stopC S B M X id i v w'
  | 0, _, _, _, h, _ | 1, _, _, _, h, _ | 2, _, _, _, h, _ | 3, _, _, _, h, _ | 4, _, _, _, h, _  => h
  | _ + 5, _, _, _, h, _ => h
def stopI (w0 : World) (d l : Nat) (a z : Bool) (w : World) : Prop :=
  Below w0.heap.size w0 w ∧ (a = false → w.heap.size = w0.heap.size) ∧ (a = true → z = false → w.heap[w0.heap.size]? = some (.cells #[.int .i64 0, .int .i64 0] 148 (0, 0)) ∧ w.heap.size = w0.heap.size + 1) ∧
    (z = true → w.heap[w0.heap.size]? = some (.cells #[.int .i64 (d : Int), .int .i64 (l : Int)] 148 (0, 0)))
set_option maxHeartbeats 8000000 in
set_option maxRecDepth 100000 in
theorem stop_no {S : Nat → Prop} {B M N n : Nat} {g : Nat → Value} {m : Mp} {q : Nat → List Int} (w : World) (h : WhIs S w B M g N m n q) (id : Int) (hid : wfI id) (hm : m id = none) :
    Calls Tryz.prog 113 #[.pointer (some ⟨B, 0, none⟩), .int .i64 id] w fun e w' => e = .returned (.bool false) ∧ Below w.heap.size w w' := by
  obtain ⟨w0, hW0⟩ : ∃ w0, w.alloc (.cells #[.int .i64 id] 3) = w0 := ⟨_, rfl⟩
  have hB0 : Below w.heap.size w w0 := by rw [← hW0]; exact (Below.refl _ w).alloc (Nat.le_refl _) _
  have h0 := h.below hB0
  have HMade := Lib.hid (made_yes w0 h0)
  have HB1 : Hid (∀ w', Below w0.heap.size w0 w' → w'.cell? ⟨B, 1, none⟩ = some (.map (some M))) := Lib.hid (fun w' hb => (h0.below hb).c1)
  have HX1 : Hid (∀ w', Below w0.heap.size w0 w' → w'.cell? ⟨w.heap.size, 0, none⟩ = some (.int .i64 id)) := Lib.hid (fun w' hb => by
    rw [hb.cell (p := ⟨w.heap.size, 0, none⟩) (by rw [← hW0]; simp), ← hW0]
    simp)
  obtain ⟨d, hd⟩ : ∃ d : Nat, d = 0 := ⟨0, rfl⟩
  obtain ⟨l, hl⟩ : ∃ l : Nat, l = 0 := ⟨0, rfl⟩
  have HLk : Hid (∀ w', Below w0.heap.size w0 w' → (Instr.lookup 140 (.map (some M)) (.int .i64 id) true).run Tryz.prog w' = .ok (.tuple #[.agg #[.int .i64 (d : Int), .int .i64 (l : Int)], .bool false]) w') := Lib.hid (fun w' hb => (h0.below hb).map.look hid (v := (d, l)) (by rw [hm, hd, hl]; rfl) (by rw [hm]; rfl))
  have HW := Lib.hid hW0
  have HBel := Lib.hid hB0
  clear hW0 hB0 h0 h hm hd hl
  go_enter Tryz.func113, Tryz.ntmps113
  go_wp2_with fail
  rw [HW.out]
  refine HMade.out.mono ?_
  rintro e w' ⟨rfl, rfl⟩
  go_wp2
  refine Go.Rel.wp_region_states (by kernel_rfl) (by kernel_rfl) (by kernel_rfl) (by kernel_rfl) (fun f w => stopI w0 d l (f 9) (f 10) w) (But (fun k => w0.heap.size ≤ k)) (fun _ _ _ h k => h.trans k) ((But.refl _ _).drew) ⟨⟨rfl, rfl, rfl, Nat.le_refl _, fun _ _ => rfl⟩, fun _ => rfl, (fun h => by cases h), (fun h => by cases h)⟩ (stopA _ w0 B M w.heap.size id d l false) (stopA_stable _ w0 B M w.heap.size id d l false) ?hsteps ?hend
  case hsteps =>
    refine (.cons ?_ (.cons ?_ (.cons ?_ (.cons ?_ (.cons ?_ (.cons ?_ (.cons ?_ (.cons ?_ (.cons ?_ (.cons ?_ (.cons ?_ (.cons ?_ .nil))))))))))))
    · intro f a w' hI hf hanc hdesc hle hs' hd K hK
      have f0 : a.tmps[0]? = some (.pointer (some ⟨B, 0, none⟩)) := hs'.2.2 0 (by kernel_rfl)
      unfold Go.Rel.stepOf
      go_simp
      exact hK _ _ (But.refl _ _) (hI) rfl
    · intro f a w' hI hf hanc hdesc hle hs' hd K hK
      obtain ⟨_, t0, rfl⟩ := hd 0 12 (by kernel_rfl)
      unfold Go.Rel.stepOf
      go_simp
      exact hK _ _ (But.refl _ _) (hI) rfl
    · intro f a w' hI hf hanc hdesc hle hs' hd K hK
      obtain ⟨_, t1, rfl⟩ := hd 1 13 (by kernel_rfl)
      unfold Go.Rel.stepOf
      go_simp
      exact hK _ _ (But.refl _ _) (hI) rfl
    · intro f a w' hI hf hanc hdesc hle hs' hd K hK
      obtain ⟨_, t2, rfl⟩ := hd 2 14 (by kernel_rfl)
      have cc := HB1.out w' hI.1
      unfold Go.Rel.stepOf
      go_simp
      exact hK _ _ (But.refl _ _) (hI) rfl
    · intro f a w' hI hf hanc hdesc hle hs' hd K hK
      have f3 : a.tmps[3]? = some (.pointer (some ⟨w.heap.size, 0, none⟩)) := hs'.2.2 3 (by kernel_rfl)
      have cc := HX1.out w' hI.1
      unfold Go.Rel.stepOf
      go_simp
      exact hK _ _ (But.refl _ _) (hI) rfl
    · intro f a w' hI hf hanc hdesc hle hs' hd K hK
      obtain ⟨_, t3, rfl⟩ := hd 3 15 (by kernel_rfl)
      obtain ⟨_, t4, rfl⟩ := hd 4 16 (by kernel_rfl)
      have cc := HLk.out w' hI.1
      unfold Go.Rel.stepOf
      go_simp
      exact hK _ _ (But.refl _ _) (hI) rfl
    · intro f a w' hI hf hanc hdesc hle hs' hd K hK
      obtain ⟨_, t5, rfl⟩ := hd 5 17 (by kernel_rfl)
      unfold Go.Rel.stepOf
      go_simp
      exact hK _ _ (But.refl _ _) (hI) rfl
    · intro f a w' hI hf hanc hdesc hle hs' hd K hK
      obtain ⟨_, t6, rfl⟩ := hd 6 11 (by kernel_rfl)
      unfold Go.Rel.stepOf
      go_simp
      exact hK _ _ (But.refl _ _) (hI) rfl
    · intro f a w' hI hf hanc hdesc hle hs' hd K hK
      obtain ⟨_, t6, rfl⟩ := hd 6 11 (by kernel_rfl)
      unfold Go.Rel.stepOf
      go_simp
      exact hK _ _ (But.refl _ _) (hI) rfl
    · intro f a w' hI hf hanc hdesc hle hs' hd K hK
      have hz : f 10 = false := hdesc 1 10 (by kernel_rfl)
      have hsz := hI.2.1 hf
      have hB := hI.1
      unfold Go.Rel.stepOf
      go_simp
      refine hK _ _ (But.of_below ((Below.refl _ _).alloc (Nat.le_refl _) _)) ⟨hB.alloc hB.size _, (fun h => by cases h), (fun _ _ => by rw [← hsz]; exact ⟨heap_alloc_new _ _, by simp⟩), (fun h => by rw [show upd f 9 10 = f 10 from rfl, hz] at h; cases h)⟩ rfl
    · intro f a w' hI hf hanc hdesc hle hs' hd K hK
      obtain ⟨_, t9, rfl⟩ := hd 9 5 (by kernel_rfl)
      obtain ⟨_, t7, rfl⟩ := hd 7 18 (by kernel_rfl)
      have ha : f 9 = true := hanc 1 9 (by kernel_rfl)
      have hB := hI.1
      obtain ⟨hh, hsz⟩ := hI.2.2.1 ha hf
      have c0 : w'.cell? ⟨w0.heap.size, 0, none⟩ = some (.int .i64 0) := by rw [cell_of_row _ _ _ _ _ _ hh]; rfl
      have c1 : w'.cell? ⟨w0.heap.size, 1, none⟩ = some (.int .i64 0) := by rw [cell_of_row _ _ _ _ _ _ hh]; rfl
      have z0 : w'.frozen? ⟨w0.heap.size, 0, none⟩ = false := by simp [World.frozen?, hh]
      have z1 : w'.frozen? ⟨w0.heap.size, 1, none⟩ = false := by simp [World.frozen?, hh]
      have hh2 := block_set (block_set hh 0 (.int .i64 (d : Int))) 1 (.int .i64 (l : Int))
      have HH := Lib.hid hh
      have HH2 := Lib.hid hh2
      clear hh hh2
      unfold Go.Rel.stepOf
      go_simp
      refine hK _ _ ((But.set (S := fun k => w0.heap.size ≤ k) _ (p := ⟨w0.heap.size, 0, none⟩) (Nat.le_refl _) _).trans (But.set _ (p := ⟨w0.heap.size, 1, none⟩) (Nat.le_refl _) _)) ⟨(hB.setCell (Nat.le_refl _) _).setCell (Nat.le_refl _) _, (fun h => by rw [show upd f 10 9 = f 9 from rfl, ha] at h; cases h), (fun _ h => by cases h), (fun _ => by rw [HH2.out]; simp)⟩ rfl
    · intro f a w' hI hf hanc hdesc hle hs' hd K hK
      obtain ⟨_, t8, rfl⟩ := hd 8 19 (by kernel_rfl)
      unfold Go.Rel.stepOf
      go_simp
      exact hK _ _ (But.refl _ _) (hI) rfl
  case hend =>
    intro f a w3 hall hI hle hs' hR'
    have HB3 : Hid (Below w.heap.size w w3) := Lib.hid (HBel.out.trans (hI.1.mono HBel.out.size))
    clear hI hall hle
    obtain ⟨v12, s12, _⟩ := hR' 0 12 (by kernel_rfl)
    obtain ⟨v13, s13, _⟩ := hR' 1 13 (by kernel_rfl)
    obtain ⟨v14, s14, _⟩ := hR' 2 14 (by kernel_rfl)
    obtain ⟨v15, s15, _⟩ := hR' 3 15 (by kernel_rfl)
    obtain ⟨v16, s16, _⟩ := hR' 4 16 (by kernel_rfl)
    obtain ⟨v17, s17, _⟩ := hR' 5 17 (by kernel_rfl)
    obtain ⟨v11, s11, _⟩ := hR' 6 11 (by kernel_rfl)
    obtain ⟨v18, s18, _⟩ := hR' 7 18 (by kernel_rfl)
    obtain ⟨v19, s19, _⟩ := hR' 8 19 (by kernel_rfl)
    obtain ⟨_, s5, rfl⟩ := hR' 9 5 (by kernel_rfl)
    obtain ⟨_, s6, rfl⟩ := hR' 11 6 (by kernel_rfl)
    have e := hs'.shape
    simp only [List.toList_toArray, List.foldl, Go.Rel.reset, Array.getD_eq_getD_getElem?, s12, s13, s14, s15, s16, s17, s11, s18, s19, s5, s6, Option.getD_some] at e
    simp at e
    clear hR' hs' s12 s13 s14 s15 s16 s17 s11 s18 s19 s5 s6
    subst e
    go_wp2
    go_ret
    exact ⟨rfl, HB3.out⟩
set_option maxHeartbeats 16000000 in
set_option maxRecDepth 100000 in
theorem stop_yes {S : Nat → Prop} {B M N n : Nat} {g : Nat → Value} {m : Mp} {q : Nat → List Int} {c : Nat → Nat} (w : World) (h : WhIs S w B M g N m n q) (hcl : ∀ k, w.heap.size ≤ k → S k) (hInv : Inv c m q) (id : Int) (hid : wfI id) (d l : Nat) (hm : m id = some (d, l)) (hd : d ≤ 4611686018427387904) :
    Calls Tryz.prog 113 #[.pointer (some ⟨B, 0, none⟩), .int .i64 id] w fun e w' => e = .returned (.bool true) ∧
      ∃ g', WhIs S w' B M g' N (upM m id none) n (upQ q (slotOf l d) (keepL id (q (slotOf l d)))) ∧ Kept S w w' := by
  have hl3 : l < 3 := (hInv.lev id d l hm).1
  have hmem := (hInv.lev id d l hm).2.2.2
  have hk := slotOf_lt hl3 d
  have hp := place_of (t := d) hl3
  have HSl := Lib.hid (fun w => slot_any d l w hl3 hd)
  obtain ⟨Ks, hK⟩ : ∃ Ks, slotOf l d = Ks := ⟨_, rfl⟩
  rw [hK] at hk hp hmem ⊢
  obtain ⟨j, hj⟩ : ∃ j, blkOf l d % 64 = j := ⟨_, rfl⟩
  have hj64 : j < 64 := by omega
  have q3 : (j : Int) < 64 := by omega
  rw [hj] at HSl hp
  obtain ⟨O, hO⟩ : ∃ O, 2 + Ks = O := ⟨_, rfl⟩
  rw [hO] at hp
  obtain ⟨ls, hls⟩ : ∃ ls, keepL id (q Ks) = ls := ⟨_, rfl⟩
  obtain ⟨b, cap, hg, hgo⟩ : ∃ b cap, g Ks = .slice (some ⟨b, 0, none⟩) (q Ks).length cap ∧ rowB g Ks b := by
    rcases (h.rows.own Ks hk).2 with ⟨_, h0⟩ | ⟨b, cap, _, e, _⟩
    · rw [List.eq_nil_of_length_eq_zero h0] at hmem; cases hmem
    · exact ⟨b, cap, e, by rw [rowB, e]; rfl⟩
  obtain ⟨w0, hW0⟩ : ∃ w0, w.alloc (.cells #[.int .i64 id] 3) = w0 := ⟨_, rfl⟩
  have hB0 : Below w.heap.size w w0 := by rw [← hW0]; exact (Below.refl _ w).alloc (Nat.le_refl _) _
  have h0 := h.below hB0
  have hX0 : w0.heap[w.heap.size]? = some (.cells #[.int .i64 id] 3 (0, 0)) := by rw [← hW0]; exact heap_alloc_new _ _
  have hXl : w.heap.size < w0.heap.size := block_lt hX0
  have hYX : w.heap.size ≠ b := fun e => by have := own_lt (h.rows.own Ks hk) hgo; omega
  have HMade := Lib.hid (made_yes w0 h0)
  have HB1 : Hid (∀ w', Below w0.heap.size w0 w' → w'.cell? ⟨B, 1, none⟩ = some (.map (some M))) := Lib.hid (fun w' hb => (h0.below hb).c1)
  have HX1 : Hid (∀ w', Below w0.heap.size w0 w' → w'.cell? ⟨w.heap.size, 0, none⟩ = some (.int .i64 id)) := Lib.hid (fun w' hb => by
    rw [hb.cell (p := ⟨w.heap.size, 0, none⟩) hXl, cell_of_row _ _ _ _ _ _ hX0]
    rfl)
  have HLk : Hid (∀ w', Below w0.heap.size w0 w' → (Instr.lookup 140 (.map (some M)) (.int .i64 id) true).run Tryz.prog w' = .ok (.tuple #[.agg #[.int .i64 (d : Int), .int .i64 (l : Int)], .bool true]) w') := Lib.hid (fun w' hb => (h0.below hb).map.look hid (v := (d, l)) (by rw [hm]; rfl) (by rw [hm]; rfl))
  have HW := Lib.hid hW0
  have HBel := Lib.hid hB0
  have HX0 := Lib.hid hX0
  have H0 := Lib.hid h0
  have HH := Lib.hid h
  have HG := Lib.hid hg
  have HGo := Lib.hid hgo
  have HLs := Lib.hid hls
  have HO := Lib.hid hO
  have HCl := Lib.hid hcl
  have HNX := Lib.hid hYX
  have HIn := Lib.hid hInv
  clear hW0 hB0 h0 h hX0 hg hgo hls hO hcl hm hK hj hmem hYX hInv
  go_enter Tryz.func113, Tryz.ntmps113
  go_wp2_with fail
  rw [HW.out]
  refine HMade.out.mono ?_
  rintro e w' ⟨rfl, rfl⟩
  go_wp2
  refine Go.Rel.wp_region_states (by kernel_rfl) (by kernel_rfl) (by kernel_rfl) (by kernel_rfl) (fun f w => stopI w0 d l (f 9) (f 10) w) (But (fun k => w0.heap.size ≤ k)) (fun _ _ _ h k => h.trans k) ((But.refl _ _).drew) ⟨⟨rfl, rfl, rfl, Nat.le_refl _, fun _ _ => rfl⟩, fun _ => rfl, (fun h => by cases h), (fun h => by cases h)⟩ (stopA _ w0 B M w.heap.size id d l true) (stopA_stable _ w0 B M w.heap.size id d l true) ?hsteps ?hend
  case hsteps =>
    refine (.cons ?_ (.cons ?_ (.cons ?_ (.cons ?_ (.cons ?_ (.cons ?_ (.cons ?_ (.cons ?_ (.cons ?_ (.cons ?_ (.cons ?_ (.cons ?_ .nil))))))))))))
    · intro f a w' hI hf hanc hdesc hle hs' hd K hK
      have f0 : a.tmps[0]? = some (.pointer (some ⟨B, 0, none⟩)) := hs'.2.2 0 (by kernel_rfl)
      unfold Go.Rel.stepOf
      go_simp
      exact hK _ _ (But.refl _ _) (hI) rfl
    · intro f a w' hI hf hanc hdesc hle hs' hd K hK
      obtain ⟨_, t0, rfl⟩ := hd 0 12 (by kernel_rfl)
      unfold Go.Rel.stepOf
      go_simp
      exact hK _ _ (But.refl _ _) (hI) rfl
    · intro f a w' hI hf hanc hdesc hle hs' hd K hK
      obtain ⟨_, t1, rfl⟩ := hd 1 13 (by kernel_rfl)
      unfold Go.Rel.stepOf
      go_simp
      exact hK _ _ (But.refl _ _) (hI) rfl
    · intro f a w' hI hf hanc hdesc hle hs' hd K hK
      obtain ⟨_, t2, rfl⟩ := hd 2 14 (by kernel_rfl)
      have cc := HB1.out w' hI.1
      unfold Go.Rel.stepOf
      go_simp
      exact hK _ _ (But.refl _ _) (hI) rfl
    · intro f a w' hI hf hanc hdesc hle hs' hd K hK
      have f3 : a.tmps[3]? = some (.pointer (some ⟨w.heap.size, 0, none⟩)) := hs'.2.2 3 (by kernel_rfl)
      have cc := HX1.out w' hI.1
      unfold Go.Rel.stepOf
      go_simp
      exact hK _ _ (But.refl _ _) (hI) rfl
    · intro f a w' hI hf hanc hdesc hle hs' hd K hK
      obtain ⟨_, t3, rfl⟩ := hd 3 15 (by kernel_rfl)
      obtain ⟨_, t4, rfl⟩ := hd 4 16 (by kernel_rfl)
      have cc := HLk.out w' hI.1
      unfold Go.Rel.stepOf
      go_simp
      exact hK _ _ (But.refl _ _) (hI) rfl
    · intro f a w' hI hf hanc hdesc hle hs' hd K hK
      obtain ⟨_, t5, rfl⟩ := hd 5 17 (by kernel_rfl)
      unfold Go.Rel.stepOf
      go_simp
      exact hK _ _ (But.refl _ _) (hI) rfl
    · intro f a w' hI hf hanc hdesc hle hs' hd K hK
      obtain ⟨_, t6, rfl⟩ := hd 6 11 (by kernel_rfl)
      unfold Go.Rel.stepOf
      go_simp
      exact hK _ _ (But.refl _ _) (hI) rfl
    · intro f a w' hI hf hanc hdesc hle hs' hd K hK
      obtain ⟨_, t6, rfl⟩ := hd 6 11 (by kernel_rfl)
      unfold Go.Rel.stepOf
      go_simp
      exact hK _ _ (But.refl _ _) (hI) rfl
    · intro f a w' hI hf hanc hdesc hle hs' hd K hK
      have hz : f 10 = false := hdesc 1 10 (by kernel_rfl)
      have hsz := hI.2.1 hf
      have hB := hI.1
      unfold Go.Rel.stepOf
      go_simp
      refine hK _ _ (But.of_below ((Below.refl _ _).alloc (Nat.le_refl _) _)) ⟨hB.alloc hB.size _, (fun h => by cases h), (fun _ _ => by rw [← hsz]; exact ⟨heap_alloc_new _ _, by simp⟩), (fun h => by rw [show upd f 9 10 = f 10 from rfl, hz] at h; cases h)⟩ rfl
    · intro f a w' hI hf hanc hdesc hle hs' hd K hK
      obtain ⟨_, t9, rfl⟩ := hd 9 5 (by kernel_rfl)
      obtain ⟨_, t7, rfl⟩ := hd 7 18 (by kernel_rfl)
      have ha : f 9 = true := hanc 1 9 (by kernel_rfl)
      have hB := hI.1
      obtain ⟨hh, hsz⟩ := hI.2.2.1 ha hf
      have c0 : w'.cell? ⟨w0.heap.size, 0, none⟩ = some (.int .i64 0) := by rw [cell_of_row _ _ _ _ _ _ hh]; rfl
      have c1 : w'.cell? ⟨w0.heap.size, 1, none⟩ = some (.int .i64 0) := by rw [cell_of_row _ _ _ _ _ _ hh]; rfl
      have z0 : w'.frozen? ⟨w0.heap.size, 0, none⟩ = false := by simp [World.frozen?, hh]
      have z1 : w'.frozen? ⟨w0.heap.size, 1, none⟩ = false := by simp [World.frozen?, hh]
      have hh2 := block_set (block_set hh 0 (.int .i64 (d : Int))) 1 (.int .i64 (l : Int))
      have HH := Lib.hid hh
      have HH2 := Lib.hid hh2
      clear hh hh2
      unfold Go.Rel.stepOf
      go_simp
      refine hK _ _ ((But.set (S := fun k => w0.heap.size ≤ k) _ (p := ⟨w0.heap.size, 0, none⟩) (Nat.le_refl _) _).trans (But.set _ (p := ⟨w0.heap.size, 1, none⟩) (Nat.le_refl _) _)) ⟨(hB.setCell (Nat.le_refl _) _).setCell (Nat.le_refl _) _, (fun h => by rw [show upd f 10 9 = f 9 from rfl, ha] at h; cases h), (fun _ h => by cases h), (fun _ => by rw [HH2.out]; simp)⟩ rfl
    · intro f a w' hI hf hanc hdesc hle hs' hd K hK
      obtain ⟨_, t8, rfl⟩ := hd 8 19 (by kernel_rfl)
      unfold Go.Rel.stepOf
      go_simp
      exact hK _ _ (But.refl _ _) (hI) rfl
  case hend =>
    intro f a w3 hall hI hle hs' hR'
    have hz := hall 10 (by decide)
    have hY := hI.2.2.2 hz
    have HB3 : Hid (Below w0.heap.size w0 w3) := Lib.hid hI.1
    obtain ⟨Y, hYe⟩ : ∃ Y, w0.heap.size = Y := ⟨_, rfl⟩
    have hYl : Y < w3.heap.size := by rw [← hYe]; exact block_lt hY
    have cY0 : w3.cell? ⟨Y, 0, none⟩ = some (.int .i64 (d : Int)) := by rw [← hYe, cell_of_row _ _ _ _ _ _ hY]; rfl
    have cY1 : w3.cell? ⟨Y, 1, none⟩ = some (.int .i64 (l : Int)) := by rw [← hYe, cell_of_row _ _ _ _ _ _ hY]; rfl
    have h3 := H0.out.below HB3.out
    have hX3 : w3.heap[w.heap.size]? = some (.cells #[.int .i64 id] 3 (0, 0)) := (HB3.out.block w.heap.size hXl).trans HX0.out
    have hcl3 : ∀ k, w3.heap.size ≤ k → S k := fun k hk => HCl.out k (by have := HB3.out.size; omega)
    have hYr : ∀ x, rowB g Ks x → x < Y ∧ x ≠ w.heap.size := fun x hx => by
      have h1 := own_lt (HH.out.rows.own Ks hk) hx
      have h2 := HBel.out.size
      omega
    have HC : Hid (∀ a w, rowI S w3 B M g N m n q Ks ls (.slice (some ⟨b, 0, none⟩) ls.length cap) True a false w → w.cell? ⟨B, O, none⟩ = some (g Ks)) := Lib.hid (fun a w hI => by
      rw [← HO.out]; exact (rowI.cell h3 hk hI _).1.trans (h3.c2 hk))
    have HY : Hid (∀ a w, rowI S w3 B M g N m n q Ks ls (.slice (some ⟨b, 0, none⟩) ls.length cap) True a false w → w.cell? ⟨Y, 1, none⟩ = some (.int .i64 (l : Int))) := Lib.hid (fun a w hI => by
      rw [← cY1]; exact World.cell?_of_block (hI.block hYl (fun e => by have := hYr Y e; omega)))
    have HDel : Hid (∀ w', rowI S w3 B M g N m n q Ks ls (.slice (some ⟨b, 0, none⟩) ls.length cap) True false false w' → Calls Tryz.prog 168 #[g Ks, .func (.func 169) #[] #[.pointer (some ⟨w.heap.size, 0, none⟩)]] w' fun e w2 => e = .returned (.slice (some ⟨b, 0, none⟩) ls.length cap) ∧ rowI S w3 B M g N m n q Ks ls (.slice (some ⟨b, 0, none⟩) ls.length cap) True true false w2 ∧ But (Olds S w3) w' w2) := Lib.hid (fun w' hI => by
      have hb := (hI.2 rfl).2 (fun e => by cases e)
      have ho := bown_keep (h3.rows.own Ks hk) hb
      rw [HG.out] at ho ⊢
      refine (delete_any w' (q Ks) b cap w.heap.size id ho (by rw [hb.cell (p := ⟨w.heap.size, 0, none⟩) (block_lt hX3), cell_of_row _ _ _ _ _ _ hX3]; rfl) (Nat.lt_of_lt_of_le (block_lt hX3) hb.size) HNX.out).mono ?_
      rintro e w2 ⟨rfl, ho2, hg2⟩
      rw [HLs.out] at ho2
      obtain ⟨f1, f2⟩ := rowI.grow h3 hk hI hg2 (fun x e => by cases e; exact ⟨HGo.out, trivial⟩) (fun _ => ho2)
      exact ⟨by rw [HLs.out], f1, f2⟩)
    have HSt : Hid (∀ w, rowI S w3 B M g N m n q Ks ls (.slice (some ⟨b, 0, none⟩) ls.length cap) True true false w → w.cell? ⟨B, O, none⟩ = some (g Ks) ∧ w.frozen? ⟨B, O, none⟩ = false ∧ But (Olds S w3) w (w.setCell ⟨B, O, none⟩ (.slice (some ⟨b, 0, none⟩) ls.length cap)) ∧ rowI S w3 B M g N m n q Ks ls (.slice (some ⟨b, 0, none⟩) ls.length cap) True true true (w.setCell ⟨B, O, none⟩ (.slice (some ⟨b, 0, none⟩) ls.length cap))) := Lib.hid (fun w hI => by
      obtain ⟨_, _, _, r⟩ := rowI.store h3 hk hcl3 (fun _ => ⟨b, cap, rfl, HGo.out⟩) hI ⟨fun _ => rfl, fun h => absurd trivial h⟩ HO.out
      exact r)
    obtain ⟨u, hu⟩ : ∃ u, g Ks = u := ⟨_, rfl⟩
    rw [hu] at HC HDel HSt
    have HBnd : Hid (∀ x, (x = B ∨ rowB g Ks x) → x < Y ∧ x ≠ w.heap.size) := Lib.hid (fun x hx => by
      rcases hx with rfl | hx
      · have := HH.out.lt; have := HBel.out.size; omega
      · exact hYr x hx)
    have HX3 := Lib.hid hX3
    have H3 := Lib.hid h3
    have HYe := Lib.hid hYe
    have hBR : Hid (∀ w4, But (fun x => x = B ∨ rowB g Ks x) w3 w4 → Kept S w3 w4) := Lib.hid (fun w4 hb => H3.out.keptRow hk hb)
    clear hI hall hle hz hY h3 hX3 hYr hu hcl3
    obtain ⟨v12, s12, _⟩ := hR' 0 12 (by kernel_rfl)
    obtain ⟨v13, s13, _⟩ := hR' 1 13 (by kernel_rfl)
    obtain ⟨v14, s14, _⟩ := hR' 2 14 (by kernel_rfl)
    obtain ⟨v15, s15, _⟩ := hR' 3 15 (by kernel_rfl)
    obtain ⟨v16, s16, _⟩ := hR' 4 16 (by kernel_rfl)
    obtain ⟨v17, s17, _⟩ := hR' 5 17 (by kernel_rfl)
    obtain ⟨v11, s11, _⟩ := hR' 6 11 (by kernel_rfl)
    obtain ⟨v18, s18, _⟩ := hR' 7 18 (by kernel_rfl)
    obtain ⟨v19, s19, _⟩ := hR' 8 19 (by kernel_rfl)
    obtain ⟨_, s5, rfl⟩ := hR' 9 5 (by kernel_rfl)
    obtain ⟨_, s6, rfl⟩ := hR' 11 6 (by kernel_rfl)
    have e := hs'.shape
    simp only [List.toList_toArray, List.foldl, Go.Rel.reset, Array.getD_eq_getD_getElem?, s12, s13, s14, s15, s16, s17, s11, s18, s19, s5, s6, Option.getD_some] at e
    simp at e
    clear hR' hs' s12 s13 s14 s15 s16 s17 s11 s18 s19 s5 s6
    subst e
    rw [HYe.out]
    go_wp2_with fail
    refine (HSl.out _).mono ?_
    rintro e w' ⟨rfl, rfl⟩
    rcases hp with ⟨rfl, hKs, rfl⟩ | ⟨rfl, hKs, rfl⟩ | ⟨rfl, hKs, rfl⟩
    · clear hKs
      go_wp2
      refine Go.Rel.wp_region_states (by kernel_rfl) (by kernel_rfl) (by kernel_rfl) (by kernel_rfl) (fun f w => rowI S w3 B M g N m n q Ks ls (.slice (some ⟨b, 0, none⟩) ls.length cap) True (f 14) (f 19) w) (But (Olds S w3)) (fun _ _ _ h k => h.trans k) ((But.refl _ _).drew) rowI.start (stopB S B w.heap.size Y ((0 : Nat) : Int) j 2 (2 + j) u (.slice (some ⟨b, 0, none⟩) ls.length cap)) (stopB_stable S w3 B w.heap.size Y ((0 : Nat) : Int) j 2 (2 + j) u (.slice (some ⟨b, 0, none⟩) ls.length cap)) ?hsteps6 ?hend6
      case hsteps6 =>
        refine (.cons ?_ (.cons ?_ (.cons ?_ (.cons ?_ (.cons ?_ (.cons ?_ (.cons ?_ (.cons ?_ (.cons ?_ (.cons ?_ (.cons ?_ (.cons ?_ (.cons ?_ (.cons ?_ (.cons ?_ (.cons ?_ (.cons ?_ (.cons ?_ (.cons ?_ (.cons ?_ .nil))))))))))))))))))))
        · intro f a w' hI hf hanc hdesc hle hs' hd K hK
          have f0 : a.tmps[0]? = some (.pointer (some ⟨B, 0, none⟩)) := hs'.2.2 0 (by kernel_rfl)
          unfold Go.Rel.stepOf
          go_simp
          exact hK _ _ (But.refl _ _) (hI) rfl
        · intro f a w' hI hf hanc hdesc hle hs' hd K hK
          have f5 : a.tmps[5]? = some (.pointer (some ⟨Y, 0, none⟩)) := hs'.2.2 5 (by kernel_rfl)
          unfold Go.Rel.stepOf
          go_simp
          exact hK _ _ (But.refl _ _) (hI) rfl
        · intro f a w' hI hf hanc hdesc hle hs' hd K hK
          obtain ⟨_, t1, rfl⟩ := hd 1 27 (by kernel_rfl)
          have hz : f 19 = false := hdesc 6 19 (by kernel_rfl)
          have hI2 := hI
          rw [hz] at hI2
          have cc := HY.out _ w' hI2
          unfold Go.Rel.stepOf
          go_simp
          exact hK _ _ (But.refl _ _) (hI) rfl
        · intro f a w' hI hf hanc hdesc hle hs' hd K hK
          have f7 : a.tmps[7]? = some (.int .i64 (j : Int)) := hs'.2.2 7 (by kernel_rfl)
          unfold Go.Rel.stepOf
          go_simp
          exact hK _ _ (But.refl _ _) (hI) rfl
        · intro f a w' hI hf hanc hdesc hle hs' hd K hK
          have f0 : a.tmps[0]? = some (.pointer (some ⟨B, 0, none⟩)) := hs'.2.2 0 (by kernel_rfl)
          unfold Go.Rel.stepOf
          go_simp
          exact hK _ _ (But.refl _ _) (hI) rfl
        · intro f a w' hI hf hanc hdesc hle hs' hd K hK
          have f5 : a.tmps[5]? = some (.pointer (some ⟨Y, 0, none⟩)) := hs'.2.2 5 (by kernel_rfl)
          unfold Go.Rel.stepOf
          go_simp
          exact hK _ _ (But.refl _ _) (hI) rfl
        · intro f a w' hI hf hanc hdesc hle hs' hd K hK
          obtain ⟨_, t5, rfl⟩ := hd 5 31 (by kernel_rfl)
          have hz : f 19 = false := hdesc 6 19 (by kernel_rfl)
          have hI2 := hI
          rw [hz] at hI2
          have cc := HY.out _ w' hI2
          unfold Go.Rel.stepOf
          go_simp
          exact hK _ _ (But.refl _ _) (hI) rfl
        · intro f a w' hI hf hanc hdesc hle hs' hd K hK
          have f7 : a.tmps[7]? = some (.int .i64 (j : Int)) := hs'.2.2 7 (by kernel_rfl)
          unfold Go.Rel.stepOf
          go_simp
          exact hK _ _ (But.refl _ _) (hI) rfl
        · intro f a w' hI hf hanc hdesc hle hs' hd K hK
          obtain ⟨_, t4, rfl⟩ := hd 4 30 (by kernel_rfl)
          unfold Go.Rel.stepOf
          go_simp
          exact hK _ _ (But.refl _ _) (hI) rfl
        · intro f a w' hI hf hanc hdesc hle hs' hd K hK
          obtain ⟨_, t8, rfl⟩ := hd 8 34 (by kernel_rfl)
          unfold Go.Rel.stepOf
          go_simp
          exact hK _ _ (But.refl _ _) (hI) rfl
        · intro f a w' hI hf hanc hdesc hle hs' hd K hK
          obtain ⟨_, t9, rfl⟩ := hd 9 35 (by kernel_rfl)
          obtain ⟨_, t6, rfl⟩ := hd 6 32 (by kernel_rfl)
          unfold Go.Rel.stepOf
          go_simp
          exact hK _ _ (But.refl _ _) (hI) rfl
        · intro f a w' hI hf hanc hdesc hle hs' hd K hK
          obtain ⟨_, t10, rfl⟩ := hd 10 36 (by kernel_rfl)
          obtain ⟨_, t7, rfl⟩ := hd 7 33 (by kernel_rfl)
          unfold Go.Rel.stepOf
          go_simp
          exact hK _ _ (But.refl _ _) (hI) rfl
        · intro f a w' hI hf hanc hdesc hle hs' hd K hK
          obtain ⟨_, t11, rfl⟩ := hd 11 37 (by kernel_rfl)
          have hz : f 19 = false := hdesc 3 19 (by kernel_rfl)
          have hI2 := hI
          rw [hz] at hI2
          have cc := HC.out _ w' hI2
          unfold Go.Rel.stepOf
          go_simp
          exact hK _ _ (But.refl _ _) (hI) rfl
        · intro f a w' hI hf hanc hdesc hle hs' hd K hK
          have f3 : a.tmps[3]? = some (.pointer (some ⟨w.heap.size, 0, none⟩)) := hs'.2.2 3 (by kernel_rfl)
          unfold Go.Rel.stepOf
          go_simp
          exact hK _ _ (But.refl _ _) (hI) rfl
        · intro f a w' hI hf hanc hdesc hle hs' hd K hK
          obtain ⟨_, t12, rfl⟩ := hd 12 38 (by kernel_rfl)
          obtain ⟨_, t13, rfl⟩ := hd 13 39 (by kernel_rfl)
          have hz : f 19 = false := hdesc 3 19 (by kernel_rfl)
          have hI2 := hI
          rw [hz, hf] at hI2
          unfold Go.Rel.stepOf
          go_simp
          refine (HDel.out w' hI2).mono ?_
          rintro e w2 ⟨rfl, hI3, hb3⟩
          refine hK _ _ hb3 ?_ rfl
          show rowI S w3 B M g N m n q Ks ls (.slice (some ⟨b, 0, none⟩) ls.length cap) True true (f 19) _
          rw [hz]
          exact hI3
        · intro f a w' hI hf hanc hdesc hle hs' hd K hK
          obtain ⟨_, t0, rfl⟩ := hd 0 26 (by kernel_rfl)
          unfold Go.Rel.stepOf
          go_simp
          exact hK _ _ (But.refl _ _) (hI) rfl
        · intro f a w' hI hf hanc hdesc hle hs' hd K hK
          obtain ⟨_, t15, rfl⟩ := hd 15 41 (by kernel_rfl)
          unfold Go.Rel.stepOf
          go_simp
          exact hK _ _ (But.refl _ _) (hI) rfl
        · intro f a w' hI hf hanc hdesc hle hs' hd K hK
          obtain ⟨_, t16, rfl⟩ := hd 16 42 (by kernel_rfl)
          obtain ⟨_, t2, rfl⟩ := hd 2 28 (by kernel_rfl)
          unfold Go.Rel.stepOf
          go_simp
          exact hK _ _ (But.refl _ _) (hI) rfl
        · intro f a w' hI hf hanc hdesc hle hs' hd K hK
          obtain ⟨_, t17, rfl⟩ := hd 17 43 (by kernel_rfl)
          obtain ⟨_, t3, rfl⟩ := hd 3 29 (by kernel_rfl)
          unfold Go.Rel.stepOf
          go_simp
          exact hK _ _ (But.refl _ _) (hI) rfl
        · intro f a w' hI hf hanc hdesc hle hs' hd K hK
          obtain ⟨_, t18, rfl⟩ := hd 18 44 (by kernel_rfl)
          obtain ⟨_, t14, rfl⟩ := hd 14 40 (by kernel_rfl)
          have ha : f 14 = true := hanc 2 14 (by kernel_rfl)
          have hI2 := hI
          rw [hf, ha] at hI2
          obtain ⟨hc3, hf3, hb3, hI3⟩ := HSt.out w' hI2
          unfold Go.Rel.stepOf
          go_simp
          refine hK _ _ hb3 ?_ rfl
          show rowI S w3 B M g N m n q Ks ls (.slice (some ⟨b, 0, none⟩) ls.length cap) True (f 14) true _
          rw [ha]
          exact hI3
      case hend6 =>
        intro f a w5 hall hI hle hs' hR'
        have hz := hall 19 (by decide)
        obtain ⟨g', hW, hb0⟩ := hI.1 hz
        have hb := hBR.out _ hb0
        have HBut5 : Hid (Kept S w w5) := Lib.hid ((Kept.of_below (HBel.out.trans (HB3.out.mono HBel.out.size))).trans hb)
        have hX5 : w5.heap[w.heap.size]? = some (.cells #[.int .i64 id] 3 (0, 0)) := (hb0.block w.heap.size (block_lt HX3.out) (fun e => (HBnd.out _ e).2 rfl)).trans HX3.out
        have HB7 : Hid (∀ w', Below w5.heap.size w5 w' → w'.cell? ⟨B, 1, none⟩ = some (.map (some M))) := Lib.hid (fun w' hb => (hW.below hb).c1)
        have HX7 : Hid (∀ w', Below w5.heap.size w5 w' → w'.cell? ⟨w.heap.size, 0, none⟩ = some (.int .i64 id)) := Lib.hid (fun w' hb => by
          rw [hb.cell (p := ⟨w.heap.size, 0, none⟩) (block_lt hX5), cell_of_row _ _ _ _ _ _ hX5]
          rfl)
        have HDl : Hid (∀ w', Below w5.heap.size w5 w' → ∃ w2, (Builtin.delete_ #[140, 3] 0 #[.map (some M), .int .i64 id]).run Tryz.prog w' = .ok (.tuple #[]) w2 ∧ WhIs S w2 B M g' N (upM m id none) n (upQ q Ks ls) ∧ Kept S w' w2) := Lib.hid (fun w' hb => by
          have h5 := hW.below hb
          obtain ⟨w2, hr, hm2, hg2, _⟩ := h5.map.drop hid 0
          exact ⟨w2, hr, h5.mapTurn hg2 hm2⟩)
        clear hz hI hW hb hb0 hall hle hX5
        obtain ⟨v26, s26, _⟩ := hR' 0 26 (by kernel_rfl)
        obtain ⟨v27, s27, _⟩ := hR' 1 27 (by kernel_rfl)
        obtain ⟨v28, s28, _⟩ := hR' 2 28 (by kernel_rfl)
        obtain ⟨v29, s29, _⟩ := hR' 3 29 (by kernel_rfl)
        obtain ⟨v30, s30, _⟩ := hR' 4 30 (by kernel_rfl)
        obtain ⟨v31, s31, _⟩ := hR' 5 31 (by kernel_rfl)
        obtain ⟨v32, s32, _⟩ := hR' 6 32 (by kernel_rfl)
        obtain ⟨v33, s33, _⟩ := hR' 7 33 (by kernel_rfl)
        obtain ⟨v34, s34, _⟩ := hR' 8 34 (by kernel_rfl)
        obtain ⟨v35, s35, _⟩ := hR' 9 35 (by kernel_rfl)
        obtain ⟨v36, s36, _⟩ := hR' 10 36 (by kernel_rfl)
        obtain ⟨v37, s37, _⟩ := hR' 11 37 (by kernel_rfl)
        obtain ⟨v38, s38, _⟩ := hR' 12 38 (by kernel_rfl)
        obtain ⟨v39, s39, _⟩ := hR' 13 39 (by kernel_rfl)
        obtain ⟨v40, s40, _⟩ := hR' 14 40 (by kernel_rfl)
        obtain ⟨v41, s41, _⟩ := hR' 15 41 (by kernel_rfl)
        obtain ⟨v42, s42, _⟩ := hR' 16 42 (by kernel_rfl)
        obtain ⟨v43, s43, _⟩ := hR' 17 43 (by kernel_rfl)
        obtain ⟨v44, s44, _⟩ := hR' 18 44 (by kernel_rfl)
        have e := hs'.shape
        simp only [List.toList_toArray, List.foldl, Go.Rel.reset, Array.getD_eq_getD_getElem?, s26, s27, s28, s29, s30, s31, s32, s33, s34, s35, s36, s37, s38, s39, s40, s41, s42, s43, s44, Option.getD_some] at e
        simp at e
        clear hR' hs' s26 s27 s28 s29 s30 s31 s32 s33 s34 s35 s36 s37 s38 s39 s40 s41 s42 s43 s44
        subst e
        go_wp2
        refine Go.Rel.wp_region_states (by kernel_rfl) (by kernel_rfl) (by kernel_rfl) (by kernel_rfl) (fun f w => (f 5 = true → WhIs S w B M g' N (upM m id none) n (upQ q Ks ls) ∧ Kept S w5 w) ∧ (f 5 = false → Below w5.heap.size w5 w)) (But S) (fun _ _ _ h k => h.trans k) ((But.refl _ _).drew) ⟨(fun h => by cases h), fun _ => ⟨rfl, rfl, rfl, Nat.le_refl _, fun _ _ => rfl⟩⟩ (stopC S B M w.heap.size id) (stopC_stable S B M w.heap.size id) ?hsteps7 ?hend7
        case hsteps7 =>
          refine (.cons ?_ (.cons ?_ (.cons ?_ (.cons ?_ (.cons ?_ (.cons ?_ .nil))))))
          · intro f a w' hI hf hanc hdesc hle hs' hd K hK
            have f0 : a.tmps[0]? = some (.pointer (some ⟨B, 0, none⟩)) := hs'.2.2 0 (by kernel_rfl)
            unfold Go.Rel.stepOf
            go_simp
            exact hK _ _ (But.refl _ _) (hI) rfl
          · intro f a w' hI hf hanc hdesc hle hs' hd K hK
            obtain ⟨_, t0, rfl⟩ := hd 0 45 (by kernel_rfl)
            unfold Go.Rel.stepOf
            go_simp
            exact hK _ _ (But.refl _ _) (hI) rfl
          · intro f a w' hI hf hanc hdesc hle hs' hd K hK
            obtain ⟨_, t1, rfl⟩ := hd 1 46 (by kernel_rfl)
            unfold Go.Rel.stepOf
            go_simp
            exact hK _ _ (But.refl _ _) (hI) rfl
          · intro f a w' hI hf hanc hdesc hle hs' hd K hK
            obtain ⟨_, t2, rfl⟩ := hd 2 47 (by kernel_rfl)
            have hz : f 5 = false := hdesc 3 5 (by kernel_rfl)
            have cc := HB7.out w' (hI.2 hz)
            unfold Go.Rel.stepOf
            go_simp
            exact hK _ _ (But.refl _ _) (hI) rfl
          · intro f a w' hI hf hanc hdesc hle hs' hd K hK
            have f3 : a.tmps[3]? = some (.pointer (some ⟨w.heap.size, 0, none⟩)) := hs'.2.2 3 (by kernel_rfl)
            have hz : f 5 = false := hdesc 3 5 (by kernel_rfl)
            have cc := HX7.out w' (hI.2 hz)
            unfold Go.Rel.stepOf
            go_simp
            exact hK _ _ (But.refl _ _) (hI) rfl
          · intro f a w' hI hf hanc hdesc hle hs' hd K hK
            obtain ⟨_, t3, rfl⟩ := hd 3 48 (by kernel_rfl)
            obtain ⟨_, t4, rfl⟩ := hd 4 49 (by kernel_rfl)
            obtain ⟨w3, hr3, hW3, hb3⟩ := HDl.out w' (hI.2 hf)
            exact stepOf_delete (.tmp 48) (.tmp 49) 140 3 rfl rfl (by simp [Act.eval, t3]) (by simp [Act.eval, t4]) hr3 (hK _ _ hb3.1 ⟨fun _ => ⟨hW3, (Kept.of_below (hI.2 hf)).trans hb3⟩, (fun h => by cases h)⟩ trivial)
        case hend7 =>
          intro f a w6 hall hI hle hs' hR'
          have h6 := hI.1 (hall 5 (by decide))
          have H6 := Lib.hid h6
          clear hI hall hle h6
          obtain ⟨v45, s45, _⟩ := hR' 0 45 (by kernel_rfl)
          obtain ⟨v46, s46, _⟩ := hR' 1 46 (by kernel_rfl)
          obtain ⟨v47, s47, _⟩ := hR' 2 47 (by kernel_rfl)
          obtain ⟨v48, s48, _⟩ := hR' 3 48 (by kernel_rfl)
          obtain ⟨v49, s49, _⟩ := hR' 4 49 (by kernel_rfl)
          have e := hs'.shape
          simp only [List.toList_toArray, List.foldl, Go.Rel.reset, Array.getD_eq_getD_getElem?, s45, s46, s47, s48, s49, Option.getD_some] at e
          simp at e
          clear hR' hs' s45 s46 s47 s48 s49
          subst e
          go_wp2
          go_ret
          exact ⟨rfl, g', by rw [HLs.out]; exact H6.out.1, HBut5.out.trans H6.out.2⟩
    · clear hKs
      go_wp2
      refine Go.Rel.wp_region_states (by kernel_rfl) (by kernel_rfl) (by kernel_rfl) (by kernel_rfl) (fun f w => rowI S w3 B M g N m n q Ks ls (.slice (some ⟨b, 0, none⟩) ls.length cap) True (f 14) (f 19) w) (But (Olds S w3)) (fun _ _ _ h k => h.trans k) ((But.refl _ _).drew) rowI.start (stopB S B w.heap.size Y ((1 : Nat) : Int) j 66 (66 + j) u (.slice (some ⟨b, 0, none⟩) ls.length cap)) (stopB_stable S w3 B w.heap.size Y ((1 : Nat) : Int) j 66 (66 + j) u (.slice (some ⟨b, 0, none⟩) ls.length cap)) ?hsteps6 ?hend6
      case hsteps6 =>
        refine (.cons ?_ (.cons ?_ (.cons ?_ (.cons ?_ (.cons ?_ (.cons ?_ (.cons ?_ (.cons ?_ (.cons ?_ (.cons ?_ (.cons ?_ (.cons ?_ (.cons ?_ (.cons ?_ (.cons ?_ (.cons ?_ (.cons ?_ (.cons ?_ (.cons ?_ (.cons ?_ .nil))))))))))))))))))))
        · intro f a w' hI hf hanc hdesc hle hs' hd K hK
          have f0 : a.tmps[0]? = some (.pointer (some ⟨B, 0, none⟩)) := hs'.2.2 0 (by kernel_rfl)
          unfold Go.Rel.stepOf
          go_simp
          exact hK _ _ (But.refl _ _) (hI) rfl
        · intro f a w' hI hf hanc hdesc hle hs' hd K hK
          have f5 : a.tmps[5]? = some (.pointer (some ⟨Y, 0, none⟩)) := hs'.2.2 5 (by kernel_rfl)
          unfold Go.Rel.stepOf
          go_simp
          exact hK _ _ (But.refl _ _) (hI) rfl
        · intro f a w' hI hf hanc hdesc hle hs' hd K hK
          obtain ⟨_, t1, rfl⟩ := hd 1 27 (by kernel_rfl)
          have hz : f 19 = false := hdesc 6 19 (by kernel_rfl)
          have hI2 := hI
          rw [hz] at hI2
          have cc := HY.out _ w' hI2
          unfold Go.Rel.stepOf
          go_simp
          exact hK _ _ (But.refl _ _) (hI) rfl
        · intro f a w' hI hf hanc hdesc hle hs' hd K hK
          have f7 : a.tmps[7]? = some (.int .i64 (j : Int)) := hs'.2.2 7 (by kernel_rfl)
          unfold Go.Rel.stepOf
          go_simp
          exact hK _ _ (But.refl _ _) (hI) rfl
        · intro f a w' hI hf hanc hdesc hle hs' hd K hK
          have f0 : a.tmps[0]? = some (.pointer (some ⟨B, 0, none⟩)) := hs'.2.2 0 (by kernel_rfl)
          unfold Go.Rel.stepOf
          go_simp
          exact hK _ _ (But.refl _ _) (hI) rfl
        · intro f a w' hI hf hanc hdesc hle hs' hd K hK
          have f5 : a.tmps[5]? = some (.pointer (some ⟨Y, 0, none⟩)) := hs'.2.2 5 (by kernel_rfl)
          unfold Go.Rel.stepOf
          go_simp
          exact hK _ _ (But.refl _ _) (hI) rfl
        · intro f a w' hI hf hanc hdesc hle hs' hd K hK
          obtain ⟨_, t5, rfl⟩ := hd 5 31 (by kernel_rfl)
          have hz : f 19 = false := hdesc 6 19 (by kernel_rfl)
          have hI2 := hI
          rw [hz] at hI2
          have cc := HY.out _ w' hI2
          unfold Go.Rel.stepOf
          go_simp
          exact hK _ _ (But.refl _ _) (hI) rfl
        · intro f a w' hI hf hanc hdesc hle hs' hd K hK
          have f7 : a.tmps[7]? = some (.int .i64 (j : Int)) := hs'.2.2 7 (by kernel_rfl)
          unfold Go.Rel.stepOf
          go_simp
          exact hK _ _ (But.refl _ _) (hI) rfl
        · intro f a w' hI hf hanc hdesc hle hs' hd K hK
          obtain ⟨_, t4, rfl⟩ := hd 4 30 (by kernel_rfl)
          unfold Go.Rel.stepOf
          go_simp
          exact hK _ _ (But.refl _ _) (hI) rfl
        · intro f a w' hI hf hanc hdesc hle hs' hd K hK
          obtain ⟨_, t8, rfl⟩ := hd 8 34 (by kernel_rfl)
          unfold Go.Rel.stepOf
          go_simp
          exact hK _ _ (But.refl _ _) (hI) rfl
        · intro f a w' hI hf hanc hdesc hle hs' hd K hK
          obtain ⟨_, t9, rfl⟩ := hd 9 35 (by kernel_rfl)
          obtain ⟨_, t6, rfl⟩ := hd 6 32 (by kernel_rfl)
          unfold Go.Rel.stepOf
          go_simp
          exact hK _ _ (But.refl _ _) (hI) rfl
        · intro f a w' hI hf hanc hdesc hle hs' hd K hK
          obtain ⟨_, t10, rfl⟩ := hd 10 36 (by kernel_rfl)
          obtain ⟨_, t7, rfl⟩ := hd 7 33 (by kernel_rfl)
          unfold Go.Rel.stepOf
          go_simp
          exact hK _ _ (But.refl _ _) (hI) rfl
        · intro f a w' hI hf hanc hdesc hle hs' hd K hK
          obtain ⟨_, t11, rfl⟩ := hd 11 37 (by kernel_rfl)
          have hz : f 19 = false := hdesc 3 19 (by kernel_rfl)
          have hI2 := hI
          rw [hz] at hI2
          have cc := HC.out _ w' hI2
          unfold Go.Rel.stepOf
          go_simp
          exact hK _ _ (But.refl _ _) (hI) rfl
        · intro f a w' hI hf hanc hdesc hle hs' hd K hK
          have f3 : a.tmps[3]? = some (.pointer (some ⟨w.heap.size, 0, none⟩)) := hs'.2.2 3 (by kernel_rfl)
          unfold Go.Rel.stepOf
          go_simp
          exact hK _ _ (But.refl _ _) (hI) rfl
        · intro f a w' hI hf hanc hdesc hle hs' hd K hK
          obtain ⟨_, t12, rfl⟩ := hd 12 38 (by kernel_rfl)
          obtain ⟨_, t13, rfl⟩ := hd 13 39 (by kernel_rfl)
          have hz : f 19 = false := hdesc 3 19 (by kernel_rfl)
          have hI2 := hI
          rw [hz, hf] at hI2
          unfold Go.Rel.stepOf
          go_simp
          refine (HDel.out w' hI2).mono ?_
          rintro e w2 ⟨rfl, hI3, hb3⟩
          refine hK _ _ hb3 ?_ rfl
          show rowI S w3 B M g N m n q Ks ls (.slice (some ⟨b, 0, none⟩) ls.length cap) True true (f 19) _
          rw [hz]
          exact hI3
        · intro f a w' hI hf hanc hdesc hle hs' hd K hK
          obtain ⟨_, t0, rfl⟩ := hd 0 26 (by kernel_rfl)
          unfold Go.Rel.stepOf
          go_simp
          exact hK _ _ (But.refl _ _) (hI) rfl
        · intro f a w' hI hf hanc hdesc hle hs' hd K hK
          obtain ⟨_, t15, rfl⟩ := hd 15 41 (by kernel_rfl)
          unfold Go.Rel.stepOf
          go_simp
          exact hK _ _ (But.refl _ _) (hI) rfl
        · intro f a w' hI hf hanc hdesc hle hs' hd K hK
          obtain ⟨_, t16, rfl⟩ := hd 16 42 (by kernel_rfl)
          obtain ⟨_, t2, rfl⟩ := hd 2 28 (by kernel_rfl)
          unfold Go.Rel.stepOf
          go_simp
          exact hK _ _ (But.refl _ _) (hI) rfl
        · intro f a w' hI hf hanc hdesc hle hs' hd K hK
          obtain ⟨_, t17, rfl⟩ := hd 17 43 (by kernel_rfl)
          obtain ⟨_, t3, rfl⟩ := hd 3 29 (by kernel_rfl)
          unfold Go.Rel.stepOf
          go_simp
          exact hK _ _ (But.refl _ _) (hI) rfl
        · intro f a w' hI hf hanc hdesc hle hs' hd K hK
          obtain ⟨_, t18, rfl⟩ := hd 18 44 (by kernel_rfl)
          obtain ⟨_, t14, rfl⟩ := hd 14 40 (by kernel_rfl)
          have ha : f 14 = true := hanc 2 14 (by kernel_rfl)
          have hI2 := hI
          rw [hf, ha] at hI2
          obtain ⟨hc3, hf3, hb3, hI3⟩ := HSt.out w' hI2
          unfold Go.Rel.stepOf
          go_simp
          refine hK _ _ hb3 ?_ rfl
          show rowI S w3 B M g N m n q Ks ls (.slice (some ⟨b, 0, none⟩) ls.length cap) True (f 14) true _
          rw [ha]
          exact hI3
      case hend6 =>
        intro f a w5 hall hI hle hs' hR'
        have hz := hall 19 (by decide)
        obtain ⟨g', hW, hb0⟩ := hI.1 hz
        have hb := hBR.out _ hb0
        have HBut5 : Hid (Kept S w w5) := Lib.hid ((Kept.of_below (HBel.out.trans (HB3.out.mono HBel.out.size))).trans hb)
        have hX5 : w5.heap[w.heap.size]? = some (.cells #[.int .i64 id] 3 (0, 0)) := (hb0.block w.heap.size (block_lt HX3.out) (fun e => (HBnd.out _ e).2 rfl)).trans HX3.out
        have HB7 : Hid (∀ w', Below w5.heap.size w5 w' → w'.cell? ⟨B, 1, none⟩ = some (.map (some M))) := Lib.hid (fun w' hb => (hW.below hb).c1)
        have HX7 : Hid (∀ w', Below w5.heap.size w5 w' → w'.cell? ⟨w.heap.size, 0, none⟩ = some (.int .i64 id)) := Lib.hid (fun w' hb => by
          rw [hb.cell (p := ⟨w.heap.size, 0, none⟩) (block_lt hX5), cell_of_row _ _ _ _ _ _ hX5]
          rfl)
        have HDl : Hid (∀ w', Below w5.heap.size w5 w' → ∃ w2, (Builtin.delete_ #[140, 3] 0 #[.map (some M), .int .i64 id]).run Tryz.prog w' = .ok (.tuple #[]) w2 ∧ WhIs S w2 B M g' N (upM m id none) n (upQ q Ks ls) ∧ Kept S w' w2) := Lib.hid (fun w' hb => by
          have h5 := hW.below hb
          obtain ⟨w2, hr, hm2, hg2, _⟩ := h5.map.drop hid 0
          exact ⟨w2, hr, h5.mapTurn hg2 hm2⟩)
        clear hz hI hW hb hb0 hall hle hX5
        obtain ⟨v26, s26, _⟩ := hR' 0 26 (by kernel_rfl)
        obtain ⟨v27, s27, _⟩ := hR' 1 27 (by kernel_rfl)
        obtain ⟨v28, s28, _⟩ := hR' 2 28 (by kernel_rfl)
        obtain ⟨v29, s29, _⟩ := hR' 3 29 (by kernel_rfl)
        obtain ⟨v30, s30, _⟩ := hR' 4 30 (by kernel_rfl)
        obtain ⟨v31, s31, _⟩ := hR' 5 31 (by kernel_rfl)
        obtain ⟨v32, s32, _⟩ := hR' 6 32 (by kernel_rfl)
        obtain ⟨v33, s33, _⟩ := hR' 7 33 (by kernel_rfl)
        obtain ⟨v34, s34, _⟩ := hR' 8 34 (by kernel_rfl)
        obtain ⟨v35, s35, _⟩ := hR' 9 35 (by kernel_rfl)
        obtain ⟨v36, s36, _⟩ := hR' 10 36 (by kernel_rfl)
        obtain ⟨v37, s37, _⟩ := hR' 11 37 (by kernel_rfl)
        obtain ⟨v38, s38, _⟩ := hR' 12 38 (by kernel_rfl)
        obtain ⟨v39, s39, _⟩ := hR' 13 39 (by kernel_rfl)
        obtain ⟨v40, s40, _⟩ := hR' 14 40 (by kernel_rfl)
        obtain ⟨v41, s41, _⟩ := hR' 15 41 (by kernel_rfl)
        obtain ⟨v42, s42, _⟩ := hR' 16 42 (by kernel_rfl)
        obtain ⟨v43, s43, _⟩ := hR' 17 43 (by kernel_rfl)
        obtain ⟨v44, s44, _⟩ := hR' 18 44 (by kernel_rfl)
        have e := hs'.shape
        simp only [List.toList_toArray, List.foldl, Go.Rel.reset, Array.getD_eq_getD_getElem?, s26, s27, s28, s29, s30, s31, s32, s33, s34, s35, s36, s37, s38, s39, s40, s41, s42, s43, s44, Option.getD_some] at e
        simp at e
        clear hR' hs' s26 s27 s28 s29 s30 s31 s32 s33 s34 s35 s36 s37 s38 s39 s40 s41 s42 s43 s44
        subst e
        go_wp2
        refine Go.Rel.wp_region_states (by kernel_rfl) (by kernel_rfl) (by kernel_rfl) (by kernel_rfl) (fun f w => (f 5 = true → WhIs S w B M g' N (upM m id none) n (upQ q Ks ls) ∧ Kept S w5 w) ∧ (f 5 = false → Below w5.heap.size w5 w)) (But S) (fun _ _ _ h k => h.trans k) ((But.refl _ _).drew) ⟨(fun h => by cases h), fun _ => ⟨rfl, rfl, rfl, Nat.le_refl _, fun _ _ => rfl⟩⟩ (stopC S B M w.heap.size id) (stopC_stable S B M w.heap.size id) ?hsteps7 ?hend7
        case hsteps7 =>
          refine (.cons ?_ (.cons ?_ (.cons ?_ (.cons ?_ (.cons ?_ (.cons ?_ .nil))))))
          · intro f a w' hI hf hanc hdesc hle hs' hd K hK
            have f0 : a.tmps[0]? = some (.pointer (some ⟨B, 0, none⟩)) := hs'.2.2 0 (by kernel_rfl)
            unfold Go.Rel.stepOf
            go_simp
            exact hK _ _ (But.refl _ _) (hI) rfl
          · intro f a w' hI hf hanc hdesc hle hs' hd K hK
            obtain ⟨_, t0, rfl⟩ := hd 0 45 (by kernel_rfl)
            unfold Go.Rel.stepOf
            go_simp
            exact hK _ _ (But.refl _ _) (hI) rfl
          · intro f a w' hI hf hanc hdesc hle hs' hd K hK
            obtain ⟨_, t1, rfl⟩ := hd 1 46 (by kernel_rfl)
            unfold Go.Rel.stepOf
            go_simp
            exact hK _ _ (But.refl _ _) (hI) rfl
          · intro f a w' hI hf hanc hdesc hle hs' hd K hK
            obtain ⟨_, t2, rfl⟩ := hd 2 47 (by kernel_rfl)
            have hz : f 5 = false := hdesc 3 5 (by kernel_rfl)
            have cc := HB7.out w' (hI.2 hz)
            unfold Go.Rel.stepOf
            go_simp
            exact hK _ _ (But.refl _ _) (hI) rfl
          · intro f a w' hI hf hanc hdesc hle hs' hd K hK
            have f3 : a.tmps[3]? = some (.pointer (some ⟨w.heap.size, 0, none⟩)) := hs'.2.2 3 (by kernel_rfl)
            have hz : f 5 = false := hdesc 3 5 (by kernel_rfl)
            have cc := HX7.out w' (hI.2 hz)
            unfold Go.Rel.stepOf
            go_simp
            exact hK _ _ (But.refl _ _) (hI) rfl
          · intro f a w' hI hf hanc hdesc hle hs' hd K hK
            obtain ⟨_, t3, rfl⟩ := hd 3 48 (by kernel_rfl)
            obtain ⟨_, t4, rfl⟩ := hd 4 49 (by kernel_rfl)
            obtain ⟨w3, hr3, hW3, hb3⟩ := HDl.out w' (hI.2 hf)
            exact stepOf_delete (.tmp 48) (.tmp 49) 140 3 rfl rfl (by simp [Act.eval, t3]) (by simp [Act.eval, t4]) hr3 (hK _ _ hb3.1 ⟨fun _ => ⟨hW3, (Kept.of_below (hI.2 hf)).trans hb3⟩, (fun h => by cases h)⟩ trivial)
        case hend7 =>
          intro f a w6 hall hI hle hs' hR'
          have h6 := hI.1 (hall 5 (by decide))
          have H6 := Lib.hid h6
          clear hI hall hle h6
          obtain ⟨v45, s45, _⟩ := hR' 0 45 (by kernel_rfl)
          obtain ⟨v46, s46, _⟩ := hR' 1 46 (by kernel_rfl)
          obtain ⟨v47, s47, _⟩ := hR' 2 47 (by kernel_rfl)
          obtain ⟨v48, s48, _⟩ := hR' 3 48 (by kernel_rfl)
          obtain ⟨v49, s49, _⟩ := hR' 4 49 (by kernel_rfl)
          have e := hs'.shape
          simp only [List.toList_toArray, List.foldl, Go.Rel.reset, Array.getD_eq_getD_getElem?, s45, s46, s47, s48, s49, Option.getD_some] at e
          simp at e
          clear hR' hs' s45 s46 s47 s48 s49
          subst e
          go_wp2
          go_ret
          exact ⟨rfl, g', by rw [HLs.out]; exact H6.out.1, HBut5.out.trans H6.out.2⟩
    · clear hKs
      go_wp2
      refine Go.Rel.wp_region_states (by kernel_rfl) (by kernel_rfl) (by kernel_rfl) (by kernel_rfl) (fun f w => rowI S w3 B M g N m n q Ks ls (.slice (some ⟨b, 0, none⟩) ls.length cap) True (f 14) (f 19) w) (But (Olds S w3)) (fun _ _ _ h k => h.trans k) ((But.refl _ _).drew) rowI.start (stopB S B w.heap.size Y ((2 : Nat) : Int) j 130 (130 + j) u (.slice (some ⟨b, 0, none⟩) ls.length cap)) (stopB_stable S w3 B w.heap.size Y ((2 : Nat) : Int) j 130 (130 + j) u (.slice (some ⟨b, 0, none⟩) ls.length cap)) ?hsteps6 ?hend6
      case hsteps6 =>
        refine (.cons ?_ (.cons ?_ (.cons ?_ (.cons ?_ (.cons ?_ (.cons ?_ (.cons ?_ (.cons ?_ (.cons ?_ (.cons ?_ (.cons ?_ (.cons ?_ (.cons ?_ (.cons ?_ (.cons ?_ (.cons ?_ (.cons ?_ (.cons ?_ (.cons ?_ (.cons ?_ .nil))))))))))))))))))))
        · intro f a w' hI hf hanc hdesc hle hs' hd K hK
          have f0 : a.tmps[0]? = some (.pointer (some ⟨B, 0, none⟩)) := hs'.2.2 0 (by kernel_rfl)
          unfold Go.Rel.stepOf
          go_simp
          exact hK _ _ (But.refl _ _) (hI) rfl
        · intro f a w' hI hf hanc hdesc hle hs' hd K hK
          have f5 : a.tmps[5]? = some (.pointer (some ⟨Y, 0, none⟩)) := hs'.2.2 5 (by kernel_rfl)
          unfold Go.Rel.stepOf
          go_simp
          exact hK _ _ (But.refl _ _) (hI) rfl
        · intro f a w' hI hf hanc hdesc hle hs' hd K hK
          obtain ⟨_, t1, rfl⟩ := hd 1 27 (by kernel_rfl)
          have hz : f 19 = false := hdesc 6 19 (by kernel_rfl)
          have hI2 := hI
          rw [hz] at hI2
          have cc := HY.out _ w' hI2
          unfold Go.Rel.stepOf
          go_simp
          exact hK _ _ (But.refl _ _) (hI) rfl
        · intro f a w' hI hf hanc hdesc hle hs' hd K hK
          have f7 : a.tmps[7]? = some (.int .i64 (j : Int)) := hs'.2.2 7 (by kernel_rfl)
          unfold Go.Rel.stepOf
          go_simp
          exact hK _ _ (But.refl _ _) (hI) rfl
        · intro f a w' hI hf hanc hdesc hle hs' hd K hK
          have f0 : a.tmps[0]? = some (.pointer (some ⟨B, 0, none⟩)) := hs'.2.2 0 (by kernel_rfl)
          unfold Go.Rel.stepOf
          go_simp
          exact hK _ _ (But.refl _ _) (hI) rfl
        · intro f a w' hI hf hanc hdesc hle hs' hd K hK
          have f5 : a.tmps[5]? = some (.pointer (some ⟨Y, 0, none⟩)) := hs'.2.2 5 (by kernel_rfl)
          unfold Go.Rel.stepOf
          go_simp
          exact hK _ _ (But.refl _ _) (hI) rfl
        · intro f a w' hI hf hanc hdesc hle hs' hd K hK
          obtain ⟨_, t5, rfl⟩ := hd 5 31 (by kernel_rfl)
          have hz : f 19 = false := hdesc 6 19 (by kernel_rfl)
          have hI2 := hI
          rw [hz] at hI2
          have cc := HY.out _ w' hI2
          unfold Go.Rel.stepOf
          go_simp
          exact hK _ _ (But.refl _ _) (hI) rfl
        · intro f a w' hI hf hanc hdesc hle hs' hd K hK
          have f7 : a.tmps[7]? = some (.int .i64 (j : Int)) := hs'.2.2 7 (by kernel_rfl)
          unfold Go.Rel.stepOf
          go_simp
          exact hK _ _ (But.refl _ _) (hI) rfl
        · intro f a w' hI hf hanc hdesc hle hs' hd K hK
          obtain ⟨_, t4, rfl⟩ := hd 4 30 (by kernel_rfl)
          unfold Go.Rel.stepOf
          go_simp
          exact hK _ _ (But.refl _ _) (hI) rfl
        · intro f a w' hI hf hanc hdesc hle hs' hd K hK
          obtain ⟨_, t8, rfl⟩ := hd 8 34 (by kernel_rfl)
          unfold Go.Rel.stepOf
          go_simp
          exact hK _ _ (But.refl _ _) (hI) rfl
        · intro f a w' hI hf hanc hdesc hle hs' hd K hK
          obtain ⟨_, t9, rfl⟩ := hd 9 35 (by kernel_rfl)
          obtain ⟨_, t6, rfl⟩ := hd 6 32 (by kernel_rfl)
          unfold Go.Rel.stepOf
          go_simp
          exact hK _ _ (But.refl _ _) (hI) rfl
        · intro f a w' hI hf hanc hdesc hle hs' hd K hK
          obtain ⟨_, t10, rfl⟩ := hd 10 36 (by kernel_rfl)
          obtain ⟨_, t7, rfl⟩ := hd 7 33 (by kernel_rfl)
          unfold Go.Rel.stepOf
          go_simp
          exact hK _ _ (But.refl _ _) (hI) rfl
        · intro f a w' hI hf hanc hdesc hle hs' hd K hK
          obtain ⟨_, t11, rfl⟩ := hd 11 37 (by kernel_rfl)
          have hz : f 19 = false := hdesc 3 19 (by kernel_rfl)
          have hI2 := hI
          rw [hz] at hI2
          have cc := HC.out _ w' hI2
          unfold Go.Rel.stepOf
          go_simp
          exact hK _ _ (But.refl _ _) (hI) rfl
        · intro f a w' hI hf hanc hdesc hle hs' hd K hK
          have f3 : a.tmps[3]? = some (.pointer (some ⟨w.heap.size, 0, none⟩)) := hs'.2.2 3 (by kernel_rfl)
          unfold Go.Rel.stepOf
          go_simp
          exact hK _ _ (But.refl _ _) (hI) rfl
        · intro f a w' hI hf hanc hdesc hle hs' hd K hK
          obtain ⟨_, t12, rfl⟩ := hd 12 38 (by kernel_rfl)
          obtain ⟨_, t13, rfl⟩ := hd 13 39 (by kernel_rfl)
          have hz : f 19 = false := hdesc 3 19 (by kernel_rfl)
          have hI2 := hI
          rw [hz, hf] at hI2
          unfold Go.Rel.stepOf
          go_simp
          refine (HDel.out w' hI2).mono ?_
          rintro e w2 ⟨rfl, hI3, hb3⟩
          refine hK _ _ hb3 ?_ rfl
          show rowI S w3 B M g N m n q Ks ls (.slice (some ⟨b, 0, none⟩) ls.length cap) True true (f 19) _
          rw [hz]
          exact hI3
        · intro f a w' hI hf hanc hdesc hle hs' hd K hK
          obtain ⟨_, t0, rfl⟩ := hd 0 26 (by kernel_rfl)
          unfold Go.Rel.stepOf
          go_simp
          exact hK _ _ (But.refl _ _) (hI) rfl
        · intro f a w' hI hf hanc hdesc hle hs' hd K hK
          obtain ⟨_, t15, rfl⟩ := hd 15 41 (by kernel_rfl)
          unfold Go.Rel.stepOf
          go_simp
          exact hK _ _ (But.refl _ _) (hI) rfl
        · intro f a w' hI hf hanc hdesc hle hs' hd K hK
          obtain ⟨_, t16, rfl⟩ := hd 16 42 (by kernel_rfl)
          obtain ⟨_, t2, rfl⟩ := hd 2 28 (by kernel_rfl)
          unfold Go.Rel.stepOf
          go_simp
          exact hK _ _ (But.refl _ _) (hI) rfl
        · intro f a w' hI hf hanc hdesc hle hs' hd K hK
          obtain ⟨_, t17, rfl⟩ := hd 17 43 (by kernel_rfl)
          obtain ⟨_, t3, rfl⟩ := hd 3 29 (by kernel_rfl)
          unfold Go.Rel.stepOf
          go_simp
          exact hK _ _ (But.refl _ _) (hI) rfl
        · intro f a w' hI hf hanc hdesc hle hs' hd K hK
          obtain ⟨_, t18, rfl⟩ := hd 18 44 (by kernel_rfl)
          obtain ⟨_, t14, rfl⟩ := hd 14 40 (by kernel_rfl)
          have ha : f 14 = true := hanc 2 14 (by kernel_rfl)
          have hI2 := hI
          rw [hf, ha] at hI2
          obtain ⟨hc3, hf3, hb3, hI3⟩ := HSt.out w' hI2
          unfold Go.Rel.stepOf
          go_simp
          refine hK _ _ hb3 ?_ rfl
          show rowI S w3 B M g N m n q Ks ls (.slice (some ⟨b, 0, none⟩) ls.length cap) True (f 14) true _
          rw [ha]
          exact hI3
      case hend6 =>
        intro f a w5 hall hI hle hs' hR'
        have hz := hall 19 (by decide)
        obtain ⟨g', hW, hb0⟩ := hI.1 hz
        have hb := hBR.out _ hb0
        have HBut5 : Hid (Kept S w w5) := Lib.hid ((Kept.of_below (HBel.out.trans (HB3.out.mono HBel.out.size))).trans hb)
        have hX5 : w5.heap[w.heap.size]? = some (.cells #[.int .i64 id] 3 (0, 0)) := (hb0.block w.heap.size (block_lt HX3.out) (fun e => (HBnd.out _ e).2 rfl)).trans HX3.out
        have HB7 : Hid (∀ w', Below w5.heap.size w5 w' → w'.cell? ⟨B, 1, none⟩ = some (.map (some M))) := Lib.hid (fun w' hb => (hW.below hb).c1)
        have HX7 : Hid (∀ w', Below w5.heap.size w5 w' → w'.cell? ⟨w.heap.size, 0, none⟩ = some (.int .i64 id)) := Lib.hid (fun w' hb => by
          rw [hb.cell (p := ⟨w.heap.size, 0, none⟩) (block_lt hX5), cell_of_row _ _ _ _ _ _ hX5]
          rfl)
        have HDl : Hid (∀ w', Below w5.heap.size w5 w' → ∃ w2, (Builtin.delete_ #[140, 3] 0 #[.map (some M), .int .i64 id]).run Tryz.prog w' = .ok (.tuple #[]) w2 ∧ WhIs S w2 B M g' N (upM m id none) n (upQ q Ks ls) ∧ Kept S w' w2) := Lib.hid (fun w' hb => by
          have h5 := hW.below hb
          obtain ⟨w2, hr, hm2, hg2, _⟩ := h5.map.drop hid 0
          exact ⟨w2, hr, h5.mapTurn hg2 hm2⟩)
        clear hz hI hW hb hb0 hall hle hX5
        obtain ⟨v26, s26, _⟩ := hR' 0 26 (by kernel_rfl)
        obtain ⟨v27, s27, _⟩ := hR' 1 27 (by kernel_rfl)
        obtain ⟨v28, s28, _⟩ := hR' 2 28 (by kernel_rfl)
        obtain ⟨v29, s29, _⟩ := hR' 3 29 (by kernel_rfl)
        obtain ⟨v30, s30, _⟩ := hR' 4 30 (by kernel_rfl)
        obtain ⟨v31, s31, _⟩ := hR' 5 31 (by kernel_rfl)
        obtain ⟨v32, s32, _⟩ := hR' 6 32 (by kernel_rfl)
        obtain ⟨v33, s33, _⟩ := hR' 7 33 (by kernel_rfl)
        obtain ⟨v34, s34, _⟩ := hR' 8 34 (by kernel_rfl)
        obtain ⟨v35, s35, _⟩ := hR' 9 35 (by kernel_rfl)
        obtain ⟨v36, s36, _⟩ := hR' 10 36 (by kernel_rfl)
        obtain ⟨v37, s37, _⟩ := hR' 11 37 (by kernel_rfl)
        obtain ⟨v38, s38, _⟩ := hR' 12 38 (by kernel_rfl)
        obtain ⟨v39, s39, _⟩ := hR' 13 39 (by kernel_rfl)
        obtain ⟨v40, s40, _⟩ := hR' 14 40 (by kernel_rfl)
        obtain ⟨v41, s41, _⟩ := hR' 15 41 (by kernel_rfl)
        obtain ⟨v42, s42, _⟩ := hR' 16 42 (by kernel_rfl)
        obtain ⟨v43, s43, _⟩ := hR' 17 43 (by kernel_rfl)
        obtain ⟨v44, s44, _⟩ := hR' 18 44 (by kernel_rfl)
        have e := hs'.shape
        simp only [List.toList_toArray, List.foldl, Go.Rel.reset, Array.getD_eq_getD_getElem?, s26, s27, s28, s29, s30, s31, s32, s33, s34, s35, s36, s37, s38, s39, s40, s41, s42, s43, s44, Option.getD_some] at e
        simp at e
        clear hR' hs' s26 s27 s28 s29 s30 s31 s32 s33 s34 s35 s36 s37 s38 s39 s40 s41 s42 s43 s44
        subst e
        go_wp2
        refine Go.Rel.wp_region_states (by kernel_rfl) (by kernel_rfl) (by kernel_rfl) (by kernel_rfl) (fun f w => (f 5 = true → WhIs S w B M g' N (upM m id none) n (upQ q Ks ls) ∧ Kept S w5 w) ∧ (f 5 = false → Below w5.heap.size w5 w)) (But S) (fun _ _ _ h k => h.trans k) ((But.refl _ _).drew) ⟨(fun h => by cases h), fun _ => ⟨rfl, rfl, rfl, Nat.le_refl _, fun _ _ => rfl⟩⟩ (stopC S B M w.heap.size id) (stopC_stable S B M w.heap.size id) ?hsteps7 ?hend7
        case hsteps7 =>
          refine (.cons ?_ (.cons ?_ (.cons ?_ (.cons ?_ (.cons ?_ (.cons ?_ .nil))))))
          · intro f a w' hI hf hanc hdesc hle hs' hd K hK
            have f0 : a.tmps[0]? = some (.pointer (some ⟨B, 0, none⟩)) := hs'.2.2 0 (by kernel_rfl)
            unfold Go.Rel.stepOf
            go_simp
            exact hK _ _ (But.refl _ _) (hI) rfl
          · intro f a w' hI hf hanc hdesc hle hs' hd K hK
            obtain ⟨_, t0, rfl⟩ := hd 0 45 (by kernel_rfl)
            unfold Go.Rel.stepOf
            go_simp
            exact hK _ _ (But.refl _ _) (hI) rfl
          · intro f a w' hI hf hanc hdesc hle hs' hd K hK
            obtain ⟨_, t1, rfl⟩ := hd 1 46 (by kernel_rfl)
            unfold Go.Rel.stepOf
            go_simp
            exact hK _ _ (But.refl _ _) (hI) rfl
          · intro f a w' hI hf hanc hdesc hle hs' hd K hK
            obtain ⟨_, t2, rfl⟩ := hd 2 47 (by kernel_rfl)
            have hz : f 5 = false := hdesc 3 5 (by kernel_rfl)
            have cc := HB7.out w' (hI.2 hz)
            unfold Go.Rel.stepOf
            go_simp
            exact hK _ _ (But.refl _ _) (hI) rfl
          · intro f a w' hI hf hanc hdesc hle hs' hd K hK
            have f3 : a.tmps[3]? = some (.pointer (some ⟨w.heap.size, 0, none⟩)) := hs'.2.2 3 (by kernel_rfl)
            have hz : f 5 = false := hdesc 3 5 (by kernel_rfl)
            have cc := HX7.out w' (hI.2 hz)
            unfold Go.Rel.stepOf
            go_simp
            exact hK _ _ (But.refl _ _) (hI) rfl
          · intro f a w' hI hf hanc hdesc hle hs' hd K hK
            obtain ⟨_, t3, rfl⟩ := hd 3 48 (by kernel_rfl)
            obtain ⟨_, t4, rfl⟩ := hd 4 49 (by kernel_rfl)
            obtain ⟨w3, hr3, hW3, hb3⟩ := HDl.out w' (hI.2 hf)
            exact stepOf_delete (.tmp 48) (.tmp 49) 140 3 rfl rfl (by simp [Act.eval, t3]) (by simp [Act.eval, t4]) hr3 (hK _ _ hb3.1 ⟨fun _ => ⟨hW3, (Kept.of_below (hI.2 hf)).trans hb3⟩, (fun h => by cases h)⟩ trivial)
        case hend7 =>
          intro f a w6 hall hI hle hs' hR'
          have h6 := hI.1 (hall 5 (by decide))
          have H6 := Lib.hid h6
          clear hI hall hle h6
          obtain ⟨v45, s45, _⟩ := hR' 0 45 (by kernel_rfl)
          obtain ⟨v46, s46, _⟩ := hR' 1 46 (by kernel_rfl)
          obtain ⟨v47, s47, _⟩ := hR' 2 47 (by kernel_rfl)
          obtain ⟨v48, s48, _⟩ := hR' 3 48 (by kernel_rfl)
          obtain ⟨v49, s49, _⟩ := hR' 4 49 (by kernel_rfl)
          have e := hs'.shape
          simp only [List.toList_toArray, List.foldl, Go.Rel.reset, Array.getD_eq_getD_getElem?, s45, s46, s47, s48, s49, Option.getD_some] at e
          simp at e
          clear hR' hs' s45 s46 s47 s48 s49
          subst e
          go_wp2
          go_ret
          exact ⟨rfl, g', by rw [HLs.out]; exact H6.out.1, HBut5.out.trans H6.out.2⟩
end Go.Proofs.YtaicipldjmngaaaGreatDoor.wh

namespace Go.Proofs.YtaicipldjmngaaaGreatDoor.wh
open Go.RowKit
set_option linter.unusedSimpArgs false
set_option linter.unusedVariables false
def putR (S : Nat → Prop) (w0 : World) (B : Nat) (lv : Int) (j : Nat) (A1 : Nat) (O : Nat) (id : Int) (u : Value) (v1 : Value) (l : List Int) (room : Prop) : Nat → Value → World → Prop
  | 0, v, _ => v = .pointer (some ⟨B, 0, none⟩)
  | 1, v, _ => v = .int .i64 lv
  | 2, v, _ => v = .int .i64 (j : Int)
  | 3, v, _ => v = .pointer (some ⟨B, 0, none⟩)
  | 4, v, _ => v = .int .i64 lv
  | 5, v, _ => v = .int .i64 (j : Int)
  | 6, v, _ => v = .pointer (some ⟨B, 0, none⟩)
  | 7, v, _ => v = .pointer (some ⟨B, 2, none⟩)
  | 8, v, _ => v = .pointer (some ⟨B, A1, none⟩)
  | 9, v, _ => v = .pointer (some ⟨B, O, none⟩)
  | 10, v, _ => v = u
  | 11, v, _ => v = .int .i64 id
  | 12, v, w => ∃ X, v = .slice (some ⟨X, 0, none⟩) 1 1 ∧ w0.heap.size ≤ X ∧ X < w.heap.size ∧ w.cell? ⟨X, 0, none⟩ = some (.int .i64 id)
  | 13, v, w => rowR room v1 l w0 v w
  | 14, v, _ => v = .pointer (some ⟨B, 0, none⟩)
  | 15, v, _ => v = .pointer (some ⟨B, 2, none⟩)
  | 16, v, _ => v = .pointer (some ⟨B, A1, none⟩)
  | 17, v, _ => v = .pointer (some ⟨B, O, none⟩)
  | 18, v, _ => v = undef
  | _, _, _ => True
theorem putR_stable (S : Nat → Prop) (w0 : World) (B : Nat) (lv : Int) (j : Nat) (A1 : Nat) (O : Nat) (id : Int) (u : Value) (v1 : Value) (l : List Int) (room : Prop) : ∀ i v w w', putR S w0 B lv j A1 O id u v1 l room i v w → But (Olds S w0) w w' → putR S w0 B lv j A1 O id u v1 l room i v w'
  | 0, _, _, _, h, _ | 1, _, _, _, h, _ | 2, _, _, _, h, _ | 3, _, _, _, h, _ | 4, _, _, _, h, _ | 5, _, _, _, h, _ | 6, _, _, _, h, _ | 7, _, _, _, h, _ | 8, _, _, _, h, _ | 9, _, _, _, h, _ | 10, _, _, _, h, _ | 11, _, _, _, h, _ | 14, _, _, _, h, _ | 15, _, _, _, h, _ | 16, _, _, _, h, _ | 17, _, _, _, h, _ | 18, _, _, _, h, _ => h
  | 12, _, _, _, h, g => by obtain ⟨X, e, h0, h1, h2⟩ := h; exact ⟨X, e, h0, Nat.lt_of_lt_of_le h1 g.size, (g.cell (p := ⟨X, 0, none⟩) h1 (fun hs => absurd hs.2 (Nat.not_lt.2 h0))).trans h2⟩
  | 13, _, _, _, h, g => rowR_stable h g
  | _ + 19, _, _, _, h, _ => h
theorem lvl_cases {D l : Nat} (h : lvl D = l) : (l = 0 ∧ D < 64) ∨ (l = 1 ∧ 64 ≤ D ∧ D < 4096) ∨ (l = 2 ∧ 4096 ≤ D) := by
  unfold lvl at h
  split at h
  · exact .inl ⟨h.symm, by omega⟩
  · split at h
    · exact .inr (.inl ⟨h.symm, by omega, by omega⟩)
    · exact .inr (.inr ⟨h.symm, by omega⟩)
set_option maxHeartbeats 8000000 in
set_option maxRecDepth 100000 in
theorem put_any {S : Nat → Prop} {B M N n : Nat} {g : Nat → Value} {m : Mp} {q : Nat → List Int} (w0 : World) (h : WhIs S w0 B M g N m n q) (hcl : ∀ k, w0.heap.size ≤ k → S k) (id : Int) (hid : wfI id) (d lz : Nat) (h1 : N ≤ d) (h2 : d ≤ N + 262144) (hN : N ≤ 1099511627776) (hlz : lvl (d - N) = lz)
    (hq : (q (slotOf lz d)).length ≤ 4096) (hn : n ≤ 4294967296) :
    Calls Tryz.prog 74 #[.pointer (some ⟨B, 0, none⟩), .int .i64 id, .int .i64 (d : Int)] w0 fun e w' => e = .returned (.tuple #[]) ∧
      ∃ g', WhIs S w' B M g' N (upM m id (some (d, lz))) (n + 1) (upQ q (slotOf lz d) (q (slotOf lz d) ++ [id])) ∧ Kept S w0 w' := by
  have hl3 : lz < 3 := by rw [← hlz]; exact lvl_lt _
  have hk := slotOf_lt hl3 d
  have hp := place_of (t := d) hl3
  have HSl := Lib.hid (fun w => slot_any d lz w hl3 (by omega))
  obtain ⟨Ks, hK⟩ : ∃ Ks, slotOf lz d = Ks := ⟨_, rfl⟩
  rw [hK] at hk hp hq ⊢
  obtain ⟨j, hj⟩ : ∃ j, blkOf lz d % 64 = j := ⟨_, rfl⟩
  have hj64 : j < 64 := by omega
  have q3 : (j : Int) < 64 := by omega
  rw [hj] at HSl hp
  obtain ⟨O, hO⟩ : ∃ O, 2 + Ks = O := ⟨_, rfl⟩
  rw [hO] at hp
  have hrow := h.rows.own Ks hk
  obtain ⟨room, v1, hr1, hr2⟩ := row_room hrow
  obtain ⟨u, hu⟩ : ∃ u, g Ks = u := ⟨_, rfl⟩
  obtain ⟨l, hl⟩ : ∃ l, q Ks ++ [id] = l := ⟨_, rfl⟩
  have hll : l.length = (q Ks).length + 1 := by rw [← hl]; simp
  have HC : Hid (∀ a w, rowI S w0 B M g N m n q Ks l v1 room a false w → w.cell? ⟨B, O, none⟩ = some u) := Lib.hid (fun a w hI => by
    rw [← hO, ← hu]; exact (rowI.cell h hk hI _).1.trans (h.c2 hk))
  have HApp : Hid (∀ w, rowI S w0 B M g N m n q Ks l v1 room false false w → ∀ X, w.cell? ⟨X, 0, none⟩ = some (.int .i64 id) → ∃ v' w', (Builtin.append_ #[58, 58] 58 #[u, .slice (some ⟨X, 0, none⟩) 1 1]).run Tryz.prog w = .ok v' w' ∧ But (Olds S w0) w w' ∧ rowI S w0 B M g N m n q Ks l v1 room true false w' ∧ rowR room v1 l w0 v' w') := Lib.hid (fun w hI X hX => by
    rw [← hu]; subst hl; exact rowI.append h hk hr1 hr2 hq hI hX _)
  have HSt : Hid (∀ w v, rowI S w0 B M g N m n q Ks l v1 room true false w → rowR room v1 l w0 v w → ∃ b c, v = .slice (some ⟨b, 0, none⟩) l.length c ∧ w.cell? ⟨B, O, none⟩ = some (g Ks) ∧ w.frozen? ⟨B, O, none⟩ = false ∧ But (Olds S w0) w (w.setCell ⟨B, O, none⟩ v) ∧ rowI S w0 B M g N m n q Ks l v1 room true true (w.setCell ⟨B, O, none⟩ v)) := Lib.hid (fun w v hI hR => rowI.store h hk hcl (fun hr => by
    obtain ⟨b, c, e, _, e1⟩ := hr1 hr
    exact ⟨b, c, by rw [hll]; exact e1, by rw [rowB, e]; rfl⟩) hI hR hO)
  have HPut : Hid (∀ g' w, WhIs S w B M g' N m n (upQ q Ks l) → ∃ w', (Instr.mapUpdate 140 (.map (some M)) (.int .i64 id) (.agg #[.int .i64 (d : Int), .int .i64 (lz : Int)])).run Tryz.prog w = .ok () w' ∧ WhIs S w' B M g' N (upM m id (some (d, lz))) (n + 1) (upQ q Ks l) ∧ Kept S w w') := Lib.hid (fun g' w hW => by
    obtain ⟨w', hrun, hm, hg, _⟩ := hW.map.put hid (d, lz) (by unfold maxLen; omega)
    exact ⟨w', hrun, hW.mapTurn hg hm⟩)
  have HBR : Hid (∀ w, But (fun x => x = B ∨ rowB g Ks x) w0 w → Kept S w0 w) := Lib.hid (fun w hb => h.keptRow hk hb)
  have c0 := h.c0
  have q0 : (0 : Int) ≤ (N : Int) := by omega
  have q1 : (N : Int) ≤ (d : Int) := by omega
  have q2 : (d : Int) ≤ (N : Int) + 262144 := by omega
  have hcs := lvl_cases hlz
  clear hrow hr1 hr2 hu hll hK hj hO hlz h
  rcases hcs with ⟨rfl, hD⟩ | ⟨rfl, hD, hD2⟩ | ⟨rfl, hD⟩
  · obtain ⟨rfl, rfl⟩ : Ks = 0 + j ∧ O = 2 + j := by unfold Place at hp; omega
    have r1 : ¬ (0 : Int) < ((d : Int) - (N : Int)) / 64 := by omega
    obtain ⟨Ks, hK⟩ : ∃ Ks, 0 + j = Ks := ⟨_, rfl⟩
    have HL : Hid (q Ks ++ [id] = l) := Lib.hid (by rw [← hK]; exact hl)
    rw [hK] at HC HApp HSt HPut HBR ⊢
    clear hK hl hp
    go_enter Tryz.func74, Tryz.ntmps74
    go_wp2
    refine wp_loop_rounds 1 ?_
    rw [rounds_succ]
    go_wp2_with fail
    refine (HSl.out _).mono ?_
    rintro e w' ⟨rfl, rfl⟩
    go_wp2
    refine Go.Rel.wp_region_states (by kernel_rfl) (by kernel_rfl) (by kernel_rfl) (by kernel_rfl) (fun f w => rowI S w0 B M g N m n q Ks l v1 room (f 13) (f 18) w) (But (Olds S w0)) (fun _ _ _ h k => h.trans k) ((But.refl _ _).drew) rowI.start (putR S w0 B 0 j 2 (2 + j) id u v1 l room) (putR_stable S w0 B 0 j 2 (2 + j) id u v1 l room) ?hsteps ?hend
    case hsteps =>
      refine (.cons ?_ (.cons ?_ (.cons ?_ (.cons ?_ (.cons ?_ (.cons ?_ (.cons ?_ (.cons ?_ (.cons ?_ (.cons ?_ (.cons ?_ (.cons ?_ (.cons ?_ (.cons ?_ (.cons ?_ (.cons ?_ (.cons ?_ (.cons ?_ (.cons ?_ .nil)))))))))))))))))))
      · intro f a w' hI hf hanc hdesc hle hs' hd K hK
        have f0 : a.tmps[0]? = some (.pointer (some ⟨B, 0, none⟩)) := hs'.2.2 0 (by kernel_rfl)
        unfold Go.Rel.stepOf
        go_simp
        exact hK _ _ (But.refl _ _) (hI) rfl
      · intro f a w' hI hf hanc hdesc hle hs' hd K hK
        have f6 : a.tmps[6]? = some (.int .i64 0) := hs'.2.2 6 (by kernel_rfl)
        unfold Go.Rel.stepOf
        go_simp
        exact hK _ _ (But.refl _ _) (hI) rfl
      · intro f a w' hI hf hanc hdesc hle hs' hd K hK
        have f7 : a.tmps[7]? = some (.int .i64 (j : Int)) := hs'.2.2 7 (by kernel_rfl)
        unfold Go.Rel.stepOf
        go_simp
        exact hK _ _ (But.refl _ _) (hI) rfl
      · intro f a w' hI hf hanc hdesc hle hs' hd K hK
        have f0 : a.tmps[0]? = some (.pointer (some ⟨B, 0, none⟩)) := hs'.2.2 0 (by kernel_rfl)
        unfold Go.Rel.stepOf
        go_simp
        exact hK _ _ (But.refl _ _) (hI) rfl
      · intro f a w' hI hf hanc hdesc hle hs' hd K hK
        have f6 : a.tmps[6]? = some (.int .i64 0) := hs'.2.2 6 (by kernel_rfl)
        unfold Go.Rel.stepOf
        go_simp
        exact hK _ _ (But.refl _ _) (hI) rfl
      · intro f a w' hI hf hanc hdesc hle hs' hd K hK
        have f7 : a.tmps[7]? = some (.int .i64 (j : Int)) := hs'.2.2 7 (by kernel_rfl)
        unfold Go.Rel.stepOf
        go_simp
        exact hK _ _ (But.refl _ _) (hI) rfl
      · intro f a w' hI hf hanc hdesc hle hs' hd K hK
        obtain ⟨_, t3, rfl⟩ := hd 3 31 (by kernel_rfl)
        unfold Go.Rel.stepOf
        go_simp
        exact hK _ _ (But.refl _ _) (hI) rfl
      · intro f a w' hI hf hanc hdesc hle hs' hd K hK
        obtain ⟨_, t6, rfl⟩ := hd 6 34 (by kernel_rfl)
        unfold Go.Rel.stepOf
        go_simp
        exact hK _ _ (But.refl _ _) (hI) rfl
      · intro f a w' hI hf hanc hdesc hle hs' hd K hK
        obtain ⟨_, t7, rfl⟩ := hd 7 35 (by kernel_rfl)
        obtain ⟨_, t4, rfl⟩ := hd 4 32 (by kernel_rfl)
        unfold Go.Rel.stepOf
        go_simp
        exact hK _ _ (But.refl _ _) (hI) rfl
      · intro f a w' hI hf hanc hdesc hle hs' hd K hK
        obtain ⟨_, t8, rfl⟩ := hd 8 36 (by kernel_rfl)
        obtain ⟨_, t5, rfl⟩ := hd 5 33 (by kernel_rfl)
        unfold Go.Rel.stepOf
        go_simp
        exact hK _ _ (But.refl _ _) (hI) rfl
      · intro f a w' hI hf hanc hdesc hle hs' hd K hK
        obtain ⟨_, t9, rfl⟩ := hd 9 37 (by kernel_rfl)
        have hz : f 18 = false := hdesc 3 18 (by kernel_rfl)
        have hI2 := hI
        rw [hz] at hI2
        have cc := HC.out _ w' hI2
        unfold Go.Rel.stepOf
        go_simp
        exact hK _ _ (But.refl _ _) (hI) rfl
      · intro f a w' hI hf hanc hdesc hle hs' hd K hK
        have f1 : a.tmps[1]? = some (.int .i64 id) := hs'.2.2 1 (by kernel_rfl)
        unfold Go.Rel.stepOf
        go_simp
        exact hK _ _ (But.refl _ _) (hI) rfl
      · intro f a w' hI hf hanc hdesc hle hs' hd K hK
        obtain ⟨_, t11, rfl⟩ := hd 11 39 (by kernel_rfl)
        have hz : f 18 = false := hdesc 3 18 (by kernel_rfl)
        have ha : f 13 = false := hdesc 2 13 (by kernel_rfl)
        have hI2 := hI
        rw [hz, ha] at hI2
        unfold Go.Rel.stepOf
        go_simp
        refine hK _ _ (But.of_below ((Below.refl _ _).alloc (Nat.le_refl _) _)) ?_ ⟨w'.heap.size, rfl, hI2.size, by simp, by simp⟩
        show rowI S w0 B M g N m n q Ks l v1 room (f 13) (f 18) _
        rw [hz, ha]
        exact hI2.alloc rfl _
      · intro f a w' hI hf hanc hdesc hle hs' hd K hK
        obtain ⟨_, t10, rfl⟩ := hd 10 38 (by kernel_rfl)
        obtain ⟨_, t12, X, rfl, hx0, hx1, hx2⟩ := hd 12 40 (by kernel_rfl)
        have hz : f 18 = false := hdesc 3 18 (by kernel_rfl)
        have hI2 := hI
        rw [hz, hf] at hI2
        obtain ⟨v3, w3, hr3, hb3, hI3, hR3⟩ := HApp.out w' hI2 X hx2
        refine stepOf_append (.tmp 38) (.tmp 40) 58 rfl rfl (by simp [Act.eval, t10]) (by simp [Act.eval, t12]) hr3 (hK _ _ hb3 ?_ hR3)
        show rowI S w0 B M g N m n q Ks l v1 room true (f 18) _
        rw [hz]
        exact hI3
      · intro f a w' hI hf hanc hdesc hle hs' hd K hK
        obtain ⟨_, t0, rfl⟩ := hd 0 28 (by kernel_rfl)
        unfold Go.Rel.stepOf
        go_simp
        exact hK _ _ (But.refl _ _) (hI) rfl
      · intro f a w' hI hf hanc hdesc hle hs' hd K hK
        obtain ⟨_, t14, rfl⟩ := hd 14 42 (by kernel_rfl)
        unfold Go.Rel.stepOf
        go_simp
        exact hK _ _ (But.refl _ _) (hI) rfl
      · intro f a w' hI hf hanc hdesc hle hs' hd K hK
        obtain ⟨_, t15, rfl⟩ := hd 15 43 (by kernel_rfl)
        obtain ⟨_, t1, rfl⟩ := hd 1 29 (by kernel_rfl)
        unfold Go.Rel.stepOf
        go_simp
        exact hK _ _ (But.refl _ _) (hI) rfl
      · intro f a w' hI hf hanc hdesc hle hs' hd K hK
        obtain ⟨_, t16, rfl⟩ := hd 16 44 (by kernel_rfl)
        obtain ⟨_, t2, rfl⟩ := hd 2 30 (by kernel_rfl)
        unfold Go.Rel.stepOf
        go_simp
        exact hK _ _ (But.refl _ _) (hI) rfl
      · intro f a w' hI hf hanc hdesc hle hs' hd K hK
        obtain ⟨_, t17, rfl⟩ := hd 17 45 (by kernel_rfl)
        obtain ⟨_, t13, h13⟩ := hd 13 41 (by kernel_rfl)
        have ha : f 13 = true := hanc 2 13 (by kernel_rfl)
        have hI2 := hI
        rw [hf, ha] at hI2
        obtain ⟨b3, c3, rfl, hc3, hf3, hb3, hI3⟩ := HSt.out w' _ hI2 h13
        unfold Go.Rel.stepOf
        go_simp
        refine hK _ _ hb3 ?_ rfl
        show rowI S w0 B M g N m n q Ks l v1 room (f 13) true _
        rw [ha]
        exact hI3
    case hend =>
      intro f a w3 hall hI hle hs' hR'
      have hz := hall 18 (by decide)
      obtain ⟨g', hW, hb0⟩ := hI.1 hz
      have hb := HBR.out _ hb0
      have HB := Lib.hid hb
      obtain ⟨w4, hrun, hW4, hb4⟩ := HPut.out g' w3 hW
      rw [show ((0 : Nat) : Int) = 0 from rfl] at hrun
      have HW4 := Lib.hid hW4
      have HB4 := Lib.hid hb4
      have c1 := hW.c1
      clear hz hI hW hb hb0 hW4 hb4 hall hle
      obtain ⟨v28, s28, _⟩ := hR' 0 28 (by kernel_rfl)
      obtain ⟨v29, s29, _⟩ := hR' 1 29 (by kernel_rfl)
      obtain ⟨v30, s30, _⟩ := hR' 2 30 (by kernel_rfl)
      obtain ⟨v31, s31, _⟩ := hR' 3 31 (by kernel_rfl)
      obtain ⟨v32, s32, _⟩ := hR' 4 32 (by kernel_rfl)
      obtain ⟨v33, s33, _⟩ := hR' 5 33 (by kernel_rfl)
      obtain ⟨v34, s34, _⟩ := hR' 6 34 (by kernel_rfl)
      obtain ⟨v35, s35, _⟩ := hR' 7 35 (by kernel_rfl)
      obtain ⟨v36, s36, _⟩ := hR' 8 36 (by kernel_rfl)
      obtain ⟨v37, s37, _⟩ := hR' 9 37 (by kernel_rfl)
      obtain ⟨v38, s38, _⟩ := hR' 10 38 (by kernel_rfl)
      obtain ⟨v39, s39, _⟩ := hR' 11 39 (by kernel_rfl)
      obtain ⟨v40, s40, _⟩ := hR' 12 40 (by kernel_rfl)
      obtain ⟨v41, s41, _⟩ := hR' 13 41 (by kernel_rfl)
      obtain ⟨v42, s42, _⟩ := hR' 14 42 (by kernel_rfl)
      obtain ⟨v43, s43, _⟩ := hR' 15 43 (by kernel_rfl)
      obtain ⟨v44, s44, _⟩ := hR' 16 44 (by kernel_rfl)
      obtain ⟨v45, s45, _⟩ := hR' 17 45 (by kernel_rfl)
      have e := hs'.shape
      simp only [List.toList_toArray, List.foldl, Go.Rel.reset, Array.getD_eq_getD_getElem?, s28, s29, s30, s31, s32, s33, s34, s35, s36, s37, s38, s39, s40, s41, s42, s43, s44, s45, Option.getD_some] at e
      simp at e
      clear hR' hs' s28 s29 s30 s31 s32 s33 s34 s35 s36 s37 s38 s39 s40 s41 s42 s43 s44 s45
      subst e
      go_wp2
      go_end0
      exact ⟨rfl, g', by rw [HL.out]; exact HW4.out, HB.out.trans HB4.out⟩
  · obtain ⟨rfl, rfl⟩ : Ks = 64 + j ∧ O = 66 + j := by unfold Place at hp; omega
    have r1 : (0 : Int) < ((d : Int) - (N : Int)) / 64 := by omega
    have r2 : ¬ (0 : Int) < ((d : Int) - (N : Int)) / 4096 := by omega
    obtain ⟨Ks, hK⟩ : ∃ Ks, 64 + j = Ks := ⟨_, rfl⟩
    have HL : Hid (q Ks ++ [id] = l) := Lib.hid (by rw [← hK]; exact hl)
    rw [hK] at HC HApp HSt HPut HBR ⊢
    clear hK hl hp
    go_enter Tryz.func74, Tryz.ntmps74
    go_wp2
    refine wp_loop_rounds 2 ?_
    rw [rounds_succ]
    go_wp2_with fail
    rw [rounds_succ]
    go_wp2_with fail
    refine (HSl.out _).mono ?_
    rintro e w' ⟨rfl, rfl⟩
    go_wp2
    refine Go.Rel.wp_region_states (by kernel_rfl) (by kernel_rfl) (by kernel_rfl) (by kernel_rfl) (fun f w => rowI S w0 B M g N m n q Ks l v1 room (f 13) (f 18) w) (But (Olds S w0)) (fun _ _ _ h k => h.trans k) ((But.refl _ _).drew) rowI.start (putR S w0 B 1 j 66 (66 + j) id u v1 l room) (putR_stable S w0 B 1 j 66 (66 + j) id u v1 l room) ?hsteps ?hend
    case hsteps =>
      refine (.cons ?_ (.cons ?_ (.cons ?_ (.cons ?_ (.cons ?_ (.cons ?_ (.cons ?_ (.cons ?_ (.cons ?_ (.cons ?_ (.cons ?_ (.cons ?_ (.cons ?_ (.cons ?_ (.cons ?_ (.cons ?_ (.cons ?_ (.cons ?_ (.cons ?_ .nil)))))))))))))))))))
      · intro f a w' hI hf hanc hdesc hle hs' hd K hK
        have f0 : a.tmps[0]? = some (.pointer (some ⟨B, 0, none⟩)) := hs'.2.2 0 (by kernel_rfl)
        unfold Go.Rel.stepOf
        go_simp
        exact hK _ _ (But.refl _ _) (hI) rfl
      · intro f a w' hI hf hanc hdesc hle hs' hd K hK
        have f6 : a.tmps[6]? = some (.int .i64 1) := hs'.2.2 6 (by kernel_rfl)
        unfold Go.Rel.stepOf
        go_simp
        exact hK _ _ (But.refl _ _) (hI) rfl
      · intro f a w' hI hf hanc hdesc hle hs' hd K hK
        have f7 : a.tmps[7]? = some (.int .i64 (j : Int)) := hs'.2.2 7 (by kernel_rfl)
        unfold Go.Rel.stepOf
        go_simp
        exact hK _ _ (But.refl _ _) (hI) rfl
      · intro f a w' hI hf hanc hdesc hle hs' hd K hK
        have f0 : a.tmps[0]? = some (.pointer (some ⟨B, 0, none⟩)) := hs'.2.2 0 (by kernel_rfl)
        unfold Go.Rel.stepOf
        go_simp
        exact hK _ _ (But.refl _ _) (hI) rfl
      · intro f a w' hI hf hanc hdesc hle hs' hd K hK
        have f6 : a.tmps[6]? = some (.int .i64 1) := hs'.2.2 6 (by kernel_rfl)
        unfold Go.Rel.stepOf
        go_simp
        exact hK _ _ (But.refl _ _) (hI) rfl
      · intro f a w' hI hf hanc hdesc hle hs' hd K hK
        have f7 : a.tmps[7]? = some (.int .i64 (j : Int)) := hs'.2.2 7 (by kernel_rfl)
        unfold Go.Rel.stepOf
        go_simp
        exact hK _ _ (But.refl _ _) (hI) rfl
      · intro f a w' hI hf hanc hdesc hle hs' hd K hK
        obtain ⟨_, t3, rfl⟩ := hd 3 31 (by kernel_rfl)
        unfold Go.Rel.stepOf
        go_simp
        exact hK _ _ (But.refl _ _) (hI) rfl
      · intro f a w' hI hf hanc hdesc hle hs' hd K hK
        obtain ⟨_, t6, rfl⟩ := hd 6 34 (by kernel_rfl)
        unfold Go.Rel.stepOf
        go_simp
        exact hK _ _ (But.refl _ _) (hI) rfl
      · intro f a w' hI hf hanc hdesc hle hs' hd K hK
        obtain ⟨_, t7, rfl⟩ := hd 7 35 (by kernel_rfl)
        obtain ⟨_, t4, rfl⟩ := hd 4 32 (by kernel_rfl)
        unfold Go.Rel.stepOf
        go_simp
        exact hK _ _ (But.refl _ _) (hI) rfl
      · intro f a w' hI hf hanc hdesc hle hs' hd K hK
        obtain ⟨_, t8, rfl⟩ := hd 8 36 (by kernel_rfl)
        obtain ⟨_, t5, rfl⟩ := hd 5 33 (by kernel_rfl)
        unfold Go.Rel.stepOf
        go_simp
        exact hK _ _ (But.refl _ _) (hI) rfl
      · intro f a w' hI hf hanc hdesc hle hs' hd K hK
        obtain ⟨_, t9, rfl⟩ := hd 9 37 (by kernel_rfl)
        have hz : f 18 = false := hdesc 3 18 (by kernel_rfl)
        have hI2 := hI
        rw [hz] at hI2
        have cc := HC.out _ w' hI2
        unfold Go.Rel.stepOf
        go_simp
        exact hK _ _ (But.refl _ _) (hI) rfl
      · intro f a w' hI hf hanc hdesc hle hs' hd K hK
        have f1 : a.tmps[1]? = some (.int .i64 id) := hs'.2.2 1 (by kernel_rfl)
        unfold Go.Rel.stepOf
        go_simp
        exact hK _ _ (But.refl _ _) (hI) rfl
      · intro f a w' hI hf hanc hdesc hle hs' hd K hK
        obtain ⟨_, t11, rfl⟩ := hd 11 39 (by kernel_rfl)
        have hz : f 18 = false := hdesc 3 18 (by kernel_rfl)
        have ha : f 13 = false := hdesc 2 13 (by kernel_rfl)
        have hI2 := hI
        rw [hz, ha] at hI2
        unfold Go.Rel.stepOf
        go_simp
        refine hK _ _ (But.of_below ((Below.refl _ _).alloc (Nat.le_refl _) _)) ?_ ⟨w'.heap.size, rfl, hI2.size, by simp, by simp⟩
        show rowI S w0 B M g N m n q Ks l v1 room (f 13) (f 18) _
        rw [hz, ha]
        exact hI2.alloc rfl _
      · intro f a w' hI hf hanc hdesc hle hs' hd K hK
        obtain ⟨_, t10, rfl⟩ := hd 10 38 (by kernel_rfl)
        obtain ⟨_, t12, X, rfl, hx0, hx1, hx2⟩ := hd 12 40 (by kernel_rfl)
        have hz : f 18 = false := hdesc 3 18 (by kernel_rfl)
        have hI2 := hI
        rw [hz, hf] at hI2
        obtain ⟨v3, w3, hr3, hb3, hI3, hR3⟩ := HApp.out w' hI2 X hx2
        refine stepOf_append (.tmp 38) (.tmp 40) 58 rfl rfl (by simp [Act.eval, t10]) (by simp [Act.eval, t12]) hr3 (hK _ _ hb3 ?_ hR3)
        show rowI S w0 B M g N m n q Ks l v1 room true (f 18) _
        rw [hz]
        exact hI3
      · intro f a w' hI hf hanc hdesc hle hs' hd K hK
        obtain ⟨_, t0, rfl⟩ := hd 0 28 (by kernel_rfl)
        unfold Go.Rel.stepOf
        go_simp
        exact hK _ _ (But.refl _ _) (hI) rfl
      · intro f a w' hI hf hanc hdesc hle hs' hd K hK
        obtain ⟨_, t14, rfl⟩ := hd 14 42 (by kernel_rfl)
        unfold Go.Rel.stepOf
        go_simp
        exact hK _ _ (But.refl _ _) (hI) rfl
      · intro f a w' hI hf hanc hdesc hle hs' hd K hK
        obtain ⟨_, t15, rfl⟩ := hd 15 43 (by kernel_rfl)
        obtain ⟨_, t1, rfl⟩ := hd 1 29 (by kernel_rfl)
        unfold Go.Rel.stepOf
        go_simp
        exact hK _ _ (But.refl _ _) (hI) rfl
      · intro f a w' hI hf hanc hdesc hle hs' hd K hK
        obtain ⟨_, t16, rfl⟩ := hd 16 44 (by kernel_rfl)
        obtain ⟨_, t2, rfl⟩ := hd 2 30 (by kernel_rfl)
        unfold Go.Rel.stepOf
        go_simp
        exact hK _ _ (But.refl _ _) (hI) rfl
      · intro f a w' hI hf hanc hdesc hle hs' hd K hK
        obtain ⟨_, t17, rfl⟩ := hd 17 45 (by kernel_rfl)
        obtain ⟨_, t13, h13⟩ := hd 13 41 (by kernel_rfl)
        have ha : f 13 = true := hanc 2 13 (by kernel_rfl)
        have hI2 := hI
        rw [hf, ha] at hI2
        obtain ⟨b3, c3, rfl, hc3, hf3, hb3, hI3⟩ := HSt.out w' _ hI2 h13
        unfold Go.Rel.stepOf
        go_simp
        refine hK _ _ hb3 ?_ rfl
        show rowI S w0 B M g N m n q Ks l v1 room (f 13) true _
        rw [ha]
        exact hI3
    case hend =>
      intro f a w3 hall hI hle hs' hR'
      have hz := hall 18 (by decide)
      obtain ⟨g', hW, hb0⟩ := hI.1 hz
      have hb := HBR.out _ hb0
      have HB := Lib.hid hb
      obtain ⟨w4, hrun, hW4, hb4⟩ := HPut.out g' w3 hW
      rw [show ((1 : Nat) : Int) = 1 from rfl] at hrun
      have HW4 := Lib.hid hW4
      have HB4 := Lib.hid hb4
      have c1 := hW.c1
      clear hz hI hW hb hb0 hW4 hb4 hall hle
      obtain ⟨v28, s28, _⟩ := hR' 0 28 (by kernel_rfl)
      obtain ⟨v29, s29, _⟩ := hR' 1 29 (by kernel_rfl)
      obtain ⟨v30, s30, _⟩ := hR' 2 30 (by kernel_rfl)
      obtain ⟨v31, s31, _⟩ := hR' 3 31 (by kernel_rfl)
      obtain ⟨v32, s32, _⟩ := hR' 4 32 (by kernel_rfl)
      obtain ⟨v33, s33, _⟩ := hR' 5 33 (by kernel_rfl)
      obtain ⟨v34, s34, _⟩ := hR' 6 34 (by kernel_rfl)
      obtain ⟨v35, s35, _⟩ := hR' 7 35 (by kernel_rfl)
      obtain ⟨v36, s36, _⟩ := hR' 8 36 (by kernel_rfl)
      obtain ⟨v37, s37, _⟩ := hR' 9 37 (by kernel_rfl)
      obtain ⟨v38, s38, _⟩ := hR' 10 38 (by kernel_rfl)
      obtain ⟨v39, s39, _⟩ := hR' 11 39 (by kernel_rfl)
      obtain ⟨v40, s40, _⟩ := hR' 12 40 (by kernel_rfl)
      obtain ⟨v41, s41, _⟩ := hR' 13 41 (by kernel_rfl)
      obtain ⟨v42, s42, _⟩ := hR' 14 42 (by kernel_rfl)
      obtain ⟨v43, s43, _⟩ := hR' 15 43 (by kernel_rfl)
      obtain ⟨v44, s44, _⟩ := hR' 16 44 (by kernel_rfl)
      obtain ⟨v45, s45, _⟩ := hR' 17 45 (by kernel_rfl)
      have e := hs'.shape
      simp only [List.toList_toArray, List.foldl, Go.Rel.reset, Array.getD_eq_getD_getElem?, s28, s29, s30, s31, s32, s33, s34, s35, s36, s37, s38, s39, s40, s41, s42, s43, s44, s45, Option.getD_some] at e
      simp at e
      clear hR' hs' s28 s29 s30 s31 s32 s33 s34 s35 s36 s37 s38 s39 s40 s41 s42 s43 s44 s45
      subst e
      go_wp2
      go_end0
      exact ⟨rfl, g', by rw [HL.out]; exact HW4.out, HB.out.trans HB4.out⟩
  · obtain ⟨rfl, rfl⟩ : Ks = 128 + j ∧ O = 130 + j := by unfold Place at hp; omega
    have r1 : (0 : Int) < ((d : Int) - (N : Int)) / 64 := by omega
    have r2 : (0 : Int) < ((d : Int) - (N : Int)) / 4096 := by omega
    obtain ⟨Ks, hK⟩ : ∃ Ks, 128 + j = Ks := ⟨_, rfl⟩
    have HL : Hid (q Ks ++ [id] = l) := Lib.hid (by rw [← hK]; exact hl)
    rw [hK] at HC HApp HSt HPut HBR ⊢
    clear hK hl hp
    go_enter Tryz.func74, Tryz.ntmps74
    go_wp2
    refine wp_loop_rounds 3 ?_
    rw [rounds_succ]
    go_wp2_with fail
    rw [rounds_succ]
    go_wp2_with fail
    rw [rounds_succ]
    go_wp2_with fail
    refine (HSl.out _).mono ?_
    rintro e w' ⟨rfl, rfl⟩
    go_wp2
    refine Go.Rel.wp_region_states (by kernel_rfl) (by kernel_rfl) (by kernel_rfl) (by kernel_rfl) (fun f w => rowI S w0 B M g N m n q Ks l v1 room (f 13) (f 18) w) (But (Olds S w0)) (fun _ _ _ h k => h.trans k) ((But.refl _ _).drew) rowI.start (putR S w0 B 2 j 130 (130 + j) id u v1 l room) (putR_stable S w0 B 2 j 130 (130 + j) id u v1 l room) ?hsteps ?hend
    case hsteps =>
      refine (.cons ?_ (.cons ?_ (.cons ?_ (.cons ?_ (.cons ?_ (.cons ?_ (.cons ?_ (.cons ?_ (.cons ?_ (.cons ?_ (.cons ?_ (.cons ?_ (.cons ?_ (.cons ?_ (.cons ?_ (.cons ?_ (.cons ?_ (.cons ?_ (.cons ?_ .nil)))))))))))))))))))
      · intro f a w' hI hf hanc hdesc hle hs' hd K hK
        have f0 : a.tmps[0]? = some (.pointer (some ⟨B, 0, none⟩)) := hs'.2.2 0 (by kernel_rfl)
        unfold Go.Rel.stepOf
        go_simp
        exact hK _ _ (But.refl _ _) (hI) rfl
      · intro f a w' hI hf hanc hdesc hle hs' hd K hK
        have f6 : a.tmps[6]? = some (.int .i64 2) := hs'.2.2 6 (by kernel_rfl)
        unfold Go.Rel.stepOf
        go_simp
        exact hK _ _ (But.refl _ _) (hI) rfl
      · intro f a w' hI hf hanc hdesc hle hs' hd K hK
        have f7 : a.tmps[7]? = some (.int .i64 (j : Int)) := hs'.2.2 7 (by kernel_rfl)
        unfold Go.Rel.stepOf
        go_simp
        exact hK _ _ (But.refl _ _) (hI) rfl
      · intro f a w' hI hf hanc hdesc hle hs' hd K hK
        have f0 : a.tmps[0]? = some (.pointer (some ⟨B, 0, none⟩)) := hs'.2.2 0 (by kernel_rfl)
        unfold Go.Rel.stepOf
        go_simp
        exact hK _ _ (But.refl _ _) (hI) rfl
      · intro f a w' hI hf hanc hdesc hle hs' hd K hK
        have f6 : a.tmps[6]? = some (.int .i64 2) := hs'.2.2 6 (by kernel_rfl)
        unfold Go.Rel.stepOf
        go_simp
        exact hK _ _ (But.refl _ _) (hI) rfl
      · intro f a w' hI hf hanc hdesc hle hs' hd K hK
        have f7 : a.tmps[7]? = some (.int .i64 (j : Int)) := hs'.2.2 7 (by kernel_rfl)
        unfold Go.Rel.stepOf
        go_simp
        exact hK _ _ (But.refl _ _) (hI) rfl
      · intro f a w' hI hf hanc hdesc hle hs' hd K hK
        obtain ⟨_, t3, rfl⟩ := hd 3 31 (by kernel_rfl)
        unfold Go.Rel.stepOf
        go_simp
        exact hK _ _ (But.refl _ _) (hI) rfl
      · intro f a w' hI hf hanc hdesc hle hs' hd K hK
        obtain ⟨_, t6, rfl⟩ := hd 6 34 (by kernel_rfl)
        unfold Go.Rel.stepOf
        go_simp
        exact hK _ _ (But.refl _ _) (hI) rfl
      · intro f a w' hI hf hanc hdesc hle hs' hd K hK
        obtain ⟨_, t7, rfl⟩ := hd 7 35 (by kernel_rfl)
        obtain ⟨_, t4, rfl⟩ := hd 4 32 (by kernel_rfl)
        unfold Go.Rel.stepOf
        go_simp
        exact hK _ _ (But.refl _ _) (hI) rfl
      · intro f a w' hI hf hanc hdesc hle hs' hd K hK
        obtain ⟨_, t8, rfl⟩ := hd 8 36 (by kernel_rfl)
        obtain ⟨_, t5, rfl⟩ := hd 5 33 (by kernel_rfl)
        unfold Go.Rel.stepOf
        go_simp
        exact hK _ _ (But.refl _ _) (hI) rfl
      · intro f a w' hI hf hanc hdesc hle hs' hd K hK
        obtain ⟨_, t9, rfl⟩ := hd 9 37 (by kernel_rfl)
        have hz : f 18 = false := hdesc 3 18 (by kernel_rfl)
        have hI2 := hI
        rw [hz] at hI2
        have cc := HC.out _ w' hI2
        unfold Go.Rel.stepOf
        go_simp
        exact hK _ _ (But.refl _ _) (hI) rfl
      · intro f a w' hI hf hanc hdesc hle hs' hd K hK
        have f1 : a.tmps[1]? = some (.int .i64 id) := hs'.2.2 1 (by kernel_rfl)
        unfold Go.Rel.stepOf
        go_simp
        exact hK _ _ (But.refl _ _) (hI) rfl
      · intro f a w' hI hf hanc hdesc hle hs' hd K hK
        obtain ⟨_, t11, rfl⟩ := hd 11 39 (by kernel_rfl)
        have hz : f 18 = false := hdesc 3 18 (by kernel_rfl)
        have ha : f 13 = false := hdesc 2 13 (by kernel_rfl)
        have hI2 := hI
        rw [hz, ha] at hI2
        unfold Go.Rel.stepOf
        go_simp
        refine hK _ _ (But.of_below ((Below.refl _ _).alloc (Nat.le_refl _) _)) ?_ ⟨w'.heap.size, rfl, hI2.size, by simp, by simp⟩
        show rowI S w0 B M g N m n q Ks l v1 room (f 13) (f 18) _
        rw [hz, ha]
        exact hI2.alloc rfl _
      · intro f a w' hI hf hanc hdesc hle hs' hd K hK
        obtain ⟨_, t10, rfl⟩ := hd 10 38 (by kernel_rfl)
        obtain ⟨_, t12, X, rfl, hx0, hx1, hx2⟩ := hd 12 40 (by kernel_rfl)
        have hz : f 18 = false := hdesc 3 18 (by kernel_rfl)
        have hI2 := hI
        rw [hz, hf] at hI2
        obtain ⟨v3, w3, hr3, hb3, hI3, hR3⟩ := HApp.out w' hI2 X hx2
        refine stepOf_append (.tmp 38) (.tmp 40) 58 rfl rfl (by simp [Act.eval, t10]) (by simp [Act.eval, t12]) hr3 (hK _ _ hb3 ?_ hR3)
        show rowI S w0 B M g N m n q Ks l v1 room true (f 18) _
        rw [hz]
        exact hI3
      · intro f a w' hI hf hanc hdesc hle hs' hd K hK
        obtain ⟨_, t0, rfl⟩ := hd 0 28 (by kernel_rfl)
        unfold Go.Rel.stepOf
        go_simp
        exact hK _ _ (But.refl _ _) (hI) rfl
      · intro f a w' hI hf hanc hdesc hle hs' hd K hK
        obtain ⟨_, t14, rfl⟩ := hd 14 42 (by kernel_rfl)
        unfold Go.Rel.stepOf
        go_simp
        exact hK _ _ (But.refl _ _) (hI) rfl
      · intro f a w' hI hf hanc hdesc hle hs' hd K hK
        obtain ⟨_, t15, rfl⟩ := hd 15 43 (by kernel_rfl)
        obtain ⟨_, t1, rfl⟩ := hd 1 29 (by kernel_rfl)
        unfold Go.Rel.stepOf
        go_simp
        exact hK _ _ (But.refl _ _) (hI) rfl
      · intro f a w' hI hf hanc hdesc hle hs' hd K hK
        obtain ⟨_, t16, rfl⟩ := hd 16 44 (by kernel_rfl)
        obtain ⟨_, t2, rfl⟩ := hd 2 30 (by kernel_rfl)
        unfold Go.Rel.stepOf
        go_simp
        exact hK _ _ (But.refl _ _) (hI) rfl
      · intro f a w' hI hf hanc hdesc hle hs' hd K hK
        obtain ⟨_, t17, rfl⟩ := hd 17 45 (by kernel_rfl)
        obtain ⟨_, t13, h13⟩ := hd 13 41 (by kernel_rfl)
        have ha : f 13 = true := hanc 2 13 (by kernel_rfl)
        have hI2 := hI
        rw [hf, ha] at hI2
        obtain ⟨b3, c3, rfl, hc3, hf3, hb3, hI3⟩ := HSt.out w' _ hI2 h13
        unfold Go.Rel.stepOf
        go_simp
        refine hK _ _ hb3 ?_ rfl
        show rowI S w0 B M g N m n q Ks l v1 room (f 13) true _
        rw [ha]
        exact hI3
    case hend =>
      intro f a w3 hall hI hle hs' hR'
      have hz := hall 18 (by decide)
      obtain ⟨g', hW, hb0⟩ := hI.1 hz
      have hb := HBR.out _ hb0
      have HB := Lib.hid hb
      obtain ⟨w4, hrun, hW4, hb4⟩ := HPut.out g' w3 hW
      rw [show ((2 : Nat) : Int) = 2 from rfl] at hrun
      have HW4 := Lib.hid hW4
      have HB4 := Lib.hid hb4
      have c1 := hW.c1
      clear hz hI hW hb hb0 hW4 hb4 hall hle
      obtain ⟨v28, s28, _⟩ := hR' 0 28 (by kernel_rfl)
      obtain ⟨v29, s29, _⟩ := hR' 1 29 (by kernel_rfl)
      obtain ⟨v30, s30, _⟩ := hR' 2 30 (by kernel_rfl)
      obtain ⟨v31, s31, _⟩ := hR' 3 31 (by kernel_rfl)
      obtain ⟨v32, s32, _⟩ := hR' 4 32 (by kernel_rfl)
      obtain ⟨v33, s33, _⟩ := hR' 5 33 (by kernel_rfl)
      obtain ⟨v34, s34, _⟩ := hR' 6 34 (by kernel_rfl)
      obtain ⟨v35, s35, _⟩ := hR' 7 35 (by kernel_rfl)
      obtain ⟨v36, s36, _⟩ := hR' 8 36 (by kernel_rfl)
      obtain ⟨v37, s37, _⟩ := hR' 9 37 (by kernel_rfl)
      obtain ⟨v38, s38, _⟩ := hR' 10 38 (by kernel_rfl)
      obtain ⟨v39, s39, _⟩ := hR' 11 39 (by kernel_rfl)
      obtain ⟨v40, s40, _⟩ := hR' 12 40 (by kernel_rfl)
      obtain ⟨v41, s41, _⟩ := hR' 13 41 (by kernel_rfl)
      obtain ⟨v42, s42, _⟩ := hR' 14 42 (by kernel_rfl)
      obtain ⟨v43, s43, _⟩ := hR' 15 43 (by kernel_rfl)
      obtain ⟨v44, s44, _⟩ := hR' 16 44 (by kernel_rfl)
      obtain ⟨v45, s45, _⟩ := hR' 17 45 (by kernel_rfl)
      have e := hs'.shape
      simp only [List.toList_toArray, List.foldl, Go.Rel.reset, Array.getD_eq_getD_getElem?, s28, s29, s30, s31, s32, s33, s34, s35, s36, s37, s38, s39, s40, s41, s42, s43, s44, s45, Option.getD_some] at e
      simp at e
      clear hR' hs' s28 s29 s30 s31 s32 s33 s34 s35 s36 s37 s38 s39 s40 s41 s42 s43 s44 s45
      subst e
      go_wp2
      go_end0
      exact ⟨rfl, g', by rw [HL.out]; exact HW4.out, HB.out.trans HB4.out⟩
end Go.Proofs.YtaicipldjmngaaaGreatDoor.wh

namespace Go.Proofs.YtaicipldjmngaaaGreatDoor.wh
open Go.RowKit
set_option linter.unusedSimpArgs false
theorem WhIs.count {S : Nat → Prop} {w : World} {B M N n : Nat} {g : Nat → Value} {m : Mp} {q : Nat → List Int} (h : WhIs S w B M g N m n q) {L : Tm} (ht : Tie m L) (hR : Rise L) (hi : ∀ x ∈ L, wfI x.1) : WhIs S w B M g N m L.length q :=
  ⟨h.sB, h.sM, h.blk, h.map.count ht hR hi, h.rows⟩
def WhAt (S : Nat → Prop) (w : World) (B : Nat) (s : St) : Prop := ∃ M g m q, WhIs S w B M g s.now m s.L.length q ∧ Inv (fun l => blkOf l s.now) m q ∧ Tie m s.L ∧ s.ok
theorem WhAt.mono {S T : Nat → Prop} {w : World} {B : Nat} {s : St} (h : WhAt S w B s) (hs : ∀ k, k < w.heap.size → S k → T k) : WhAt T w B s := by
  obtain ⟨M, g, m, q, h, r⟩ := h
  exact ⟨M, g, m, q, h.mono hs, r⟩
theorem WhAt.but {S T : Nat → Prop} {w w' : World} {B : Nat} {s : St} (h : WhAt S w B s) (hb : But T w w') (hT : ∀ k, T k → k < w.heap.size → ¬ S k) : WhAt S w' B s := by
  obtain ⟨M, g, m, q, h, r⟩ := h
  exact ⟨M, g, m, q, h.but hb hT, r⟩
theorem WhAt.below {S : Nat → Prop} {w w' : World} {B : Nat} {s : St} (h : WhAt S w B s) (hb : Below w.heap.size w w') : WhAt S w' B s := h.but (T := fun _ => False) (But.of_below hb) (fun _ h => h.elim)
theorem WhAt.ok {S : Nat → Prop} {w : World} {B : Nat} {s : St} (h : WhAt S w B s) : s.ok := by
  obtain ⟨M, g, m, q, _, _, _, h⟩ := h
  exact h
theorem WhAt.lt {S : Nat → Prop} {w : World} {B : Nat} {s : St} (h : WhAt S w B s) : B < w.heap.size := by
  obtain ⟨M, g, m, q, h, _⟩ := h
  exact h.lt
theorem WhAt.sB {S : Nat → Prop} {w : World} {B : Nat} {s : St} (h : WhAt S w B s) : S B := by
  obtain ⟨M, g, m, q, h, _⟩ := h
  exact h.sB
theorem St.ok.wf {s : St} (h : s.ok) : ∀ x ∈ s.L, wfI x.1 := fun x hx => h.ids x hx
theorem new_at (w : World) : Calls Tryz.prog 66 #[] w fun e w' => ∃ B, e = .returned (.pointer (some ⟨B, 0, none⟩)) ∧ WhAt (fun k => w.heap.size ≤ k) w' B St.new ∧ Below w.heap.size w w' :=
  (new_any w).mono fun _ _ ⟨B, M, g, he, h, hb⟩ => ⟨B, he, ⟨M, g, _, _, h, Inv.new _, fun _ => rfl, St.ok.new⟩, hb⟩
theorem stop_at (S : Nat → Prop) (w : World) (B : Nat) (s : St) (h : WhAt S w B s) (hcl : ∀ k, w.heap.size ≤ k → S k) (id : Int) (hid : wfI id) (hN : s.now ≤ 1099511627776) :
    Calls Tryz.prog 113 #[.pointer (some ⟨B, 0, none⟩), .int .i64 id] w fun e w' => e = .returned (.bool (hasL s.L id)) ∧ WhAt S w' B (s.stop id) ∧ Kept S w w' := by
  obtain ⟨M, g, m, q, h, hI, hT, hok⟩ := h
  have hs := hT.isSome id
  cases hm : m id with
  | none =>
    rw [hm] at hs
    refine (stop_no w h id hid hm).mono ?_
    rintro e w' ⟨rfl, hb⟩
    have hd : dueOf s.L id = none := by
      unfold hasL at hs
      simpa using hs.symm
    have e1 : s.stop id = s := by unfold St.stop; rw [delL_none hd]
    rw [e1, ← hs]
    exact ⟨rfl, ⟨M, g, m, q, h.below hb, hI, hT, hok⟩, Kept.of_below hb⟩
  | some x =>
    obtain ⟨d, l⟩ := x
    rw [hm] at hs
    have hdd : (id, d) ∈ s.L := dueOf_mem (by rw [← hT id, hm]; rfl)
    have := (hok.soon _ hdd).2
    simp only at this
    refine (stop_yes w h hcl hI id hid d l hm (by omega)).mono ?_
    rintro e w' ⟨rfl, g', h', hb⟩
    have hT' := hT.del hok.rise id
    have hok' := hok.stop id
    exact ⟨by rw [← hs]; rfl, ⟨M, g', _, _, h'.count hT' hok'.rise hok'.wf, hI.drop hm, hT', hok'⟩, hb⟩
theorem put_at (S : Nat → Prop) (w : World) (B : Nat) (s : St) (h : WhAt S w B s) (hcl : ∀ k, w.heap.size ≤ k → S k) (id : Int) (hid : wfI id) (n : Nat) (h1 : 1 ≤ n) (h2 : n ≤ 262144) (hN : s.now ≤ 1099511627776) (hno : hasL s.L id = false) (h64 : s.L.length < 64) :
    Calls Tryz.prog 74 #[.pointer (some ⟨B, 0, none⟩), .int .i64 id, .int .i64 ((s.now + n : Nat) : Int)] w fun e w' => e = .returned (.tuple #[]) ∧ WhAt S w' B ⟨s.now, setL id (s.now + n) s.L⟩ ∧ Kept S w w' := by
  obtain ⟨M, g, m, q, h, hI, hT, hok⟩ := h
  have hmn : m id = none := by
    have := hT.isSome id
    rw [hno] at this
    simpa using this
  have hlv : lvl (s.now + n - s.now) = lvl n := by rw [Nat.add_sub_cancel_left]
  have hf := set_fits (N := s.now) h1 h2
  refine (put_any w h hcl id hid (s.now + n) (lvl n) (by omega) (by omega) hN hlv ?_ (by omega)).mono ?_
  · have := hI.short (fun j hj => by rw [← hT.isSome]; exact hj) (slotOf_lt (lvl_lt n) (s.now + n))
    omega
  · rintro e w' ⟨rfl, g', h', hb⟩
    have hT' := hT.set hok.rise id (s.now + n) (lvl n)
    have hok' : (St.mk s.now (setL id (s.now + n) s.L)).ok := by
      have := hok.set (id := id) (n := (n : Int)) hid
      unfold St.set at this
      rw [if_pos (by simp only [St.may, decide_eq_true_eq]; omega), Int.toNat_natCast] at this
      exact this
    exact ⟨rfl, ⟨M, g', _, _, h'.count hT' hok'.rise hok'.wf, hI.put hmn (lvl_lt n) hf.1 hf.2, hT', hok'⟩, hb⟩
theorem WhAt.c0 {S : Nat → Prop} {w : World} {B : Nat} {s : St} (h : WhAt S w B s) : w.cell? ⟨B, 0, none⟩ = some (.int .i64 (s.now : Int)) := by
  obtain ⟨M, g, m, q, h, _⟩ := h
  exact h.c0
theorem WhAt.len {S : Nat → Prop} {w : World} {B : Nat} {s : St} (h : WhAt S w B s) : ∃ M, w.cell? ⟨B, 1, none⟩ = some (.map (some M)) ∧ ∀ ty, (Builtin.len_ #[140] ty #[.map (some M)]).run Tryz.prog w = .ok (.int .i64 (s.L.length : Int)) w := by
  obtain ⟨M, g, m, q, h, _, hT, hok⟩ := h
  exact ⟨M, h.c1, fun ty => h.map.len hT hok.rise hok.wf ty⟩
theorem made_at {S : Nat → Prop} {w : World} {B : Nat} {s : St} (h : WhAt S w B s) : Calls Tryz.prog 71 #[.pointer (some ⟨B, 0, none⟩)] w fun e w' => e = .returned (.bool true) ∧ w = w' := by
  obtain ⟨M, g, m, q, h, _⟩ := h
  exact made_yes w h
theorem may_no {s : St} {id n : Int} (h : n < 1 ∨ 262144 < n) : s.may id n = false ∧ s.set id n = s := by
  have : s.may id n = false := by unfold St.may; simp; omega
  exact ⟨this, by unfold St.set; rw [this]; rfl⟩
set_option maxHeartbeats 2000000 in
theorem set_at (S : Nat → Prop) (w : World) (B : Nat) (s : St) (h : WhAt S w B s) (hcl : ∀ k, w.heap.size ≤ k → S k) (id n : Int) (hid : wfI id) (hn : wfI n) (hN : s.now ≤ 1099511627776) :
    Calls Tryz.prog 67 #[.pointer (some ⟨B, 0, none⟩), .int .i64 id, .int .i64 n] w fun e w' => e = .returned (.bool (s.may id n)) ∧ WhAt S w' B (s.set id n) ∧ Kept S w w' := by
  have HM := Lib.hid (made_at h)
  unfold wfI at hn
  by_cases hr : n < 1
  · obtain ⟨e1, e2⟩ := may_no (s := s) (id := id) (.inl hr)
    rw [e1, e2]
    have H := Lib.hid h
    clear h e1 e2 hcl
    go_enter Tryz.func67, Tryz.ntmps67
    go_wp2_with fail
    refine HM.out.mono ?_
    rintro e w' ⟨rfl, rfl⟩
    go_wp2
    go_ret
    exact ⟨rfl, H.out, Kept.refl _ _⟩
  · by_cases hr2 : 262144 < n
    · obtain ⟨e1, e2⟩ := may_no (s := s) (id := id) (.inr hr2)
      rw [e1, e2]
      have H := Lib.hid h
      clear h e1 e2 hcl
      go_enter Tryz.func67, Tryz.ntmps67
      go_wp2_with fail
      refine HM.out.mono ?_
      rintro e w' ⟨rfl, rfl⟩
      go_wp2
      go_ret
      exact ⟨rfl, H.out, Kept.refl _ _⟩
    · obtain ⟨k, rfl⟩ : ∃ k : Nat, n = (k : Int) := ⟨n.toNat, by omega⟩
      have HS := Lib.hid (stop_at S w B s h hcl id hid hN)
      obtain ⟨is, his⟩ : ∃ is, hasL s.L id = is := ⟨_, rfl⟩
      rw [his] at HS
      have hok := h.ok
      have hnd : hasL (s.stop id).L id = false := by unfold hasL St.stop; rw [dueOf_delL hok.rise, if_pos rfl]; rfl
      have hset : s.may id k = true → s.set id k = ⟨s.now, setL id (s.now + k) (s.stop id).L⟩ := fun hm => by
        unfold St.set St.stop
        rw [if_pos hm, setL_del hok.rise, Int.toNat_natCast]
      have HPut : Hid (∀ w', WhAt S w' B (s.stop id) → Kept S w w' → (s.stop id).L.length < 64 → Calls Tryz.prog 74 #[.pointer (some ⟨B, 0, none⟩), .int .i64 id, .int .i64 ((s.now : Int) + (k : Int))] w' fun e w2 => e = .returned (.tuple #[]) ∧ WhAt S w2 B ⟨s.now, setL id (s.now + k) (s.stop id).L⟩ ∧ Kept S w' w2) := Lib.hid (fun w' h' hk' hl => by
        have := put_at S w' B (s.stop id) h' (fun j hj => hcl j (Nat.le_trans hk'.1.size hj)) id hid k (by omega) (by omega) hN hnd hl
        rw [Int.natCast_add] at this
        exact this)
      have HNow : Hid ((s.stop id).now = s.now) := Lib.hid rfl
      have hlen : is = true → (s.stop id).L.length < s.L.length := fun e => length_delL_lt (by rw [e] at his; exact his)
      have hmost := hok.most
      have hst : is = false → s.stop id = s := fun e => by
        unfold St.stop
        rw [delL_none (by rw [e] at his; unfold hasL at his; simpa using his)]
      obtain ⟨s1, hs1⟩ : ∃ s1, s.stop id = s1 := ⟨_, rfl⟩
      rw [hs1] at HS hset HPut HNow hlen hst
      have q1 : ¬ (k : Int) < 1 := hr
      have q2 : ¬ (262144 : Int) < (k : Int) := hr2
      have q3 : (s.now : Int) ≤ 1099511627776 := by omega
      have q4 : (0 : Int) ≤ (s.now : Int) := by omega
      cases is with
      | true =>
        have hm : s.may id k = true := by simp only [St.may, decide_eq_true_eq]; exact ⟨by omega, by omega, .inl his⟩
        have HE := Lib.hid (hset hm)
        have HL := Lib.hid (hlen rfl)
        rw [hm]
        clear hset hlen hst h hok hnd his hs1 hcl hm
        go_enter Tryz.func67, Tryz.ntmps67
        go_wp2_with fail
        refine HM.out.mono ?_
        rintro e w' ⟨rfl, rfl⟩
        go_wp2_with fail
        refine HS.out.mono ?_
        rintro e w1 ⟨rfl, h1, hk1⟩
        have c0 := h1.c0
        rw [HNow.out] at c0
        have HP := Lib.hid (HPut.out w1 h1 hk1 (by have := HL.out; omega))
        have HK := Lib.hid hk1
        clear h1 hk1
        go_wp2_with fail
        refine HP.out.mono ?_
        rintro e w2 ⟨rfl, h2, hk2⟩
        have H2 := Lib.hid h2
        have HK2 := Lib.hid hk2
        clear h2 hk2
        go_wp2
        go_ret
        exact ⟨rfl, by rw [HE.out]; exact H2.out, HK.out.trans HK2.out⟩
      | false =>
        have hss := hst rfl
        rw [hss] at HS hset HPut HNow hlen
        by_cases h64 : s.L.length < 64
        · have hm : s.may id k = true := by simp only [St.may, decide_eq_true_eq]; omega
          have HE := Lib.hid (hset hm)
          rw [hm]
          have q5 : ¬ 64 ≤ s.L.length := by omega
          clear hset hlen hst h hok hnd his hs1 hss hcl hm HNow
          go_enter Tryz.func67, Tryz.ntmps67
          go_wp2_with fail
          refine HM.out.mono ?_
          rintro e w' ⟨rfl, rfl⟩
          go_wp2_with fail
          refine HS.out.mono ?_
          rintro e w1 ⟨rfl, h1, hk1⟩
          have c0 := h1.c0
          obtain ⟨M1, c1, hlen⟩ := h1.len
          have HP := Lib.hid (HPut.out w1 h1 hk1 h64)
          have HK := Lib.hid hk1
          clear h1 hk1
          go_wp2_with fail
          refine HP.out.mono ?_
          rintro e w2 ⟨rfl, h2, hk2⟩
          have H2 := Lib.hid h2
          have HK2 := Lib.hid hk2
          clear h2 hk2
          go_wp2
          go_ret
          exact ⟨rfl, by rw [HE.out]; exact H2.out, HK.out.trans HK2.out⟩
        · have hm : s.may id k = false := by simp only [St.may, decide_eq_false_iff_not, his]; simp; omega
          have HE : Hid (s.set id k = s) := Lib.hid (by unfold St.set; rw [hm]; rfl)
          rw [hm]
          have q5 : 64 ≤ s.L.length := by omega
          clear hset hlen hst h hok hnd his hs1 hss hcl hm HNow HPut
          go_enter Tryz.func67, Tryz.ntmps67
          go_wp2_with fail
          refine HM.out.mono ?_
          rintro e w' ⟨rfl, rfl⟩
          go_wp2_with fail
          refine HS.out.mono ?_
          rintro e w1 ⟨rfl, h1, hk1⟩
          obtain ⟨M1, c1, hlen⟩ := h1.len
          have H1 := Lib.hid h1
          have HK := Lib.hid hk1
          clear h1 hk1
          go_wp2
          go_ret
          exact ⟨rfl, by rw [HE.out]; exact H1.out, HK.out⟩
end Go.Proofs.YtaicipldjmngaaaGreatDoor.wh
