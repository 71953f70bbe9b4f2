/-
  Stop of the program's wheel, walked (layer 6).
-/
import Derived.Test.YtcekpkjibabjmaaWLib
namespace Go.Proofs.Ytcekpkjibabjmaa
open Go.RowKit Go.Rel
set_option linter.unusedSimpArgs false
set_option linter.unusedVariables false

def stopA (_ : Nat → Prop) (w0 : World) (B : Nat) (M : Nat) (X : Nat) (id : Int) (d : Nat) (l : Nat) (is : Bool) : Nat → Value → World → Prop
  | 0, v, _ => v = .pointer (some ⟨B, 0, none⟩)
  | 1, v, _ => v = .pointer (some ⟨B, 0, none⟩)
  | 2, v, _ => v = .pointer (some ⟨B, 1, none⟩)
  | 3, v, _ => v = .map (some M)
  | 4, v, _ => v = .int .i64 id
  | 5, v, _ => v = .tuple #[.agg #[.int .i64 (d : Int), .int .i64 (l : Int)], .bool is]
  | 6, v, _ => v = .tuple #[.agg #[.int .i64 (d : Int), .int .i64 (l : Int)], .bool is]
  | 7, v, _ => v = .agg #[.int .i64 (d : Int), .int .i64 (l : Int)]
  | 8, v, _ => v = .bool is
  | 9, v, _ => v = .pointer (some ⟨w0.heap.size, 0, none⟩)
  | 10, v, _ => v = undef
  | 11, v, _ => v = .bool is
  | _, _, _ => True
theorem stopA_stable (S : Nat → Prop) (w0 : World) (B : Nat) (M : Nat) (X : Nat) (id : Int) (d : Nat) (l : Nat) (is : Bool) : ∀ i v w w', stopA S w0 B M X id d l is i v w → But S w w' → stopA S w0 B M X id d l is i v w'
  | 0, _, _, _, h, _ | 1, _, _, _, h, _ | 2, _, _, _, h, _ | 3, _, _, _, h, _ | 4, _, _, _, h, _ | 5, _, _, _, h, _ | 6, _, _, _, h, _ | 7, _, _, _, h, _ | 8, _, _, _, h, _ | 9, _, _, _, h, _ | 10, _, _, _, h, _ | 11, _, _, _, h, _ => h
  | _ + 12, _, _, _, h, _ => h
def stopB (_ : Nat → Prop) (B : Nat) (X : Nat) (Y : Nat) (lv : Int) (j : Nat) (A1 : Nat) (O : Nat) (u : Value) (v1 : Value) : Nat → Value → World → Prop
  | 0, v, _ => v = .pointer (some ⟨B, 0, none⟩)
  | 1, v, _ => v = .pointer (some ⟨Y, 1, none⟩)
  | 2, v, _ => v = .int .i64 lv
  | 3, v, _ => v = .int .i64 (j : Int)
  | 4, v, _ => v = .pointer (some ⟨B, 0, none⟩)
  | 5, v, _ => v = .pointer (some ⟨Y, 1, none⟩)
  | 6, v, _ => v = .int .i64 lv
  | 7, v, _ => v = .int .i64 (j : Int)
  | 8, v, _ => v = .pointer (some ⟨B, 0, none⟩)
  | 9, v, _ => v = .pointer (some ⟨B, 2, none⟩)
  | 10, v, _ => v = .pointer (some ⟨B, A1, none⟩)
  | 11, v, _ => v = .pointer (some ⟨B, O, none⟩)
  | 12, v, _ => v = u
  | 13, v, _ => v = .func (.func 27) #[] #[.pointer (some ⟨X, 0, none⟩)]
  | 14, v, _ => v = v1
  | 15, v, _ => v = .pointer (some ⟨B, 0, none⟩)
  | 16, v, _ => v = .pointer (some ⟨B, 2, none⟩)
  | 17, v, _ => v = .pointer (some ⟨B, A1, none⟩)
  | 18, v, _ => v = .pointer (some ⟨B, O, none⟩)
  | 19, v, _ => v = undef
  | _, _, _ => True
theorem stopB_stable (S : Nat → Prop) (w3 : World) (B : Nat) (X : Nat) (Y : Nat) (lv : Int) (j : Nat) (A1 : Nat) (O : Nat) (u : Value) (v1 : Value) : ∀ i v w w', stopB S B X Y lv j A1 O u v1 i v w → But (Olds S w3) w w' → stopB S B X Y lv j A1 O u v1 i v w'
  | 0, _, _, _, h, _ | 1, _, _, _, h, _ | 2, _, _, _, h, _ | 3, _, _, _, h, _ | 4, _, _, _, h, _ | 5, _, _, _, h, _ | 6, _, _, _, h, _ | 7, _, _, _, h, _ | 8, _, _, _, h, _ | 9, _, _, _, h, _ | 10, _, _, _, h, _ | 11, _, _, _, h, _ | 12, _, _, _, h, _ | 13, _, _, _, h, _ | 14, _, _, _, h, _ | 15, _, _, _, h, _ | 16, _, _, _, h, _ | 17, _, _, _, h, _ | 18, _, _, _, h, _ | 19, _, _, _, h, _ => h
  | _ + 20, _, _, _, h, _ => h
def stopC (_ : Nat → Prop) (B : Nat) (M : Nat) (X : Nat) (id : Int) : Nat → Value → World → Prop
  | 0, v, _ => v = .pointer (some ⟨B, 0, none⟩)
  | 1, v, _ => v = .pointer (some ⟨B, 0, none⟩)
  | 2, v, _ => v = .pointer (some ⟨B, 1, none⟩)
  | 3, v, _ => v = .map (some M)
  | 4, v, _ => v = .int .i64 id
  | _, _, _ => True
theorem stopC_stable (S : Nat → Prop) (B : Nat) (M : Nat) (X : Nat) (id : Int) : ∀ i v w w', stopC S B M X id i v w → But S w w' → stopC S B M X id i v w'
  | 0, _, _, _, h, _ | 1, _, _, _, h, _ | 2, _, _, _, h, _ | 3, _, _, _, h, _ | 4, _, _, _, h, _  => h
  | _ + 5, _, _, _, h, _ => h

/-- The first region's states: v is laid in a new block. -/
def stopI (w0 : World) (d l : Nat) (a z : Bool) (w : World) : Prop :=
  Below w0.heap.size w0 w ∧ (a = false → w.heap.size = w0.heap.size) ∧ (a = true → z = false → w.heap[w0.heap.size]? = some (.cells #[.int .i64 0, .int .i64 0] 58 (0, 0)) ∧ w.heap.size = w0.heap.size + 1) ∧
    (z = true → w.heap[w0.heap.size]? = some (.cells #[.int .i64 (d : Int), .int .i64 (l : Int)] 58 (0, 0)))
set_option maxHeartbeats 8000000 in
set_option maxRecDepth 100000 in
theorem stop_no {S : Nat → Prop} {B M N n : Nat} {g : Nat → Value} {m : Mp} {q : Nat → List Int} (w : World) (h : WhIs S w B M g N m n q) (id : Int) (hid : wfI id) (hm : m id = none) :
    Calls Try.prog 10 #[.pointer (some ⟨B, 0, none⟩), .int .i64 id] w fun e w' => e = .returned (.bool false) ∧ Below w.heap.size w w' := by
  obtain ⟨w0, hW0⟩ : ∃ w0, w.alloc (.cells #[.int .i64 id] 3) = w0 := ⟨_, rfl⟩
  have hB0 : Below w.heap.size w w0 := by rw [← hW0]; exact (Below.refl _ w).alloc (Nat.le_refl _) _
  have h0 := h.below hB0
  have HMade := Lib.hid (made_yes w0 h0)
  have HB1 : Hid (∀ w', Below w0.heap.size w0 w' → w'.cell? ⟨B, 1, none⟩ = some (.map (some M))) := Lib.hid (fun w' hb => (h0.below hb).c1)
  have HX1 : Hid (∀ w', Below w0.heap.size w0 w' → w'.cell? ⟨w.heap.size, 0, none⟩ = some (.int .i64 id)) := Lib.hid (fun w' hb => by
    rw [hb.cell (p := ⟨w.heap.size, 0, none⟩) (by rw [← hW0]; simp), ← hW0]
    simp)
  obtain ⟨d, hd⟩ : ∃ d : Nat, d = 0 := ⟨0, rfl⟩
  obtain ⟨l, hl⟩ : ∃ l : Nat, l = 0 := ⟨0, rfl⟩
  have HLk : Hid (∀ w', Below w0.heap.size w0 w' → (Instr.lookup 44 (.map (some M)) (.int .i64 id) true).run Try.prog w' = .ok (.tuple #[.agg #[.int .i64 (d : Int), .int .i64 (l : Int)], .bool false]) w') := Lib.hid (fun w' hb => (h0.below hb).map.look hid (v := (d, l)) (by rw [hm, hd, hl]; rfl) (by rw [hm]; rfl))
  have HW := Lib.hid hW0
  have HBel := Lib.hid hB0
  clear hW0 hB0 h0 h hm hd hl
  go_enter Try.func10, Try.ntmps10
  go_wp2_with fail
  rw [HW.out]
  refine HMade.out.mono ?_
  rintro e w' ⟨rfl, rfl⟩
  go_wp2
  refine Go.Rel.wp_region_states (by kernel_rfl) (by kernel_rfl) (by kernel_rfl) (by kernel_rfl) (fun f w => stopI w0 d l (f 9) (f 10) w) (But (fun k => w0.heap.size ≤ k)) (fun _ _ _ h k => h.trans k) ((But.refl _ _).drew) ⟨⟨rfl, rfl, rfl, Nat.le_refl _, fun _ _ => rfl⟩, fun _ => rfl, (fun h => by cases h), (fun h => by cases h)⟩ (stopA _ w0 B M w.heap.size id d l false) (stopA_stable _ w0 B M w.heap.size id d l false) ?hsteps ?hend
  case hsteps =>
    refine (.cons ?_ (.cons ?_ (.cons ?_ (.cons ?_ (.cons ?_ (.cons ?_ (.cons ?_ (.cons ?_ (.cons ?_ (.cons ?_ (.cons ?_ (.cons ?_ .nil))))))))))))
    · intro f a w' hI hf hanc hdesc hle hs' hd K hK
      have f0 : a.tmps[0]? = some (.pointer (some ⟨B, 0, none⟩)) := hs'.2.2 0 (by kernel_rfl)
      unfold Go.Rel.stepOf
      go_simp
      exact hK _ _ (But.refl _ _) (hI) rfl
    · intro f a w' hI hf hanc hdesc hle hs' hd K hK
      obtain ⟨_, t0, rfl⟩ := hd 0 12 (by kernel_rfl)
      unfold Go.Rel.stepOf
      go_simp
      exact hK _ _ (But.refl _ _) (hI) rfl
    · intro f a w' hI hf hanc hdesc hle hs' hd K hK
      obtain ⟨_, t1, rfl⟩ := hd 1 13 (by kernel_rfl)
      unfold Go.Rel.stepOf
      go_simp
      exact hK _ _ (But.refl _ _) (hI) rfl
    · intro f a w' hI hf hanc hdesc hle hs' hd K hK
      obtain ⟨_, t2, rfl⟩ := hd 2 14 (by kernel_rfl)
      have cc := HB1.out w' hI.1
      unfold Go.Rel.stepOf
      go_simp
      exact hK _ _ (But.refl _ _) (hI) rfl
    · intro f a w' hI hf hanc hdesc hle hs' hd K hK
      have f3 : a.tmps[3]? = some (.pointer (some ⟨w.heap.size, 0, none⟩)) := hs'.2.2 3 (by kernel_rfl)
      have cc := HX1.out w' hI.1
      unfold Go.Rel.stepOf
      go_simp
      exact hK _ _ (But.refl _ _) (hI) rfl
    · intro f a w' hI hf hanc hdesc hle hs' hd K hK
      obtain ⟨_, t3, rfl⟩ := hd 3 15 (by kernel_rfl)
      obtain ⟨_, t4, rfl⟩ := hd 4 16 (by kernel_rfl)
      have cc := HLk.out w' hI.1
      unfold Go.Rel.stepOf
      go_simp
      exact hK _ _ (But.refl _ _) (hI) rfl
    · intro f a w' hI hf hanc hdesc hle hs' hd K hK
      obtain ⟨_, t5, rfl⟩ := hd 5 17 (by kernel_rfl)
      unfold Go.Rel.stepOf
      go_simp
      exact hK _ _ (But.refl _ _) (hI) rfl
    · intro f a w' hI hf hanc hdesc hle hs' hd K hK
      obtain ⟨_, t6, rfl⟩ := hd 6 11 (by kernel_rfl)
      unfold Go.Rel.stepOf
      go_simp
      exact hK _ _ (But.refl _ _) (hI) rfl
    · intro f a w' hI hf hanc hdesc hle hs' hd K hK
      obtain ⟨_, t6, rfl⟩ := hd 6 11 (by kernel_rfl)
      unfold Go.Rel.stepOf
      go_simp
      exact hK _ _ (But.refl _ _) (hI) rfl
    · intro f a w' hI hf hanc hdesc hle hs' hd K hK
      have hz : f 10 = false := hdesc 1 10 (by kernel_rfl)
      have hsz := hI.2.1 hf
      have hB := hI.1
      unfold Go.Rel.stepOf
      go_simp
      refine hK _ _ (But.of_below ((Below.refl _ _).alloc (Nat.le_refl _) _)) ⟨hB.alloc hB.size _, (fun h => by cases h), (fun _ _ => by rw [← hsz]; exact ⟨heap_alloc_new _ _, by simp⟩), (fun h => by rw [show upd f 9 10 = f 10 from rfl, hz] at h; cases h)⟩ rfl
    · intro f a w' hI hf hanc hdesc hle hs' hd K hK
      obtain ⟨_, t9, rfl⟩ := hd 9 5 (by kernel_rfl)
      obtain ⟨_, t7, rfl⟩ := hd 7 18 (by kernel_rfl)
      have ha : f 9 = true := hanc 1 9 (by kernel_rfl)
      have hB := hI.1
      obtain ⟨hh, hsz⟩ := hI.2.2.1 ha hf
      have c0 : w'.cell? ⟨w0.heap.size, 0, none⟩ = some (.int .i64 0) := by rw [cell_of_row _ _ _ _ _ _ hh]; rfl
      have c1 : w'.cell? ⟨w0.heap.size, 1, none⟩ = some (.int .i64 0) := by rw [cell_of_row _ _ _ _ _ _ hh]; rfl
      have z0 : w'.frozen? ⟨w0.heap.size, 0, none⟩ = false := by simp [World.frozen?, hh]
      have z1 : w'.frozen? ⟨w0.heap.size, 1, none⟩ = false := by simp [World.frozen?, hh]
      have hh2 := block_set (block_set hh 0 (.int .i64 (d : Int))) 1 (.int .i64 (l : Int))
      have HH := Lib.hid hh
      have HH2 := Lib.hid hh2
      clear hh hh2
      unfold Go.Rel.stepOf
      go_simp
      refine hK _ _ ((But.set (S := fun k => w0.heap.size ≤ k) _ (p := ⟨w0.heap.size, 0, none⟩) (Nat.le_refl _) _).trans (But.set _ (p := ⟨w0.heap.size, 1, none⟩) (Nat.le_refl _) _)) ⟨(hB.setCell (Nat.le_refl _) _).setCell (Nat.le_refl _) _, (fun h => by rw [show upd f 10 9 = f 9 from rfl, ha] at h; cases h), (fun _ h => by cases h), (fun _ => by rw [HH2.out]; simp)⟩ rfl
    · intro f a w' hI hf hanc hdesc hle hs' hd K hK
      obtain ⟨_, t8, rfl⟩ := hd 8 19 (by kernel_rfl)
      unfold Go.Rel.stepOf
      go_simp
      exact hK _ _ (But.refl _ _) (hI) rfl
  case hend =>
    intro f a w3 hall hI hle hs' hR'
    have HB3 : Hid (Below w.heap.size w w3) := Lib.hid (HBel.out.trans (hI.1.mono HBel.out.size))
    clear hI hall hle
    obtain ⟨v12, s12, _⟩ := hR' 0 12 (by kernel_rfl)
    obtain ⟨v13, s13, _⟩ := hR' 1 13 (by kernel_rfl)
    obtain ⟨v14, s14, _⟩ := hR' 2 14 (by kernel_rfl)
    obtain ⟨v15, s15, _⟩ := hR' 3 15 (by kernel_rfl)
    obtain ⟨v16, s16, _⟩ := hR' 4 16 (by kernel_rfl)
    obtain ⟨v17, s17, _⟩ := hR' 5 17 (by kernel_rfl)
    obtain ⟨v11, s11, _⟩ := hR' 6 11 (by kernel_rfl)
    obtain ⟨v18, s18, _⟩ := hR' 7 18 (by kernel_rfl)
    obtain ⟨v19, s19, _⟩ := hR' 8 19 (by kernel_rfl)
    obtain ⟨_, s5, rfl⟩ := hR' 9 5 (by kernel_rfl)
    obtain ⟨_, s6, rfl⟩ := hR' 11 6 (by kernel_rfl)
    have e := hs'.shape
    simp only [List.toList_toArray, List.foldl, Go.Rel.reset, Array.getD_eq_getD_getElem?, s12, s13, s14, s15, s16, s17, s11, s18, s19, s5, s6, Option.getD_some] at e
    simp at e
    clear hR' hs' s12 s13 s14 s15 s16 s17 s11 s18 s19 s5 s6
    subst e
    go_wp2
    go_ret
    exact ⟨rfl, HB3.out⟩
set_option maxHeartbeats 16000000 in
set_option maxRecDepth 100000 in
theorem stop_yes {S : Nat → Prop} {B M N n : Nat} {g : Nat → Value} {m : Mp} {q : Nat → List Int} {c : Nat → Nat} (w : World) (h : WhIs S w B M g N m n q) (hcl : ∀ k, w.heap.size ≤ k → S k) (hInv : Inv c m q) (id : Int) (hid : wfI id) (d l : Nat) (hm : m id = some (d, l)) (hd : d ≤ 4611686018427387904) :
    Calls Try.prog 10 #[.pointer (some ⟨B, 0, none⟩), .int .i64 id] w fun e w' => e = .returned (.bool true) ∧
      ∃ g', WhIs S w' B M g' N (upM m id none) n (upQ q (slotOf l d) (keepL id (q (slotOf l d)))) ∧ Kept S w w' := by
  have hl3 : l < 3 := (hInv.lev id d l hm).1
  have hmem := (hInv.lev id d l hm).2.2.2
  have hk := slotOf_lt hl3 d
  have hp := place_of (t := d) hl3
  have HSl := Lib.hid (fun w => slot_any d l w hl3 hd)
  obtain ⟨Ks, hK⟩ : ∃ Ks, slotOf l d = Ks := ⟨_, rfl⟩
  rw [hK] at hk hp hmem ⊢
  obtain ⟨j, hj⟩ : ∃ j, blkOf l d % 64 = j := ⟨_, rfl⟩
  have hj64 : j < 64 := by omega
  have q3 : (j : Int) < 64 := by omega
  rw [hj] at HSl hp
  obtain ⟨O, hO⟩ : ∃ O, 2 + Ks = O := ⟨_, rfl⟩
  rw [hO] at hp
  obtain ⟨ls, hls⟩ : ∃ ls, keepL id (q Ks) = ls := ⟨_, rfl⟩
  obtain ⟨b, cap, hg, hgo⟩ : ∃ b cap, g Ks = .slice (some ⟨b, 0, none⟩) (q Ks).length cap ∧ rowB g Ks b := by
    rcases (h.rows.own Ks hk).2 with ⟨_, h0⟩ | ⟨b, cap, _, e, _⟩
    · rw [List.eq_nil_of_length_eq_zero h0] at hmem; cases hmem
    · exact ⟨b, cap, e, by rw [rowB, e]; rfl⟩
  obtain ⟨w0, hW0⟩ : ∃ w0, w.alloc (.cells #[.int .i64 id] 3) = w0 := ⟨_, rfl⟩
  have hB0 : Below w.heap.size w w0 := by rw [← hW0]; exact (Below.refl _ w).alloc (Nat.le_refl _) _
  have h0 := h.below hB0
  have hX0 : w0.heap[w.heap.size]? = some (.cells #[.int .i64 id] 3 (0, 0)) := by rw [← hW0]; exact heap_alloc_new _ _
  have hXl : w.heap.size < w0.heap.size := block_lt hX0
  have hYX : w.heap.size ≠ b := fun e => by have := own_lt (h.rows.own Ks hk) hgo; omega
  have HMade := Lib.hid (made_yes w0 h0)
  have HB1 : Hid (∀ w', Below w0.heap.size w0 w' → w'.cell? ⟨B, 1, none⟩ = some (.map (some M))) := Lib.hid (fun w' hb => (h0.below hb).c1)
  have HX1 : Hid (∀ w', Below w0.heap.size w0 w' → w'.cell? ⟨w.heap.size, 0, none⟩ = some (.int .i64 id)) := Lib.hid (fun w' hb => by
    rw [hb.cell (p := ⟨w.heap.size, 0, none⟩) hXl, cell_of_row _ _ _ _ _ _ hX0]
    rfl)
  have HLk : Hid (∀ w', Below w0.heap.size w0 w' → (Instr.lookup 44 (.map (some M)) (.int .i64 id) true).run Try.prog w' = .ok (.tuple #[.agg #[.int .i64 (d : Int), .int .i64 (l : Int)], .bool true]) w') := Lib.hid (fun w' hb => (h0.below hb).map.look hid (v := (d, l)) (by rw [hm]; rfl) (by rw [hm]; rfl))
  have HW := Lib.hid hW0
  have HBel := Lib.hid hB0
  have HX0 := Lib.hid hX0
  have H0 := Lib.hid h0
  have HH := Lib.hid h
  have HG := Lib.hid hg
  have HGo := Lib.hid hgo
  have HLs := Lib.hid hls
  have HO := Lib.hid hO
  have HCl := Lib.hid hcl
  have HNX := Lib.hid hYX
  have HIn := Lib.hid hInv
  clear hW0 hB0 h0 h hX0 hg hgo hls hO hcl hm hK hj hmem hYX hInv
  go_enter Try.func10, Try.ntmps10
  go_wp2_with fail
  rw [HW.out]
  refine HMade.out.mono ?_
  rintro e w' ⟨rfl, rfl⟩
  go_wp2
  refine Go.Rel.wp_region_states (by kernel_rfl) (by kernel_rfl) (by kernel_rfl) (by kernel_rfl) (fun f w => stopI w0 d l (f 9) (f 10) w) (But (fun k => w0.heap.size ≤ k)) (fun _ _ _ h k => h.trans k) ((But.refl _ _).drew) ⟨⟨rfl, rfl, rfl, Nat.le_refl _, fun _ _ => rfl⟩, fun _ => rfl, (fun h => by cases h), (fun h => by cases h)⟩ (stopA _ w0 B M w.heap.size id d l true) (stopA_stable _ w0 B M w.heap.size id d l true) ?hsteps ?hend
  case hsteps =>
    refine (.cons ?_ (.cons ?_ (.cons ?_ (.cons ?_ (.cons ?_ (.cons ?_ (.cons ?_ (.cons ?_ (.cons ?_ (.cons ?_ (.cons ?_ (.cons ?_ .nil))))))))))))
    · intro f a w' hI hf hanc hdesc hle hs' hd K hK
      have f0 : a.tmps[0]? = some (.pointer (some ⟨B, 0, none⟩)) := hs'.2.2 0 (by kernel_rfl)
      unfold Go.Rel.stepOf
      go_simp
      exact hK _ _ (But.refl _ _) (hI) rfl
    · intro f a w' hI hf hanc hdesc hle hs' hd K hK
      obtain ⟨_, t0, rfl⟩ := hd 0 12 (by kernel_rfl)
      unfold Go.Rel.stepOf
      go_simp
      exact hK _ _ (But.refl _ _) (hI) rfl
    · intro f a w' hI hf hanc hdesc hle hs' hd K hK
      obtain ⟨_, t1, rfl⟩ := hd 1 13 (by kernel_rfl)
      unfold Go.Rel.stepOf
      go_simp
      exact hK _ _ (But.refl _ _) (hI) rfl
    · intro f a w' hI hf hanc hdesc hle hs' hd K hK
      obtain ⟨_, t2, rfl⟩ := hd 2 14 (by kernel_rfl)
      have cc := HB1.out w' hI.1
      unfold Go.Rel.stepOf
      go_simp
      exact hK _ _ (But.refl _ _) (hI) rfl
    · intro f a w' hI hf hanc hdesc hle hs' hd K hK
      have f3 : a.tmps[3]? = some (.pointer (some ⟨w.heap.size, 0, none⟩)) := hs'.2.2 3 (by kernel_rfl)
      have cc := HX1.out w' hI.1
      unfold Go.Rel.stepOf
      go_simp
      exact hK _ _ (But.refl _ _) (hI) rfl
    · intro f a w' hI hf hanc hdesc hle hs' hd K hK
      obtain ⟨_, t3, rfl⟩ := hd 3 15 (by kernel_rfl)
      obtain ⟨_, t4, rfl⟩ := hd 4 16 (by kernel_rfl)
      have cc := HLk.out w' hI.1
      unfold Go.Rel.stepOf
      go_simp
      exact hK _ _ (But.refl _ _) (hI) rfl
    · intro f a w' hI hf hanc hdesc hle hs' hd K hK
      obtain ⟨_, t5, rfl⟩ := hd 5 17 (by kernel_rfl)
      unfold Go.Rel.stepOf
      go_simp
      exact hK _ _ (But.refl _ _) (hI) rfl
    · intro f a w' hI hf hanc hdesc hle hs' hd K hK
      obtain ⟨_, t6, rfl⟩ := hd 6 11 (by kernel_rfl)
      unfold Go.Rel.stepOf
      go_simp
      exact hK _ _ (But.refl _ _) (hI) rfl
    · intro f a w' hI hf hanc hdesc hle hs' hd K hK
      obtain ⟨_, t6, rfl⟩ := hd 6 11 (by kernel_rfl)
      unfold Go.Rel.stepOf
      go_simp
      exact hK _ _ (But.refl _ _) (hI) rfl
    · intro f a w' hI hf hanc hdesc hle hs' hd K hK
      have hz : f 10 = false := hdesc 1 10 (by kernel_rfl)
      have hsz := hI.2.1 hf
      have hB := hI.1
      unfold Go.Rel.stepOf
      go_simp
      refine hK _ _ (But.of_below ((Below.refl _ _).alloc (Nat.le_refl _) _)) ⟨hB.alloc hB.size _, (fun h => by cases h), (fun _ _ => by rw [← hsz]; exact ⟨heap_alloc_new _ _, by simp⟩), (fun h => by rw [show upd f 9 10 = f 10 from rfl, hz] at h; cases h)⟩ rfl
    · intro f a w' hI hf hanc hdesc hle hs' hd K hK
      obtain ⟨_, t9, rfl⟩ := hd 9 5 (by kernel_rfl)
      obtain ⟨_, t7, rfl⟩ := hd 7 18 (by kernel_rfl)
      have ha : f 9 = true := hanc 1 9 (by kernel_rfl)
      have hB := hI.1
      obtain ⟨hh, hsz⟩ := hI.2.2.1 ha hf
      have c0 : w'.cell? ⟨w0.heap.size, 0, none⟩ = some (.int .i64 0) := by rw [cell_of_row _ _ _ _ _ _ hh]; rfl
      have c1 : w'.cell? ⟨w0.heap.size, 1, none⟩ = some (.int .i64 0) := by rw [cell_of_row _ _ _ _ _ _ hh]; rfl
      have z0 : w'.frozen? ⟨w0.heap.size, 0, none⟩ = false := by simp [World.frozen?, hh]
      have z1 : w'.frozen? ⟨w0.heap.size, 1, none⟩ = false := by simp [World.frozen?, hh]
      have hh2 := block_set (block_set hh 0 (.int .i64 (d : Int))) 1 (.int .i64 (l : Int))
      have HH := Lib.hid hh
      have HH2 := Lib.hid hh2
      clear hh hh2
      unfold Go.Rel.stepOf
      go_simp
      refine hK _ _ ((But.set (S := fun k => w0.heap.size ≤ k) _ (p := ⟨w0.heap.size, 0, none⟩) (Nat.le_refl _) _).trans (But.set _ (p := ⟨w0.heap.size, 1, none⟩) (Nat.le_refl _) _)) ⟨(hB.setCell (Nat.le_refl _) _).setCell (Nat.le_refl _) _, (fun h => by rw [show upd f 10 9 = f 9 from rfl, ha] at h; cases h), (fun _ h => by cases h), (fun _ => by rw [HH2.out]; simp)⟩ rfl
    · intro f a w' hI hf hanc hdesc hle hs' hd K hK
      obtain ⟨_, t8, rfl⟩ := hd 8 19 (by kernel_rfl)
      unfold Go.Rel.stepOf
      go_simp
      exact hK _ _ (But.refl _ _) (hI) rfl
  case hend =>
    intro f a w3 hall hI hle hs' hR'
    have hz := hall 10 (by decide)
    have hY := hI.2.2.2 hz
    have HB3 : Hid (Below w0.heap.size w0 w3) := Lib.hid hI.1
    obtain ⟨Y, hYe⟩ : ∃ Y, w0.heap.size = Y := ⟨_, rfl⟩
    have hYl : Y < w3.heap.size := by rw [← hYe]; exact block_lt hY
    have cY0 : w3.cell? ⟨Y, 0, none⟩ = some (.int .i64 (d : Int)) := by rw [← hYe, cell_of_row _ _ _ _ _ _ hY]; rfl
    have cY1 : w3.cell? ⟨Y, 1, none⟩ = some (.int .i64 (l : Int)) := by rw [← hYe, cell_of_row _ _ _ _ _ _ hY]; rfl
    have h3 := H0.out.below HB3.out
    have hX3 : w3.heap[w.heap.size]? = some (.cells #[.int .i64 id] 3 (0, 0)) := (HB3.out.block w.heap.size hXl).trans HX0.out
    have hcl3 : ∀ k, w3.heap.size ≤ k → S k := fun k hk => HCl.out k (by have := HB3.out.size; omega)
    have hYr : ∀ x, rowB g Ks x → x < Y ∧ x ≠ w.heap.size := fun x hx => by
      have h1 := own_lt (HH.out.rows.own Ks hk) hx
      have h2 := HBel.out.size
      omega
    have HC : Hid (∀ a w, rowI S w3 B M g N m n q Ks ls (.slice (some ⟨b, 0, none⟩) ls.length cap) True a false w → w.cell? ⟨B, O, none⟩ = some (g Ks)) := Lib.hid (fun a w hI => by
      rw [← HO.out]; exact (rowI.cell h3 hk hI _).1.trans (h3.c2 hk))
    have HY : Hid (∀ a w, rowI S w3 B M g N m n q Ks ls (.slice (some ⟨b, 0, none⟩) ls.length cap) True a false w → w.cell? ⟨Y, 1, none⟩ = some (.int .i64 (l : Int))) := Lib.hid (fun a w hI => by
      rw [← cY1]; exact World.cell?_of_block (hI.block hYl (fun e => by have := hYr Y e; omega)))
    have HDel : Hid (∀ w', rowI S w3 B M g N m n q Ks ls (.slice (some ⟨b, 0, none⟩) ls.length cap) True false false w' → Calls Try.prog 26 #[g Ks, .func (.func 27) #[] #[.pointer (some ⟨w.heap.size, 0, none⟩)]] w' fun e w2 => e = .returned (.slice (some ⟨b, 0, none⟩) ls.length cap) ∧ rowI S w3 B M g N m n q Ks ls (.slice (some ⟨b, 0, none⟩) ls.length cap) True true false w2 ∧ But (Olds S w3) w' w2) := Lib.hid (fun w' hI => by
      have hb := (hI.2 rfl).2 (fun e => by cases e)
      have ho := bown_keep (h3.rows.own Ks hk) hb
      rw [HG.out] at ho ⊢
      refine (delete_any w' (q Ks) b cap w.heap.size id ho (by rw [hb.cell (p := ⟨w.heap.size, 0, none⟩) (block_lt hX3), cell_of_row _ _ _ _ _ _ hX3]; rfl) (Nat.lt_of_lt_of_le (block_lt hX3) hb.size) HNX.out).mono ?_
      rintro e w2 ⟨rfl, ho2, hg2⟩
      rw [HLs.out] at ho2
      obtain ⟨f1, f2⟩ := rowI.grow h3 hk hI hg2 (fun x e => by cases e; exact ⟨HGo.out, trivial⟩) (fun _ => ho2)
      exact ⟨by rw [HLs.out], f1, f2⟩)
    have HSt : Hid (∀ w, rowI S w3 B M g N m n q Ks ls (.slice (some ⟨b, 0, none⟩) ls.length cap) True true false w → w.cell? ⟨B, O, none⟩ = some (g Ks) ∧ w.frozen? ⟨B, O, none⟩ = false ∧ But (Olds S w3) w (w.setCell ⟨B, O, none⟩ (.slice (some ⟨b, 0, none⟩) ls.length cap)) ∧ rowI S w3 B M g N m n q Ks ls (.slice (some ⟨b, 0, none⟩) ls.length cap) True true true (w.setCell ⟨B, O, none⟩ (.slice (some ⟨b, 0, none⟩) ls.length cap))) := Lib.hid (fun w hI => by
      obtain ⟨_, _, _, r⟩ := rowI.store h3 hk hcl3 (fun _ => ⟨b, cap, rfl, HGo.out⟩) hI ⟨fun _ => rfl, fun h => absurd trivial h⟩ HO.out
      exact r)
    obtain ⟨u, hu⟩ : ∃ u, g Ks = u := ⟨_, rfl⟩
    rw [hu] at HC HDel HSt
    have HBnd : Hid (∀ x, (x = B ∨ rowB g Ks x) → x < Y ∧ x ≠ w.heap.size) := Lib.hid (fun x hx => by
      rcases hx with rfl | hx
      · have := HH.out.lt; have := HBel.out.size; omega
      · exact hYr x hx)
    have HX3 := Lib.hid hX3
    have H3 := Lib.hid h3
    have HYe := Lib.hid hYe
    have hBR : Hid (∀ w4, But (fun x => x = B ∨ rowB g Ks x) w3 w4 → Kept S w3 w4) := Lib.hid (fun w4 hb => H3.out.keptRow hk hb)
    clear hI hall hle hz hY h3 hX3 hYr hu hcl3
    obtain ⟨v12, s12, _⟩ := hR' 0 12 (by kernel_rfl)
    obtain ⟨v13, s13, _⟩ := hR' 1 13 (by kernel_rfl)
    obtain ⟨v14, s14, _⟩ := hR' 2 14 (by kernel_rfl)
    obtain ⟨v15, s15, _⟩ := hR' 3 15 (by kernel_rfl)
    obtain ⟨v16, s16, _⟩ := hR' 4 16 (by kernel_rfl)
    obtain ⟨v17, s17, _⟩ := hR' 5 17 (by kernel_rfl)
    obtain ⟨v11, s11, _⟩ := hR' 6 11 (by kernel_rfl)
    obtain ⟨v18, s18, _⟩ := hR' 7 18 (by kernel_rfl)
    obtain ⟨v19, s19, _⟩ := hR' 8 19 (by kernel_rfl)
    obtain ⟨_, s5, rfl⟩ := hR' 9 5 (by kernel_rfl)
    obtain ⟨_, s6, rfl⟩ := hR' 11 6 (by kernel_rfl)
    have e := hs'.shape
    simp only [List.toList_toArray, List.foldl, Go.Rel.reset, Array.getD_eq_getD_getElem?, s12, s13, s14, s15, s16, s17, s11, s18, s19, s5, s6, Option.getD_some] at e
    simp at e
    clear hR' hs' s12 s13 s14 s15 s16 s17 s11 s18 s19 s5 s6
    subst e
    rw [HYe.out]
    go_wp2_with fail
    refine (HSl.out _).mono ?_
    rintro e w' ⟨rfl, rfl⟩
    rcases hp with ⟨rfl, hKs, rfl⟩ | ⟨rfl, hKs, rfl⟩ | ⟨rfl, hKs, rfl⟩
    · clear hKs
      go_wp2
      refine Go.Rel.wp_region_states (by kernel_rfl) (by kernel_rfl) (by kernel_rfl) (by kernel_rfl) (fun f w => rowI S w3 B M g N m n q Ks ls (.slice (some ⟨b, 0, none⟩) ls.length cap) True (f 14) (f 19) w) (But (Olds S w3)) (fun _ _ _ h k => h.trans k) ((But.refl _ _).drew) rowI.start (stopB S B w.heap.size Y ((0 : Nat) : Int) j 2 (2 + j) u (.slice (some ⟨b, 0, none⟩) ls.length cap)) (stopB_stable S w3 B w.heap.size Y ((0 : Nat) : Int) j 2 (2 + j) u (.slice (some ⟨b, 0, none⟩) ls.length cap)) ?hsteps6 ?hend6
      case hsteps6 =>
        refine (.cons ?_ (.cons ?_ (.cons ?_ (.cons ?_ (.cons ?_ (.cons ?_ (.cons ?_ (.cons ?_ (.cons ?_ (.cons ?_ (.cons ?_ (.cons ?_ (.cons ?_ (.cons ?_ (.cons ?_ (.cons ?_ (.cons ?_ (.cons ?_ (.cons ?_ (.cons ?_ .nil))))))))))))))))))))
        · intro f a w' hI hf hanc hdesc hle hs' hd K hK
          have f0 : a.tmps[0]? = some (.pointer (some ⟨B, 0, none⟩)) := hs'.2.2 0 (by kernel_rfl)
          unfold Go.Rel.stepOf
          go_simp
          exact hK _ _ (But.refl _ _) (hI) rfl
        · intro f a w' hI hf hanc hdesc hle hs' hd K hK
          have f5 : a.tmps[5]? = some (.pointer (some ⟨Y, 0, none⟩)) := hs'.2.2 5 (by kernel_rfl)
          unfold Go.Rel.stepOf
          go_simp
          exact hK _ _ (But.refl _ _) (hI) rfl
        · intro f a w' hI hf hanc hdesc hle hs' hd K hK
          obtain ⟨_, t1, rfl⟩ := hd 1 27 (by kernel_rfl)
          have hz : f 19 = false := hdesc 6 19 (by kernel_rfl)
          have hI2 := hI
          rw [hz] at hI2
          have cc := HY.out _ w' hI2
          unfold Go.Rel.stepOf
          go_simp
          exact hK _ _ (But.refl _ _) (hI) rfl
        · intro f a w' hI hf hanc hdesc hle hs' hd K hK
          have f7 : a.tmps[7]? = some (.int .i64 (j : Int)) := hs'.2.2 7 (by kernel_rfl)
          unfold Go.Rel.stepOf
          go_simp
          exact hK _ _ (But.refl _ _) (hI) rfl
        · intro f a w' hI hf hanc hdesc hle hs' hd K hK
          have f0 : a.tmps[0]? = some (.pointer (some ⟨B, 0, none⟩)) := hs'.2.2 0 (by kernel_rfl)
          unfold Go.Rel.stepOf
          go_simp
          exact hK _ _ (But.refl _ _) (hI) rfl
        · intro f a w' hI hf hanc hdesc hle hs' hd K hK
          have f5 : a.tmps[5]? = some (.pointer (some ⟨Y, 0, none⟩)) := hs'.2.2 5 (by kernel_rfl)
          unfold Go.Rel.stepOf
          go_simp
          exact hK _ _ (But.refl _ _) (hI) rfl
        · intro f a w' hI hf hanc hdesc hle hs' hd K hK
          obtain ⟨_, t5, rfl⟩ := hd 5 31 (by kernel_rfl)
          have hz : f 19 = false := hdesc 6 19 (by kernel_rfl)
          have hI2 := hI
          rw [hz] at hI2
          have cc := HY.out _ w' hI2
          unfold Go.Rel.stepOf
          go_simp
          exact hK _ _ (But.refl _ _) (hI) rfl
        · intro f a w' hI hf hanc hdesc hle hs' hd K hK
          have f7 : a.tmps[7]? = some (.int .i64 (j : Int)) := hs'.2.2 7 (by kernel_rfl)
          unfold Go.Rel.stepOf
          go_simp
          exact hK _ _ (But.refl _ _) (hI) rfl
        · intro f a w' hI hf hanc hdesc hle hs' hd K hK
          obtain ⟨_, t4, rfl⟩ := hd 4 30 (by kernel_rfl)
          unfold Go.Rel.stepOf
          go_simp
          exact hK _ _ (But.refl _ _) (hI) rfl
        · intro f a w' hI hf hanc hdesc hle hs' hd K hK
          obtain ⟨_, t8, rfl⟩ := hd 8 34 (by kernel_rfl)
          unfold Go.Rel.stepOf
          go_simp
          exact hK _ _ (But.refl _ _) (hI) rfl
        · intro f a w' hI hf hanc hdesc hle hs' hd K hK
          obtain ⟨_, t9, rfl⟩ := hd 9 35 (by kernel_rfl)
          obtain ⟨_, t6, rfl⟩ := hd 6 32 (by kernel_rfl)
          unfold Go.Rel.stepOf
          go_simp
          exact hK _ _ (But.refl _ _) (hI) rfl
        · intro f a w' hI hf hanc hdesc hle hs' hd K hK
          obtain ⟨_, t10, rfl⟩ := hd 10 36 (by kernel_rfl)
          obtain ⟨_, t7, rfl⟩ := hd 7 33 (by kernel_rfl)
          unfold Go.Rel.stepOf
          go_simp
          exact hK _ _ (But.refl _ _) (hI) rfl
        · intro f a w' hI hf hanc hdesc hle hs' hd K hK
          obtain ⟨_, t11, rfl⟩ := hd 11 37 (by kernel_rfl)
          have hz : f 19 = false := hdesc 3 19 (by kernel_rfl)
          have hI2 := hI
          rw [hz] at hI2
          have cc := HC.out _ w' hI2
          unfold Go.Rel.stepOf
          go_simp
          exact hK _ _ (But.refl _ _) (hI) rfl
        · intro f a w' hI hf hanc hdesc hle hs' hd K hK
          have f3 : a.tmps[3]? = some (.pointer (some ⟨w.heap.size, 0, none⟩)) := hs'.2.2 3 (by kernel_rfl)
          unfold Go.Rel.stepOf
          go_simp
          exact hK _ _ (But.refl _ _) (hI) rfl
        · intro f a w' hI hf hanc hdesc hle hs' hd K hK
          obtain ⟨_, t12, rfl⟩ := hd 12 38 (by kernel_rfl)
          obtain ⟨_, t13, rfl⟩ := hd 13 39 (by kernel_rfl)
          have hz : f 19 = false := hdesc 3 19 (by kernel_rfl)
          have hI2 := hI
          rw [hz, hf] at hI2
          unfold Go.Rel.stepOf
          go_simp
          refine (HDel.out w' hI2).mono ?_
          rintro e w2 ⟨rfl, hI3, hb3⟩
          refine hK _ _ hb3 ?_ rfl
          show rowI S w3 B M g N m n q Ks ls (.slice (some ⟨b, 0, none⟩) ls.length cap) True true (f 19) _
          rw [hz]
          exact hI3
        · intro f a w' hI hf hanc hdesc hle hs' hd K hK
          obtain ⟨_, t0, rfl⟩ := hd 0 26 (by kernel_rfl)
          unfold Go.Rel.stepOf
          go_simp
          exact hK _ _ (But.refl _ _) (hI) rfl
        · intro f a w' hI hf hanc hdesc hle hs' hd K hK
          obtain ⟨_, t15, rfl⟩ := hd 15 41 (by kernel_rfl)
          unfold Go.Rel.stepOf
          go_simp
          exact hK _ _ (But.refl _ _) (hI) rfl
        · intro f a w' hI hf hanc hdesc hle hs' hd K hK
          obtain ⟨_, t16, rfl⟩ := hd 16 42 (by kernel_rfl)
          obtain ⟨_, t2, rfl⟩ := hd 2 28 (by kernel_rfl)
          unfold Go.Rel.stepOf
          go_simp
          exact hK _ _ (But.refl _ _) (hI) rfl
        · intro f a w' hI hf hanc hdesc hle hs' hd K hK
          obtain ⟨_, t17, rfl⟩ := hd 17 43 (by kernel_rfl)
          obtain ⟨_, t3, rfl⟩ := hd 3 29 (by kernel_rfl)
          unfold Go.Rel.stepOf
          go_simp
          exact hK _ _ (But.refl _ _) (hI) rfl
        · intro f a w' hI hf hanc hdesc hle hs' hd K hK
          obtain ⟨_, t18, rfl⟩ := hd 18 44 (by kernel_rfl)
          obtain ⟨_, t14, rfl⟩ := hd 14 40 (by kernel_rfl)
          have ha : f 14 = true := hanc 2 14 (by kernel_rfl)
          have hI2 := hI
          rw [hf, ha] at hI2
          obtain ⟨hc3, hf3, hb3, hI3⟩ := HSt.out w' hI2
          unfold Go.Rel.stepOf
          go_simp
          refine hK _ _ hb3 ?_ rfl
          show rowI S w3 B M g N m n q Ks ls (.slice (some ⟨b, 0, none⟩) ls.length cap) True (f 14) true _
          rw [ha]
          exact hI3
      case hend6 =>
        intro f a w5 hall hI hle hs' hR'
        have hz := hall 19 (by decide)
        obtain ⟨g', hW, hb0⟩ := hI.1 hz
        have hb := hBR.out _ hb0
        have HBut5 : Hid (Kept S w w5) := Lib.hid ((Kept.of_below (HBel.out.trans (HB3.out.mono HBel.out.size))).trans hb)
        have hX5 : w5.heap[w.heap.size]? = some (.cells #[.int .i64 id] 3 (0, 0)) := (hb0.block w.heap.size (block_lt HX3.out) (fun e => (HBnd.out _ e).2 rfl)).trans HX3.out
        have HB7 : Hid (∀ w', Below w5.heap.size w5 w' → w'.cell? ⟨B, 1, none⟩ = some (.map (some M))) := Lib.hid (fun w' hb => (hW.below hb).c1)
        have HX7 : Hid (∀ w', Below w5.heap.size w5 w' → w'.cell? ⟨w.heap.size, 0, none⟩ = some (.int .i64 id)) := Lib.hid (fun w' hb => by
          rw [hb.cell (p := ⟨w.heap.size, 0, none⟩) (block_lt hX5), cell_of_row _ _ _ _ _ _ hX5]
          rfl)
        have HDl : Hid (∀ w', Below w5.heap.size w5 w' → ∃ w2, (Builtin.delete_ #[44, 3] 0 #[.map (some M), .int .i64 id]).run Try.prog w' = .ok (.tuple #[]) w2 ∧ WhIs S w2 B M g' N (upM m id none) n (upQ q Ks ls) ∧ Kept S w' w2) := Lib.hid (fun w' hb => by
          have h5 := hW.below hb
          obtain ⟨w2, hr, hm2, hg2, _⟩ := h5.map.drop hid 0
          exact ⟨w2, hr, h5.mapTurn hg2 hm2⟩)
        clear hz hI hW hb hb0 hall hle hX5
        obtain ⟨v26, s26, _⟩ := hR' 0 26 (by kernel_rfl)
        obtain ⟨v27, s27, _⟩ := hR' 1 27 (by kernel_rfl)
        obtain ⟨v28, s28, _⟩ := hR' 2 28 (by kernel_rfl)
        obtain ⟨v29, s29, _⟩ := hR' 3 29 (by kernel_rfl)
        obtain ⟨v30, s30, _⟩ := hR' 4 30 (by kernel_rfl)
        obtain ⟨v31, s31, _⟩ := hR' 5 31 (by kernel_rfl)
        obtain ⟨v32, s32, _⟩ := hR' 6 32 (by kernel_rfl)
        obtain ⟨v33, s33, _⟩ := hR' 7 33 (by kernel_rfl)
        obtain ⟨v34, s34, _⟩ := hR' 8 34 (by kernel_rfl)
        obtain ⟨v35, s35, _⟩ := hR' 9 35 (by kernel_rfl)
        obtain ⟨v36, s36, _⟩ := hR' 10 36 (by kernel_rfl)
        obtain ⟨v37, s37, _⟩ := hR' 11 37 (by kernel_rfl)
        obtain ⟨v38, s38, _⟩ := hR' 12 38 (by kernel_rfl)
        obtain ⟨v39, s39, _⟩ := hR' 13 39 (by kernel_rfl)
        obtain ⟨v40, s40, _⟩ := hR' 14 40 (by kernel_rfl)
        obtain ⟨v41, s41, _⟩ := hR' 15 41 (by kernel_rfl)
        obtain ⟨v42, s42, _⟩ := hR' 16 42 (by kernel_rfl)
        obtain ⟨v43, s43, _⟩ := hR' 17 43 (by kernel_rfl)
        obtain ⟨v44, s44, _⟩ := hR' 18 44 (by kernel_rfl)
        have e := hs'.shape
        simp only [List.toList_toArray, List.foldl, Go.Rel.reset, Array.getD_eq_getD_getElem?, s26, s27, s28, s29, s30, s31, s32, s33, s34, s35, s36, s37, s38, s39, s40, s41, s42, s43, s44, Option.getD_some] at e
        simp at e
        clear hR' hs' s26 s27 s28 s29 s30 s31 s32 s33 s34 s35 s36 s37 s38 s39 s40 s41 s42 s43 s44
        subst e
        go_wp2
        refine Go.Rel.wp_region_states (by kernel_rfl) (by kernel_rfl) (by kernel_rfl) (by kernel_rfl) (fun f w => (f 5 = true → WhIs S w B M g' N (upM m id none) n (upQ q Ks ls) ∧ Kept S w5 w) ∧ (f 5 = false → Below w5.heap.size w5 w)) (But S) (fun _ _ _ h k => h.trans k) ((But.refl _ _).drew) ⟨(fun h => by cases h), fun _ => ⟨rfl, rfl, rfl, Nat.le_refl _, fun _ _ => rfl⟩⟩ (stopC S B M w.heap.size id) (stopC_stable S B M w.heap.size id) ?hsteps7 ?hend7
        case hsteps7 =>
          refine (.cons ?_ (.cons ?_ (.cons ?_ (.cons ?_ (.cons ?_ (.cons ?_ .nil))))))
          · intro f a w' hI hf hanc hdesc hle hs' hd K hK
            have f0 : a.tmps[0]? = some (.pointer (some ⟨B, 0, none⟩)) := hs'.2.2 0 (by kernel_rfl)
            unfold Go.Rel.stepOf
            go_simp
            exact hK _ _ (But.refl _ _) (hI) rfl
          · intro f a w' hI hf hanc hdesc hle hs' hd K hK
            obtain ⟨_, t0, rfl⟩ := hd 0 45 (by kernel_rfl)
            unfold Go.Rel.stepOf
            go_simp
            exact hK _ _ (But.refl _ _) (hI) rfl
          · intro f a w' hI hf hanc hdesc hle hs' hd K hK
            obtain ⟨_, t1, rfl⟩ := hd 1 46 (by kernel_rfl)
            unfold Go.Rel.stepOf
            go_simp
            exact hK _ _ (But.refl _ _) (hI) rfl
          · intro f a w' hI hf hanc hdesc hle hs' hd K hK
            obtain ⟨_, t2, rfl⟩ := hd 2 47 (by kernel_rfl)
            have hz : f 5 = false := hdesc 3 5 (by kernel_rfl)
            have cc := HB7.out w' (hI.2 hz)
            unfold Go.Rel.stepOf
            go_simp
            exact hK _ _ (But.refl _ _) (hI) rfl
          · intro f a w' hI hf hanc hdesc hle hs' hd K hK
            have f3 : a.tmps[3]? = some (.pointer (some ⟨w.heap.size, 0, none⟩)) := hs'.2.2 3 (by kernel_rfl)
            have hz : f 5 = false := hdesc 3 5 (by kernel_rfl)
            have cc := HX7.out w' (hI.2 hz)
            unfold Go.Rel.stepOf
            go_simp
            exact hK _ _ (But.refl _ _) (hI) rfl
          · intro f a w' hI hf hanc hdesc hle hs' hd K hK
            obtain ⟨_, t3, rfl⟩ := hd 3 48 (by kernel_rfl)
            obtain ⟨_, t4, rfl⟩ := hd 4 49 (by kernel_rfl)
            obtain ⟨w3, hr3, hW3, hb3⟩ := HDl.out w' (hI.2 hf)
            exact stepOf_delete (.tmp 48) (.tmp 49) 44 3 rfl rfl (by simp [Act.eval, t3]) (by simp [Act.eval, t4]) hr3 (hK _ _ hb3.1 ⟨fun _ => ⟨hW3, (Kept.of_below (hI.2 hf)).trans hb3⟩, (fun h => by cases h)⟩ trivial)
        case hend7 =>
          intro f a w6 hall hI hle hs' hR'
          have h6 := hI.1 (hall 5 (by decide))
          have H6 := Lib.hid h6
          clear hI hall hle h6
          obtain ⟨v45, s45, _⟩ := hR' 0 45 (by kernel_rfl)
          obtain ⟨v46, s46, _⟩ := hR' 1 46 (by kernel_rfl)
          obtain ⟨v47, s47, _⟩ := hR' 2 47 (by kernel_rfl)
          obtain ⟨v48, s48, _⟩ := hR' 3 48 (by kernel_rfl)
          obtain ⟨v49, s49, _⟩ := hR' 4 49 (by kernel_rfl)
          have e := hs'.shape
          simp only [List.toList_toArray, List.foldl, Go.Rel.reset, Array.getD_eq_getD_getElem?, s45, s46, s47, s48, s49, Option.getD_some] at e
          simp at e
          clear hR' hs' s45 s46 s47 s48 s49
          subst e
          go_wp2
          go_ret
          exact ⟨rfl, g', by rw [HLs.out]; exact H6.out.1, HBut5.out.trans H6.out.2⟩
    · clear hKs
      go_wp2
      refine Go.Rel.wp_region_states (by kernel_rfl) (by kernel_rfl) (by kernel_rfl) (by kernel_rfl) (fun f w => rowI S w3 B M g N m n q Ks ls (.slice (some ⟨b, 0, none⟩) ls.length cap) True (f 14) (f 19) w) (But (Olds S w3)) (fun _ _ _ h k => h.trans k) ((But.refl _ _).drew) rowI.start (stopB S B w.heap.size Y ((1 : Nat) : Int) j 66 (66 + j) u (.slice (some ⟨b, 0, none⟩) ls.length cap)) (stopB_stable S w3 B w.heap.size Y ((1 : Nat) : Int) j 66 (66 + j) u (.slice (some ⟨b, 0, none⟩) ls.length cap)) ?hsteps6 ?hend6
      case hsteps6 =>
        refine (.cons ?_ (.cons ?_ (.cons ?_ (.cons ?_ (.cons ?_ (.cons ?_ (.cons ?_ (.cons ?_ (.cons ?_ (.cons ?_ (.cons ?_ (.cons ?_ (.cons ?_ (.cons ?_ (.cons ?_ (.cons ?_ (.cons ?_ (.cons ?_ (.cons ?_ (.cons ?_ .nil))))))))))))))))))))
        · intro f a w' hI hf hanc hdesc hle hs' hd K hK
          have f0 : a.tmps[0]? = some (.pointer (some ⟨B, 0, none⟩)) := hs'.2.2 0 (by kernel_rfl)
          unfold Go.Rel.stepOf
          go_simp
          exact hK _ _ (But.refl _ _) (hI) rfl
        · intro f a w' hI hf hanc hdesc hle hs' hd K hK
          have f5 : a.tmps[5]? = some (.pointer (some ⟨Y, 0, none⟩)) := hs'.2.2 5 (by kernel_rfl)
          unfold Go.Rel.stepOf
          go_simp
          exact hK _ _ (But.refl _ _) (hI) rfl
        · intro f a w' hI hf hanc hdesc hle hs' hd K hK
          obtain ⟨_, t1, rfl⟩ := hd 1 27 (by kernel_rfl)
          have hz : f 19 = false := hdesc 6 19 (by kernel_rfl)
          have hI2 := hI
          rw [hz] at hI2
          have cc := HY.out _ w' hI2
          unfold Go.Rel.stepOf
          go_simp
          exact hK _ _ (But.refl _ _) (hI) rfl
        · intro f a w' hI hf hanc hdesc hle hs' hd K hK
          have f7 : a.tmps[7]? = some (.int .i64 (j : Int)) := hs'.2.2 7 (by kernel_rfl)
          unfold Go.Rel.stepOf
          go_simp
          exact hK _ _ (But.refl _ _) (hI) rfl
        · intro f a w' hI hf hanc hdesc hle hs' hd K hK
          have f0 : a.tmps[0]? = some (.pointer (some ⟨B, 0, none⟩)) := hs'.2.2 0 (by kernel_rfl)
          unfold Go.Rel.stepOf
          go_simp
          exact hK _ _ (But.refl _ _) (hI) rfl
        · intro f a w' hI hf hanc hdesc hle hs' hd K hK
          have f5 : a.tmps[5]? = some (.pointer (some ⟨Y, 0, none⟩)) := hs'.2.2 5 (by kernel_rfl)
          unfold Go.Rel.stepOf
          go_simp
          exact hK _ _ (But.refl _ _) (hI) rfl
        · intro f a w' hI hf hanc hdesc hle hs' hd K hK
          obtain ⟨_, t5, rfl⟩ := hd 5 31 (by kernel_rfl)
          have hz : f 19 = false := hdesc 6 19 (by kernel_rfl)
          have hI2 := hI
          rw [hz] at hI2
          have cc := HY.out _ w' hI2
          unfold Go.Rel.stepOf
          go_simp
          exact hK _ _ (But.refl _ _) (hI) rfl
        · intro f a w' hI hf hanc hdesc hle hs' hd K hK
          have f7 : a.tmps[7]? = some (.int .i64 (j : Int)) := hs'.2.2 7 (by kernel_rfl)
          unfold Go.Rel.stepOf
          go_simp
          exact hK _ _ (But.refl _ _) (hI) rfl
        · intro f a w' hI hf hanc hdesc hle hs' hd K hK
          obtain ⟨_, t4, rfl⟩ := hd 4 30 (by kernel_rfl)
          unfold Go.Rel.stepOf
          go_simp
          exact hK _ _ (But.refl _ _) (hI) rfl
        · intro f a w' hI hf hanc hdesc hle hs' hd K hK
          obtain ⟨_, t8, rfl⟩ := hd 8 34 (by kernel_rfl)
          unfold Go.Rel.stepOf
          go_simp
          exact hK _ _ (But.refl _ _) (hI) rfl
        · intro f a w' hI hf hanc hdesc hle hs' hd K hK
          obtain ⟨_, t9, rfl⟩ := hd 9 35 (by kernel_rfl)
          obtain ⟨_, t6, rfl⟩ := hd 6 32 (by kernel_rfl)
          unfold Go.Rel.stepOf
          go_simp
          exact hK _ _ (But.refl _ _) (hI) rfl
        · intro f a w' hI hf hanc hdesc hle hs' hd K hK
          obtain ⟨_, t10, rfl⟩ := hd 10 36 (by kernel_rfl)
          obtain ⟨_, t7, rfl⟩ := hd 7 33 (by kernel_rfl)
          unfold Go.Rel.stepOf
          go_simp
          exact hK _ _ (But.refl _ _) (hI) rfl
        · intro f a w' hI hf hanc hdesc hle hs' hd K hK
          obtain ⟨_, t11, rfl⟩ := hd 11 37 (by kernel_rfl)
          have hz : f 19 = false := hdesc 3 19 (by kernel_rfl)
          have hI2 := hI
          rw [hz] at hI2
          have cc := HC.out _ w' hI2
          unfold Go.Rel.stepOf
          go_simp
          exact hK _ _ (But.refl _ _) (hI) rfl
        · intro f a w' hI hf hanc hdesc hle hs' hd K hK
          have f3 : a.tmps[3]? = some (.pointer (some ⟨w.heap.size, 0, none⟩)) := hs'.2.2 3 (by kernel_rfl)
          unfold Go.Rel.stepOf
          go_simp
          exact hK _ _ (But.refl _ _) (hI) rfl
        · intro f a w' hI hf hanc hdesc hle hs' hd K hK
          obtain ⟨_, t12, rfl⟩ := hd 12 38 (by kernel_rfl)
          obtain ⟨_, t13, rfl⟩ := hd 13 39 (by kernel_rfl)
          have hz : f 19 = false := hdesc 3 19 (by kernel_rfl)
          have hI2 := hI
          rw [hz, hf] at hI2
          unfold Go.Rel.stepOf
          go_simp
          refine (HDel.out w' hI2).mono ?_
          rintro e w2 ⟨rfl, hI3, hb3⟩
          refine hK _ _ hb3 ?_ rfl
          show rowI S w3 B M g N m n q Ks ls (.slice (some ⟨b, 0, none⟩) ls.length cap) True true (f 19) _
          rw [hz]
          exact hI3
        · intro f a w' hI hf hanc hdesc hle hs' hd K hK
          obtain ⟨_, t0, rfl⟩ := hd 0 26 (by kernel_rfl)
          unfold Go.Rel.stepOf
          go_simp
          exact hK _ _ (But.refl _ _) (hI) rfl
        · intro f a w' hI hf hanc hdesc hle hs' hd K hK
          obtain ⟨_, t15, rfl⟩ := hd 15 41 (by kernel_rfl)
          unfold Go.Rel.stepOf
          go_simp
          exact hK _ _ (But.refl _ _) (hI) rfl
        · intro f a w' hI hf hanc hdesc hle hs' hd K hK
          obtain ⟨_, t16, rfl⟩ := hd 16 42 (by kernel_rfl)
          obtain ⟨_, t2, rfl⟩ := hd 2 28 (by kernel_rfl)
          unfold Go.Rel.stepOf
          go_simp
          exact hK _ _ (But.refl _ _) (hI) rfl
        · intro f a w' hI hf hanc hdesc hle hs' hd K hK
          obtain ⟨_, t17, rfl⟩ := hd 17 43 (by kernel_rfl)
          obtain ⟨_, t3, rfl⟩ := hd 3 29 (by kernel_rfl)
          unfold Go.Rel.stepOf
          go_simp
          exact hK _ _ (But.refl _ _) (hI) rfl
        · intro f a w' hI hf hanc hdesc hle hs' hd K hK
          obtain ⟨_, t18, rfl⟩ := hd 18 44 (by kernel_rfl)
          obtain ⟨_, t14, rfl⟩ := hd 14 40 (by kernel_rfl)
          have ha : f 14 = true := hanc 2 14 (by kernel_rfl)
          have hI2 := hI
          rw [hf, ha] at hI2
          obtain ⟨hc3, hf3, hb3, hI3⟩ := HSt.out w' hI2
          unfold Go.Rel.stepOf
          go_simp
          refine hK _ _ hb3 ?_ rfl
          show rowI S w3 B M g N m n q Ks ls (.slice (some ⟨b, 0, none⟩) ls.length cap) True (f 14) true _
          rw [ha]
          exact hI3
      case hend6 =>
        intro f a w5 hall hI hle hs' hR'
        have hz := hall 19 (by decide)
        obtain ⟨g', hW, hb0⟩ := hI.1 hz
        have hb := hBR.out _ hb0
        have HBut5 : Hid (Kept S w w5) := Lib.hid ((Kept.of_below (HBel.out.trans (HB3.out.mono HBel.out.size))).trans hb)
        have hX5 : w5.heap[w.heap.size]? = some (.cells #[.int .i64 id] 3 (0, 0)) := (hb0.block w.heap.size (block_lt HX3.out) (fun e => (HBnd.out _ e).2 rfl)).trans HX3.out
        have HB7 : Hid (∀ w', Below w5.heap.size w5 w' → w'.cell? ⟨B, 1, none⟩ = some (.map (some M))) := Lib.hid (fun w' hb => (hW.below hb).c1)
        have HX7 : Hid (∀ w', Below w5.heap.size w5 w' → w'.cell? ⟨w.heap.size, 0, none⟩ = some (.int .i64 id)) := Lib.hid (fun w' hb => by
          rw [hb.cell (p := ⟨w.heap.size, 0, none⟩) (block_lt hX5), cell_of_row _ _ _ _ _ _ hX5]
          rfl)
        have HDl : Hid (∀ w', Below w5.heap.size w5 w' → ∃ w2, (Builtin.delete_ #[44, 3] 0 #[.map (some M), .int .i64 id]).run Try.prog w' = .ok (.tuple #[]) w2 ∧ WhIs S w2 B M g' N (upM m id none) n (upQ q Ks ls) ∧ Kept S w' w2) := Lib.hid (fun w' hb => by
          have h5 := hW.below hb
          obtain ⟨w2, hr, hm2, hg2, _⟩ := h5.map.drop hid 0
          exact ⟨w2, hr, h5.mapTurn hg2 hm2⟩)
        clear hz hI hW hb hb0 hall hle hX5
        obtain ⟨v26, s26, _⟩ := hR' 0 26 (by kernel_rfl)
        obtain ⟨v27, s27, _⟩ := hR' 1 27 (by kernel_rfl)
        obtain ⟨v28, s28, _⟩ := hR' 2 28 (by kernel_rfl)
        obtain ⟨v29, s29, _⟩ := hR' 3 29 (by kernel_rfl)
        obtain ⟨v30, s30, _⟩ := hR' 4 30 (by kernel_rfl)
        obtain ⟨v31, s31, _⟩ := hR' 5 31 (by kernel_rfl)
        obtain ⟨v32, s32, _⟩ := hR' 6 32 (by kernel_rfl)
        obtain ⟨v33, s33, _⟩ := hR' 7 33 (by kernel_rfl)
        obtain ⟨v34, s34, _⟩ := hR' 8 34 (by kernel_rfl)
        obtain ⟨v35, s35, _⟩ := hR' 9 35 (by kernel_rfl)
        obtain ⟨v36, s36, _⟩ := hR' 10 36 (by kernel_rfl)
        obtain ⟨v37, s37, _⟩ := hR' 11 37 (by kernel_rfl)
        obtain ⟨v38, s38, _⟩ := hR' 12 38 (by kernel_rfl)
        obtain ⟨v39, s39, _⟩ := hR' 13 39 (by kernel_rfl)
        obtain ⟨v40, s40, _⟩ := hR' 14 40 (by kernel_rfl)
        obtain ⟨v41, s41, _⟩ := hR' 15 41 (by kernel_rfl)
        obtain ⟨v42, s42, _⟩ := hR' 16 42 (by kernel_rfl)
        obtain ⟨v43, s43, _⟩ := hR' 17 43 (by kernel_rfl)
        obtain ⟨v44, s44, _⟩ := hR' 18 44 (by kernel_rfl)
        have e := hs'.shape
        simp only [List.toList_toArray, List.foldl, Go.Rel.reset, Array.getD_eq_getD_getElem?, s26, s27, s28, s29, s30, s31, s32, s33, s34, s35, s36, s37, s38, s39, s40, s41, s42, s43, s44, Option.getD_some] at e
        simp at e
        clear hR' hs' s26 s27 s28 s29 s30 s31 s32 s33 s34 s35 s36 s37 s38 s39 s40 s41 s42 s43 s44
        subst e
        go_wp2
        refine Go.Rel.wp_region_states (by kernel_rfl) (by kernel_rfl) (by kernel_rfl) (by kernel_rfl) (fun f w => (f 5 = true → WhIs S w B M g' N (upM m id none) n (upQ q Ks ls) ∧ Kept S w5 w) ∧ (f 5 = false → Below w5.heap.size w5 w)) (But S) (fun _ _ _ h k => h.trans k) ((But.refl _ _).drew) ⟨(fun h => by cases h), fun _ => ⟨rfl, rfl, rfl, Nat.le_refl _, fun _ _ => rfl⟩⟩ (stopC S B M w.heap.size id) (stopC_stable S B M w.heap.size id) ?hsteps7 ?hend7
        case hsteps7 =>
          refine (.cons ?_ (.cons ?_ (.cons ?_ (.cons ?_ (.cons ?_ (.cons ?_ .nil))))))
          · intro f a w' hI hf hanc hdesc hle hs' hd K hK
            have f0 : a.tmps[0]? = some (.pointer (some ⟨B, 0, none⟩)) := hs'.2.2 0 (by kernel_rfl)
            unfold Go.Rel.stepOf
            go_simp
            exact hK _ _ (But.refl _ _) (hI) rfl
          · intro f a w' hI hf hanc hdesc hle hs' hd K hK
            obtain ⟨_, t0, rfl⟩ := hd 0 45 (by kernel_rfl)
            unfold Go.Rel.stepOf
            go_simp
            exact hK _ _ (But.refl _ _) (hI) rfl
          · intro f a w' hI hf hanc hdesc hle hs' hd K hK
            obtain ⟨_, t1, rfl⟩ := hd 1 46 (by kernel_rfl)
            unfold Go.Rel.stepOf
            go_simp
            exact hK _ _ (But.refl _ _) (hI) rfl
          · intro f a w' hI hf hanc hdesc hle hs' hd K hK
            obtain ⟨_, t2, rfl⟩ := hd 2 47 (by kernel_rfl)
            have hz : f 5 = false := hdesc 3 5 (by kernel_rfl)
            have cc := HB7.out w' (hI.2 hz)
            unfold Go.Rel.stepOf
            go_simp
            exact hK _ _ (But.refl _ _) (hI) rfl
          · intro f a w' hI hf hanc hdesc hle hs' hd K hK
            have f3 : a.tmps[3]? = some (.pointer (some ⟨w.heap.size, 0, none⟩)) := hs'.2.2 3 (by kernel_rfl)
            have hz : f 5 = false := hdesc 3 5 (by kernel_rfl)
            have cc := HX7.out w' (hI.2 hz)
            unfold Go.Rel.stepOf
            go_simp
            exact hK _ _ (But.refl _ _) (hI) rfl
          · intro f a w' hI hf hanc hdesc hle hs' hd K hK
            obtain ⟨_, t3, rfl⟩ := hd 3 48 (by kernel_rfl)
            obtain ⟨_, t4, rfl⟩ := hd 4 49 (by kernel_rfl)
            obtain ⟨w3, hr3, hW3, hb3⟩ := HDl.out w' (hI.2 hf)
            exact stepOf_delete (.tmp 48) (.tmp 49) 44 3 rfl rfl (by simp [Act.eval, t3]) (by simp [Act.eval, t4]) hr3 (hK _ _ hb3.1 ⟨fun _ => ⟨hW3, (Kept.of_below (hI.2 hf)).trans hb3⟩, (fun h => by cases h)⟩ trivial)
        case hend7 =>
          intro f a w6 hall hI hle hs' hR'
          have h6 := hI.1 (hall 5 (by decide))
          have H6 := Lib.hid h6
          clear hI hall hle h6
          obtain ⟨v45, s45, _⟩ := hR' 0 45 (by kernel_rfl)
          obtain ⟨v46, s46, _⟩ := hR' 1 46 (by kernel_rfl)
          obtain ⟨v47, s47, _⟩ := hR' 2 47 (by kernel_rfl)
          obtain ⟨v48, s48, _⟩ := hR' 3 48 (by kernel_rfl)
          obtain ⟨v49, s49, _⟩ := hR' 4 49 (by kernel_rfl)
          have e := hs'.shape
          simp only [List.toList_toArray, List.foldl, Go.Rel.reset, Array.getD_eq_getD_getElem?, s45, s46, s47, s48, s49, Option.getD_some] at e
          simp at e
          clear hR' hs' s45 s46 s47 s48 s49
          subst e
          go_wp2
          go_ret
          exact ⟨rfl, g', by rw [HLs.out]; exact H6.out.1, HBut5.out.trans H6.out.2⟩
    · clear hKs
      go_wp2
      refine Go.Rel.wp_region_states (by kernel_rfl) (by kernel_rfl) (by kernel_rfl) (by kernel_rfl) (fun f w => rowI S w3 B M g N m n q Ks ls (.slice (some ⟨b, 0, none⟩) ls.length cap) True (f 14) (f 19) w) (But (Olds S w3)) (fun _ _ _ h k => h.trans k) ((But.refl _ _).drew) rowI.start (stopB S B w.heap.size Y ((2 : Nat) : Int) j 130 (130 + j) u (.slice (some ⟨b, 0, none⟩) ls.length cap)) (stopB_stable S w3 B w.heap.size Y ((2 : Nat) : Int) j 130 (130 + j) u (.slice (some ⟨b, 0, none⟩) ls.length cap)) ?hsteps6 ?hend6
      case hsteps6 =>
        refine (.cons ?_ (.cons ?_ (.cons ?_ (.cons ?_ (.cons ?_ (.cons ?_ (.cons ?_ (.cons ?_ (.cons ?_ (.cons ?_ (.cons ?_ (.cons ?_ (.cons ?_ (.cons ?_ (.cons ?_ (.cons ?_ (.cons ?_ (.cons ?_ (.cons ?_ (.cons ?_ .nil))))))))))))))))))))
        · intro f a w' hI hf hanc hdesc hle hs' hd K hK
          have f0 : a.tmps[0]? = some (.pointer (some ⟨B, 0, none⟩)) := hs'.2.2 0 (by kernel_rfl)
          unfold Go.Rel.stepOf
          go_simp
          exact hK _ _ (But.refl _ _) (hI) rfl
        · intro f a w' hI hf hanc hdesc hle hs' hd K hK
          have f5 : a.tmps[5]? = some (.pointer (some ⟨Y, 0, none⟩)) := hs'.2.2 5 (by kernel_rfl)
          unfold Go.Rel.stepOf
          go_simp
          exact hK _ _ (But.refl _ _) (hI) rfl
        · intro f a w' hI hf hanc hdesc hle hs' hd K hK
          obtain ⟨_, t1, rfl⟩ := hd 1 27 (by kernel_rfl)
          have hz : f 19 = false := hdesc 6 19 (by kernel_rfl)
          have hI2 := hI
          rw [hz] at hI2
          have cc := HY.out _ w' hI2
          unfold Go.Rel.stepOf
          go_simp
          exact hK _ _ (But.refl _ _) (hI) rfl
        · intro f a w' hI hf hanc hdesc hle hs' hd K hK
          have f7 : a.tmps[7]? = some (.int .i64 (j : Int)) := hs'.2.2 7 (by kernel_rfl)
          unfold Go.Rel.stepOf
          go_simp
          exact hK _ _ (But.refl _ _) (hI) rfl
        · intro f a w' hI hf hanc hdesc hle hs' hd K hK
          have f0 : a.tmps[0]? = some (.pointer (some ⟨B, 0, none⟩)) := hs'.2.2 0 (by kernel_rfl)
          unfold Go.Rel.stepOf
          go_simp
          exact hK _ _ (But.refl _ _) (hI) rfl
        · intro f a w' hI hf hanc hdesc hle hs' hd K hK
          have f5 : a.tmps[5]? = some (.pointer (some ⟨Y, 0, none⟩)) := hs'.2.2 5 (by kernel_rfl)
          unfold Go.Rel.stepOf
          go_simp
          exact hK _ _ (But.refl _ _) (hI) rfl
        · intro f a w' hI hf hanc hdesc hle hs' hd K hK
          obtain ⟨_, t5, rfl⟩ := hd 5 31 (by kernel_rfl)
          have hz : f 19 = false := hdesc 6 19 (by kernel_rfl)
          have hI2 := hI
          rw [hz] at hI2
          have cc := HY.out _ w' hI2
          unfold Go.Rel.stepOf
          go_simp
          exact hK _ _ (But.refl _ _) (hI) rfl
        · intro f a w' hI hf hanc hdesc hle hs' hd K hK
          have f7 : a.tmps[7]? = some (.int .i64 (j : Int)) := hs'.2.2 7 (by kernel_rfl)
          unfold Go.Rel.stepOf
          go_simp
          exact hK _ _ (But.refl _ _) (hI) rfl
        · intro f a w' hI hf hanc hdesc hle hs' hd K hK
          obtain ⟨_, t4, rfl⟩ := hd 4 30 (by kernel_rfl)
          unfold Go.Rel.stepOf
          go_simp
          exact hK _ _ (But.refl _ _) (hI) rfl
        · intro f a w' hI hf hanc hdesc hle hs' hd K hK
          obtain ⟨_, t8, rfl⟩ := hd 8 34 (by kernel_rfl)
          unfold Go.Rel.stepOf
          go_simp
          exact hK _ _ (But.refl _ _) (hI) rfl
        · intro f a w' hI hf hanc hdesc hle hs' hd K hK
          obtain ⟨_, t9, rfl⟩ := hd 9 35 (by kernel_rfl)
          obtain ⟨_, t6, rfl⟩ := hd 6 32 (by kernel_rfl)
          unfold Go.Rel.stepOf
          go_simp
          exact hK _ _ (But.refl _ _) (hI) rfl
        · intro f a w' hI hf hanc hdesc hle hs' hd K hK
          obtain ⟨_, t10, rfl⟩ := hd 10 36 (by kernel_rfl)
          obtain ⟨_, t7, rfl⟩ := hd 7 33 (by kernel_rfl)
          unfold Go.Rel.stepOf
          go_simp
          exact hK _ _ (But.refl _ _) (hI) rfl
        · intro f a w' hI hf hanc hdesc hle hs' hd K hK
          obtain ⟨_, t11, rfl⟩ := hd 11 37 (by kernel_rfl)
          have hz : f 19 = false := hdesc 3 19 (by kernel_rfl)
          have hI2 := hI
          rw [hz] at hI2
          have cc := HC.out _ w' hI2
          unfold Go.Rel.stepOf
          go_simp
          exact hK _ _ (But.refl _ _) (hI) rfl
        · intro f a w' hI hf hanc hdesc hle hs' hd K hK
          have f3 : a.tmps[3]? = some (.pointer (some ⟨w.heap.size, 0, none⟩)) := hs'.2.2 3 (by kernel_rfl)
          unfold Go.Rel.stepOf
          go_simp
          exact hK _ _ (But.refl _ _) (hI) rfl
        · intro f a w' hI hf hanc hdesc hle hs' hd K hK
          obtain ⟨_, t12, rfl⟩ := hd 12 38 (by kernel_rfl)
          obtain ⟨_, t13, rfl⟩ := hd 13 39 (by kernel_rfl)
          have hz : f 19 = false := hdesc 3 19 (by kernel_rfl)
          have hI2 := hI
          rw [hz, hf] at hI2
          unfold Go.Rel.stepOf
          go_simp
          refine (HDel.out w' hI2).mono ?_
          rintro e w2 ⟨rfl, hI3, hb3⟩
          refine hK _ _ hb3 ?_ rfl
          show rowI S w3 B M g N m n q Ks ls (.slice (some ⟨b, 0, none⟩) ls.length cap) True true (f 19) _
          rw [hz]
          exact hI3
        · intro f a w' hI hf hanc hdesc hle hs' hd K hK
          obtain ⟨_, t0, rfl⟩ := hd 0 26 (by kernel_rfl)
          unfold Go.Rel.stepOf
          go_simp
          exact hK _ _ (But.refl _ _) (hI) rfl
        · intro f a w' hI hf hanc hdesc hle hs' hd K hK
          obtain ⟨_, t15, rfl⟩ := hd 15 41 (by kernel_rfl)
          unfold Go.Rel.stepOf
          go_simp
          exact hK _ _ (But.refl _ _) (hI) rfl
        · intro f a w' hI hf hanc hdesc hle hs' hd K hK
          obtain ⟨_, t16, rfl⟩ := hd 16 42 (by kernel_rfl)
          obtain ⟨_, t2, rfl⟩ := hd 2 28 (by kernel_rfl)
          unfold Go.Rel.stepOf
          go_simp
          exact hK _ _ (But.refl _ _) (hI) rfl
        · intro f a w' hI hf hanc hdesc hle hs' hd K hK
          obtain ⟨_, t17, rfl⟩ := hd 17 43 (by kernel_rfl)
          obtain ⟨_, t3, rfl⟩ := hd 3 29 (by kernel_rfl)
          unfold Go.Rel.stepOf
          go_simp
          exact hK _ _ (But.refl _ _) (hI) rfl
        · intro f a w' hI hf hanc hdesc hle hs' hd K hK
          obtain ⟨_, t18, rfl⟩ := hd 18 44 (by kernel_rfl)
          obtain ⟨_, t14, rfl⟩ := hd 14 40 (by kernel_rfl)
          have ha : f 14 = true := hanc 2 14 (by kernel_rfl)
          have hI2 := hI
          rw [hf, ha] at hI2
          obtain ⟨hc3, hf3, hb3, hI3⟩ := HSt.out w' hI2
          unfold Go.Rel.stepOf
          go_simp
          refine hK _ _ hb3 ?_ rfl
          show rowI S w3 B M g N m n q Ks ls (.slice (some ⟨b, 0, none⟩) ls.length cap) True (f 14) true _
          rw [ha]
          exact hI3
      case hend6 =>
        intro f a w5 hall hI hle hs' hR'
        have hz := hall 19 (by decide)
        obtain ⟨g', hW, hb0⟩ := hI.1 hz
        have hb := hBR.out _ hb0
        have HBut5 : Hid (Kept S w w5) := Lib.hid ((Kept.of_below (HBel.out.trans (HB3.out.mono HBel.out.size))).trans hb)
        have hX5 : w5.heap[w.heap.size]? = some (.cells #[.int .i64 id] 3 (0, 0)) := (hb0.block w.heap.size (block_lt HX3.out) (fun e => (HBnd.out _ e).2 rfl)).trans HX3.out
        have HB7 : Hid (∀ w', Below w5.heap.size w5 w' → w'.cell? ⟨B, 1, none⟩ = some (.map (some M))) := Lib.hid (fun w' hb => (hW.below hb).c1)
        have HX7 : Hid (∀ w', Below w5.heap.size w5 w' → w'.cell? ⟨w.heap.size, 0, none⟩ = some (.int .i64 id)) := Lib.hid (fun w' hb => by
          rw [hb.cell (p := ⟨w.heap.size, 0, none⟩) (block_lt hX5), cell_of_row _ _ _ _ _ _ hX5]
          rfl)
        have HDl : Hid (∀ w', Below w5.heap.size w5 w' → ∃ w2, (Builtin.delete_ #[44, 3] 0 #[.map (some M), .int .i64 id]).run Try.prog w' = .ok (.tuple #[]) w2 ∧ WhIs S w2 B M g' N (upM m id none) n (upQ q Ks ls) ∧ Kept S w' w2) := Lib.hid (fun w' hb => by
          have h5 := hW.below hb
          obtain ⟨w2, hr, hm2, hg2, _⟩ := h5.map.drop hid 0
          exact ⟨w2, hr, h5.mapTurn hg2 hm2⟩)
        clear hz hI hW hb hb0 hall hle hX5
        obtain ⟨v26, s26, _⟩ := hR' 0 26 (by kernel_rfl)
        obtain ⟨v27, s27, _⟩ := hR' 1 27 (by kernel_rfl)
        obtain ⟨v28, s28, _⟩ := hR' 2 28 (by kernel_rfl)
        obtain ⟨v29, s29, _⟩ := hR' 3 29 (by kernel_rfl)
        obtain ⟨v30, s30, _⟩ := hR' 4 30 (by kernel_rfl)
        obtain ⟨v31, s31, _⟩ := hR' 5 31 (by kernel_rfl)
        obtain ⟨v32, s32, _⟩ := hR' 6 32 (by kernel_rfl)
        obtain ⟨v33, s33, _⟩ := hR' 7 33 (by kernel_rfl)
        obtain ⟨v34, s34, _⟩ := hR' 8 34 (by kernel_rfl)
        obtain ⟨v35, s35, _⟩ := hR' 9 35 (by kernel_rfl)
        obtain ⟨v36, s36, _⟩ := hR' 10 36 (by kernel_rfl)
        obtain ⟨v37, s37, _⟩ := hR' 11 37 (by kernel_rfl)
        obtain ⟨v38, s38, _⟩ := hR' 12 38 (by kernel_rfl)
        obtain ⟨v39, s39, _⟩ := hR' 13 39 (by kernel_rfl)
        obtain ⟨v40, s40, _⟩ := hR' 14 40 (by kernel_rfl)
        obtain ⟨v41, s41, _⟩ := hR' 15 41 (by kernel_rfl)
        obtain ⟨v42, s42, _⟩ := hR' 16 42 (by kernel_rfl)
        obtain ⟨v43, s43, _⟩ := hR' 17 43 (by kernel_rfl)
        obtain ⟨v44, s44, _⟩ := hR' 18 44 (by kernel_rfl)
        have e := hs'.shape
        simp only [List.toList_toArray, List.foldl, Go.Rel.reset, Array.getD_eq_getD_getElem?, s26, s27, s28, s29, s30, s31, s32, s33, s34, s35, s36, s37, s38, s39, s40, s41, s42, s43, s44, Option.getD_some] at e
        simp at e
        clear hR' hs' s26 s27 s28 s29 s30 s31 s32 s33 s34 s35 s36 s37 s38 s39 s40 s41 s42 s43 s44
        subst e
        go_wp2
        refine Go.Rel.wp_region_states (by kernel_rfl) (by kernel_rfl) (by kernel_rfl) (by kernel_rfl) (fun f w => (f 5 = true → WhIs S w B M g' N (upM m id none) n (upQ q Ks ls) ∧ Kept S w5 w) ∧ (f 5 = false → Below w5.heap.size w5 w)) (But S) (fun _ _ _ h k => h.trans k) ((But.refl _ _).drew) ⟨(fun h => by cases h), fun _ => ⟨rfl, rfl, rfl, Nat.le_refl _, fun _ _ => rfl⟩⟩ (stopC S B M w.heap.size id) (stopC_stable S B M w.heap.size id) ?hsteps7 ?hend7
        case hsteps7 =>
          refine (.cons ?_ (.cons ?_ (.cons ?_ (.cons ?_ (.cons ?_ (.cons ?_ .nil))))))
          · intro f a w' hI hf hanc hdesc hle hs' hd K hK
            have f0 : a.tmps[0]? = some (.pointer (some ⟨B, 0, none⟩)) := hs'.2.2 0 (by kernel_rfl)
            unfold Go.Rel.stepOf
            go_simp
            exact hK _ _ (But.refl _ _) (hI) rfl
          · intro f a w' hI hf hanc hdesc hle hs' hd K hK
            obtain ⟨_, t0, rfl⟩ := hd 0 45 (by kernel_rfl)
            unfold Go.Rel.stepOf
            go_simp
            exact hK _ _ (But.refl _ _) (hI) rfl
          · intro f a w' hI hf hanc hdesc hle hs' hd K hK
            obtain ⟨_, t1, rfl⟩ := hd 1 46 (by kernel_rfl)
            unfold Go.Rel.stepOf
            go_simp
            exact hK _ _ (But.refl _ _) (hI) rfl
          · intro f a w' hI hf hanc hdesc hle hs' hd K hK
            obtain ⟨_, t2, rfl⟩ := hd 2 47 (by kernel_rfl)
            have hz : f 5 = false := hdesc 3 5 (by kernel_rfl)
            have cc := HB7.out w' (hI.2 hz)
            unfold Go.Rel.stepOf
            go_simp
            exact hK _ _ (But.refl _ _) (hI) rfl
          · intro f a w' hI hf hanc hdesc hle hs' hd K hK
            have f3 : a.tmps[3]? = some (.pointer (some ⟨w.heap.size, 0, none⟩)) := hs'.2.2 3 (by kernel_rfl)
            have hz : f 5 = false := hdesc 3 5 (by kernel_rfl)
            have cc := HX7.out w' (hI.2 hz)
            unfold Go.Rel.stepOf
            go_simp
            exact hK _ _ (But.refl _ _) (hI) rfl
          · intro f a w' hI hf hanc hdesc hle hs' hd K hK
            obtain ⟨_, t3, rfl⟩ := hd 3 48 (by kernel_rfl)
            obtain ⟨_, t4, rfl⟩ := hd 4 49 (by kernel_rfl)
            obtain ⟨w3, hr3, hW3, hb3⟩ := HDl.out w' (hI.2 hf)
            exact stepOf_delete (.tmp 48) (.tmp 49) 44 3 rfl rfl (by simp [Act.eval, t3]) (by simp [Act.eval, t4]) hr3 (hK _ _ hb3.1 ⟨fun _ => ⟨hW3, (Kept.of_below (hI.2 hf)).trans hb3⟩, (fun h => by cases h)⟩ trivial)
        case hend7 =>
          intro f a w6 hall hI hle hs' hR'
          have h6 := hI.1 (hall 5 (by decide))
          have H6 := Lib.hid h6
          clear hI hall hle h6
          obtain ⟨v45, s45, _⟩ := hR' 0 45 (by kernel_rfl)
          obtain ⟨v46, s46, _⟩ := hR' 1 46 (by kernel_rfl)
          obtain ⟨v47, s47, _⟩ := hR' 2 47 (by kernel_rfl)
          obtain ⟨v48, s48, _⟩ := hR' 3 48 (by kernel_rfl)
          obtain ⟨v49, s49, _⟩ := hR' 4 49 (by kernel_rfl)
          have e := hs'.shape
          simp only [List.toList_toArray, List.foldl, Go.Rel.reset, Array.getD_eq_getD_getElem?, s45, s46, s47, s48, s49, Option.getD_some] at e
          simp at e
          clear hR' hs' s45 s46 s47 s48 s49
          subst e
          go_wp2
          go_ret
          exact ⟨rfl, g', by rw [HLs.out]; exact H6.out.1, HBut5.out.trans H6.out.2⟩
end Go.Proofs.Ytcekpkjibabjmaa
