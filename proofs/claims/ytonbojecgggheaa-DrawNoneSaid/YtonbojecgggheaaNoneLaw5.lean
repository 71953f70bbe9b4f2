/-
  Draws that are not there, and such as no call made, give 0: the law sodalitylaw05.DrawNone over the contracts.
-/
import Derived.Test.YtonbojecgggheaaSameLaw5
namespace Go.Proofs.Ytonbojecgggheaa
open Go.RowKit
set_option linter.unusedSimpArgs false

def noD : Dr := ⟨[], 0⟩
theorem noD_spent (n : Int) : noD.spent n := .inr (by simp [noD])
theorem noD_below (n : Int) : noD.below n = 0 := by rw [Dr.below, if_pos (noD_spent n)]
theorem noD_next (n : Int) : noD.next n = noD := by rw [Dr.next, if_pos (noD_spent n)]
theorem noD_ordGo : ∀ (i : Nat) (l : List Nat), (ordGo i l noD).2 = noD
  | 0, _ => rfl
  | i + 1, l => by rw [ordGo, noD_next]; exact noD_ordGo i _
theorem noD_afterO (n : Int) : noD.afterO n = noD := noD_ordGo _ _
theorem noD_ok : okD noD := ⟨(fun x h => by cases h), by simp [noD], by simp [noD]⟩
def noneR (S : Nat → Prop) (b0 : Nat) (b2 : Nat) (bw : Nat) (k : Nat) (pv : Value) (x : Stp) (xs : List Nat) (ys : List Nat) : Nat → Value → World → Prop
  | 0, v, _ => v = .slice (some ⟨b2, 0, none⟩) 2 2
  | 1, v, _ => v = .int .i64 (k : Int)
  | 2, v, _ => v = .pointer (some ⟨b2, k, none⟩)
  | 3, v, _ => v = pv
  | 4, v, _ => v = .pointer (some ⟨b0, 1, none⟩)
  | 5, v, _ => v = .int .i64 x.n
  | 6, v, _ => v = .int .i64 0
  | 7, v, _ => v = .bool false
  | 8, v, _ => v = .bool false
  | 9, v, _ => v = .slice (some ⟨b2, 0, none⟩) 2 2
  | 10, v, _ => v = .int .i64 (k : Int)
  | 11, v, _ => v = .pointer (some ⟨b2, k, none⟩)
  | 12, v, _ => v = pv
  | 13, v, _ => v = .pointer (some ⟨b0, 1, none⟩)
  | 14, v, _ => v = .int .i64 x.n
  | 15, v, w => ∃ A c, v = .slice A xs.length c ∧ RVn S w A xs.length (xs.map iV)
  | 16, v, _ => v = .pointer (some ⟨bw, 0, none⟩)
  | 17, v, _ => v = .pointer (some ⟨b0, 1, none⟩)
  | 18, v, _ => v = .int .i64 x.n
  | 19, v, w => ∃ A c, v = .slice A xs.length c ∧ RVn S w A xs.length (xs.map iV)
  | 20, v, _ => v = .bool true
  | 21, v, _ => v = .bool false
  | 22, v, _ => v = .bool false
  | 23, v, _ => v = .bool false
  | 24, v, _ => v = .slice (some ⟨b2, 0, none⟩) 2 2
  | 25, v, _ => v = .int .i64 (k : Int)
  | 26, v, _ => v = .pointer (some ⟨b2, k, none⟩)
  | 27, v, _ => v = pv
  | 28, v, _ => v = .pointer (some ⟨b0, 1, none⟩)
  | 29, v, _ => v = .int .i64 x.n
  | 30, v, _ => v = .pointer (some ⟨b0, 2, none⟩)
  | 31, v, _ => v = .int .i64 x.k
  | 32, v, w => ∃ A c, v = .slice A ys.length c ∧ RVn S w A ys.length (ys.map iV)
  | 33, v, _ => v = .pointer (some ⟨bw, 0, none⟩)
  | 34, v, _ => v = .pointer (some ⟨b0, 1, none⟩)
  | 35, v, _ => v = .int .i64 x.n
  | 36, v, _ => v = .pointer (some ⟨b0, 2, none⟩)
  | 37, v, _ => v = .int .i64 x.k
  | 38, v, w => ∃ A c, v = .slice A ys.length c ∧ RVn S w A ys.length (ys.map iV)
  | 39, v, _ => v = .bool true
  | 40, v, _ => v = .bool false
  | 41, v, _ => v = .bool false
  | 42, v, _ => v = .bool false
  | 43, v, _ => v = .slice (some ⟨b2, 0, none⟩) 2 2
  | 44, v, _ => v = .int .i64 (k : Int)
  | 45, v, _ => v = .pointer (some ⟨b2, k, none⟩)
  | 46, v, _ => v = pv
  | 47, v, _ => v = .int .i64 0
  | 48, v, _ => v = .bool false
  | 49, v, _ => v = .bool false
  | 50, v, _ => v = .bool false
  | 51, v, _ => v = .slice (some ⟨b2, 0, none⟩) 2 2
  | 52, v, _ => v = .int .i64 (k : Int)
  | 53, v, _ => v = .pointer (some ⟨b2, k, none⟩)
  | 54, v, _ => v = pv
  | 55, v, _ => v = .int .i64 0
  | 56, v, _ => v = .bool false
  | 57, v, _ => v = .bool false
  | _, _, _ => True
theorem noneR_stable (S : Nat → Prop) (b0 : Nat) (b2 : Nat) (bw : Nat) (k : Nat) (pv : Value) (x : Stp) (xs : List Nat) (ys : List Nat) : ∀ i v w w', noneR S b0 b2 bw k pv x xs ys i v w → But S w w' → noneR S b0 b2 bw k pv x xs ys i v w'
  | 0, _, _, _, h, _ | 1, _, _, _, h, _ | 2, _, _, _, h, _ | 3, _, _, _, h, _ | 4, _, _, _, h, _ | 5, _, _, _, h, _ | 6, _, _, _, h, _ | 7, _, _, _, h, _ | 8, _, _, _, h, _ | 9, _, _, _, h, _ | 10, _, _, _, h, _ | 11, _, _, _, h, _ | 12, _, _, _, h, _ | 13, _, _, _, h, _ | 14, _, _, _, h, _ | 16, _, _, _, h, _ | 17, _, _, _, h, _ | 18, _, _, _, h, _ | 20, _, _, _, h, _ | 21, _, _, _, h, _ | 22, _, _, _, h, _ | 23, _, _, _, h, _ | 24, _, _, _, h, _ | 25, _, _, _, h, _ | 26, _, _, _, h, _ | 27, _, _, _, h, _ | 28, _, _, _, h, _ | 29, _, _, _, h, _ | 30, _, _, _, h, _ | 31, _, _, _, h, _ | 33, _, _, _, h, _ | 34, _, _, _, h, _ | 35, _, _, _, h, _ | 36, _, _, _, h, _ | 37, _, _, _, h, _ | 39, _, _, _, h, _ | 40, _, _, _, h, _ | 41, _, _, _, h, _ | 42, _, _, _, h, _ | 43, _, _, _, h, _ | 44, _, _, _, h, _ | 45, _, _, _, h, _ | 46, _, _, _, h, _ | 47, _, _, _, h, _ | 48, _, _, _, h, _ | 49, _, _, _, h, _ | 50, _, _, _, h, _ | 51, _, _, _, h, _ | 52, _, _, _, h, _ | 53, _, _, _, h, _ | 54, _, _, _, h, _ | 55, _, _, _, h, _ | 56, _, _, _, h, _ | 57, _, _, _, h, _ => h
  | 15, _, _, _, ⟨A, c, e, h⟩, g | 19, _, _, _, ⟨A, c, e, h⟩, g | 32, _, _, _, ⟨A, c, e, h⟩, g | 38, _, _, _, ⟨A, c, e, h⟩, g => ⟨A, c, e, h.but g⟩
  | _ + 58, _, _, _, h, _ => h

set_option maxHeartbeats 16000000 in
set_option maxRecDepth 100000 in
theorem none_walk (x : Stp) (w : World) (hx : okStp x) :
    Calls Try.prog 7 #[.agg #[.int .i64 x.kind, .int .i64 x.n, .int .i64 x.k]] w fun e w' => e = .returned (.bool true) ∧ Below w.heap.size w w' := by
  have HWk := Lib.hid (fun w => works_any w)
  have hn63 := hx.2.1.2
  clear hx
  go_enter Try.func7, Try.ntmps7
  go_wp2
  obtain ⟨W3, hW3⟩ : ∃ W3, ((w.alloc (.cells #[.int .i64 x.kind, .int .i64 x.n, .int .i64 x.k] 29)).alloc (.cells #[.slice none 0 0, .int .i64 0] 43)).alloc (.cells #[.pointer none, .pointer (some ⟨w.heap.size + 1, 0, none⟩)] 24) = W3 := ⟨_, rfl⟩
  rw [hW3]
  have hs3 : W3.heap.size = w.heap.size + 3 := by rw [← hW3]; simp
  have hB3 : Below w.heap.size w W3 := by
    rw [← hW3]
    exact (((Below.refl _ w).alloc (Nat.le_refl _) _).alloc (by simp) _).alloc (by simp; omega) _
  obtain ⟨b0, hb0⟩ : ∃ b0, w.heap.size = b0 := ⟨_, rfl⟩
  have k0 : W3.heap[b0]? = some (.cells #[.int .i64 x.kind, .int .i64 x.n, .int .i64 x.k] 29 (0, 0)) := by
    rw [← hW3, ← hb0, Below.heap_alloc _ _ _ (by simp; omega), Below.heap_alloc _ _ _ (by simp)]
    exact heap_alloc_new w _
  have k1 : W3.heap[b0 + 1]? = some (.cells #[.slice none 0 0, .int .i64 0] 43 (0, 0)) := by
    rw [← hW3, ← hb0, Below.heap_alloc _ _ _ (by simp)]
    have := heap_alloc_new (w.alloc (.cells #[.int .i64 x.kind, .int .i64 x.n, .int .i64 x.k] 29)) (.cells #[.slice none 0 0, .int .i64 0] 43)
    simpa using this
  have k2 : W3.heap[b0 + 1 + 1]? = some (.cells #[.pointer none, .pointer (some ⟨b0 + 1, 0, none⟩)] 24 (0, 0)) := by
    rw [← hW3, ← hb0]
    have := heap_alloc_new ((w.alloc (.cells #[.int .i64 x.kind, .int .i64 x.n, .int .i64 x.k] 29)).alloc (.cells #[.slice none 0 0, .int .i64 0] 43)) (.cells #[.pointer none, .pointer (some ⟨w.heap.size + 1, 0, none⟩)] 24)
    simpa using this
  obtain ⟨b1, hb1⟩ : ∃ b1, b0 + 1 = b1 := ⟨_, rfl⟩
  obtain ⟨b2, hb2⟩ : ∃ b2, b1 + 1 = b2 := ⟨_, rfl⟩
  rw [hb0]
  simp only [hb1] at k1 k2 ⊢
  simp only [hb2] at k2 ⊢
  have HC3 : Hid (∀ w', But (· = b1) W3 w' → w'.cell? ⟨b0, 1, none⟩ = some (.int .i64 x.n) ∧ w'.cell? ⟨b0, 2, none⟩ = some (.int .i64 x.k) ∧ w'.cell? ⟨b2, 0, none⟩ = some (.pointer none) ∧ w'.cell? ⟨b2, 1, none⟩ = some (.pointer (some ⟨b1, 0, none⟩))) := Lib.hid (by
    intro w' hb
    have j0 := (hb.block b0 (by omega) (by omega)).trans k0
    have j2 := (hb.block b2 (by omega) (by omega)).trans k2
    exact ⟨by rw [cell_of_row _ _ _ _ _ _ j0]; rfl, by rw [cell_of_row _ _ _ _ _ _ j0]; rfl, by rw [cell_of_row _ _ _ _ _ _ j2]; rfl, by rw [cell_of_row _ _ _ _ _ _ j2]; rfl⟩)
  have HDr : Hid (DwAt (· = b1) W3 (.pointer (some ⟨b1, 0, none⟩)) noD) := Lib.hid ⟨noD_ok, .inr ⟨b1, none, 0, 0, rfl, rfl, k1, ⟨RV.zero _ _, fun _ _ _ h => absurd h (by omega)⟩, Nat.le_refl _, Nat.zero_le _⟩⟩
  have HB3 : Hid (Below b0 w W3) := Lib.hid (by rw [← hb0]; exact hB3)
  have HG := Lib.hid hb0
  have hlt1 : b0 < b1 ∧ b1 < b2 ∧ b2 < W3.heap.size := by omega
  clear hW3 hs3 hB3 k0 k1 k2 hb0 hb1 hb2
  go_loopw [5] (fun kv wr => ∃ k : Nat, k ≤ 2 ∧ kv = .int .i64 (k : Int) ∧ Hid (DwAt (· = b1) wr (.pointer (some ⟨b1, 0, none⟩)) noD) ∧ Hid (But (· = b1) W3 wr)) (fun kv _ => 2 - (intOf kv).toNat)
  case atStart => exact ⟨0, by omega, rfl, HDr, Lib.hid (But.refl _ _)⟩
  case round =>
    obtain ⟨k, hk, rfl, hd, hbut⟩ := hrel
    by_cases hlt : k < 2
    · have s1 := rnew_any (· = b1) none 0 0 [] wr ⟨RV.zero _ _, fun _ _ _ h => absurd h (by omega)⟩ (Nat.le_refl _) (Nat.zero_le _) (by simp)
      have S1 := Lib.hid s1
      have hsz := hbut.out.size
      clear s1
      go_wp2_with fail
      refine S1.out.mono ?_
      rintro e w2 ⟨bw, rfl, hbw, hbwl, hrw, hb2⟩
      have hbut2 : But (· = b1) W3 w2 := hbut.out.trans (But.of_below hb2)
      have HBut2 := Lib.hid hbut2
      obtain ⟨pv, hv⟩ : ∃ v : Value, (if k = 0 then .pointer none else .pointer (some ⟨b1, 0, none⟩)) = v := ⟨_, rfl⟩
      have HTv : Hid (∀ i, Tgt pv i → i = b1) := Lib.hid (fun i h => by
        rw [← hv] at h
        split at h
        · cases h
        · exact tgt_eq h)
      obtain ⟨S, hSS⟩ : ∃ S : Nat → Prop, (fun i => Tgt pv i ∨ i = bw) = S := ⟨_, rfl⟩
      have HSm : Hid (∀ i, S i → i = b1 ∨ i = bw) := Lib.hid (fun i h => by rw [← hSS] at h; exact h.imp (HTv.out i) id)
      have HSz : Hid (k = 0 → ∀ i, S i → i = bw) := Lib.hid (fun hk0 i h => by
        rw [← hSS] at h
        rcases h with h | h
        · rw [if_pos hk0] at hv
          rw [← hv] at h
          cases h
        · exact h)
      have HT : Hid ((∀ i, Tgt pv i → S i) ∧ (∀ i, i = bw → S i)) := Lib.hid (by rw [← hSS]; exact ⟨fun i h => .inl h, fun i h => .inr h⟩)
      have HNe : Hid (¬ Tgt pv bw) := Lib.hid (fun h => by have := HTv.out _ h; omega)
      have HSlt : Hid (∀ i, S i → i < w2.heap.size) := Lib.hid (fun i h => by have := HSm.out i h; have := hb2.size; omega)
      have HDb : Hid (DwAt (fun i => i = b1 ∨ i = bw) w2 (.pointer (some ⟨b1, 0, none⟩)) noD) := Lib.hid ((hd.out.narrow (fun i hi h => h.resolve_right (by omega)) (fun i h => .inl (tgt_eq h))).below hb2)
      have HDv : Hid (DwAt S w2 pv noD) := Lib.hid (by
        by_cases hk0 : k = 0
        · rw [if_pos hk0] at hv
          exact ⟨noD_ok, .inl ⟨hv.symm, rfl⟩⟩
        · rw [if_neg hk0] at hv
          rw [← hv]
          exact HDb.out.narrow (fun i _ h => HSm.out i h) (fun i h => HT.out.1 i (hv ▸ h)))
      have HRw : Hid (RwAt S w2 bw noD) := Lib.hid (hrw.narrow (fun i hi h => by
        rcases HSm.out i h with e | e
        · exact .inl e
        · exact .inr (by omega)) (HT.out.2 _ rfl))
      have HC : Hid (∀ w', But S w2 w' → w'.cell? ⟨b0, 1, none⟩ = some (.int .i64 x.n) ∧ w'.cell? ⟨b0, 2, none⟩ = some (.int .i64 x.k) ∧ w'.cell? ⟨b2, k, none⟩ = some pv) := Lib.hid (fun w' h => by
        obtain ⟨j0, j1, j2, j3⟩ := HC3.out w' (HBut2.out.then_ h (fun i hi hlt => by
          rcases HSm.out i hi with e | e
          · exact e
          · omega))
        refine ⟨j0, j1, ?_⟩
        rw [← hv]
        have hk01 : k = 0 ∨ k = 1 := by omega
        rcases hk01 with rfl | rfl
        · exact j2
        · exact j3)
      obtain ⟨xs, hxs⟩ : ∃ xs, noD.order x.n = xs := ⟨_, rfl⟩
      obtain ⟨ys, hys⟩ : ∃ ys, noD.some_ x.n x.k = ys := ⟨_, rfl⟩
      have HLen : Hid (xs.length ≤ 140737488355328 ∧ ys.length ≤ 140737488355328) := Lib.hid (by
        have h1 := order_length x.n noD
        have h2 := sizeO_le x.n
        rw [← hxs, ← hys, Dr.some_, List.length_take]
        omega)
      have HBel : Hid (∀ w', DwAt S w' pv noD → Calls Try.prog 10 #[pv, .int .i64 x.n] w' fun e w2 => e = .returned (.int .i64 0) ∧ DwAt S w2 pv noD ∧ But (Tgt pv) w' w2) := Lib.hid (fun w' h => by
        have := below_any S pv noD x.n w' h hn63
        rw [noD_below, noD_next] at this
        exact this)
      have HOrd : Hid ((∀ w', DwAt S w' pv noD → Calls Try.prog 13 #[pv, .int .i64 x.n] w' fun e w2 => RowOf w' xs e w2 ∧ DwAt S w2 pv noD ∧ But (Tgt pv) w' w2) ∧
        (∀ w', RwAt S w' bw noD → Calls Try.prog 14 #[.pointer (some ⟨bw, 0, none⟩), .int .i64 x.n] w' fun e w2 => RowOf w' xs e w2 ∧ RwAt S w2 bw noD ∧ But (· = bw) w' w2)) := Lib.hid (by
        refine ⟨fun w' h => ?_, fun w' h => ?_⟩
        · have := order_any S pv noD x.n w' h
          rw [noD_afterO, hxs] at this
          exact this
        · have := rorder_any S bw noD x.n w' h
          rw [noD_afterO, hxs] at this
          exact this)
      have HSom : Hid ((∀ w', DwAt S w' pv noD → Calls Try.prog 15 #[pv, .int .i64 x.n, .int .i64 x.k] w' fun e w2 => RowOf w' ys e w2 ∧ DwAt S w2 pv noD ∧ But (Tgt pv) w' w2) ∧
        (∀ w', RwAt S w' bw noD → Calls Try.prog 16 #[.pointer (some ⟨bw, 0, none⟩), .int .i64 x.n, .int .i64 x.k] w' fun e w2 => RowOf w' ys e w2 ∧ RwAt S w2 bw noD ∧ But (· = bw) w' w2)) := Lib.hid (by
        refine ⟨fun w' h => ?_, fun w' h => ?_⟩
        · have := some_any S pv noD x.n x.k w' h
          rw [noD_afterO, hys] at this
          exact this
        · have := rsome_any S bw noD x.n x.k w' h
          rw [noD_afterO, hys] at this
          exact this)
      have HSame : Hid (∀ A B c d (l : List Nat) (_ : l.length ≤ 140737488355328) w', RV w' A l.length (l.map iV) → RV w' B l.length (l.map iV) → Calls Try.prog 12 #[.slice A l.length c, .slice B l.length d] w' fun e w2 => e = .returned (.bool true) ∧ Below w'.heap.size w' w2) := Lib.hid (fun A B c d l hl w' h h' => same_any A B _ c d l w' h h' hl)
      have HK : Hid ((0 : Int) ≤ (k : Int) ∧ (k : Int) < 2) := Lib.hid ⟨by omega, by omega⟩
      have HHv := Lib.hid hv
      clear hrw hb2 hbut2 hSS hxs hys hv S1
      go_wp2
      refine Go.Rel.wp_region_states (by kernel_rfl) (by kernel_rfl) (by kernel_rfl) (by kernel_rfl) (fun _ w => DwAt S w pv noD ∧ RwAt S w bw noD) (But S) (fun _ _ _ h k => h.trans k) ((But.refl _ _).drew) ⟨HDv.out, HRw.out⟩ (noneR S b0 b2 bw k pv x xs ys) (noneR_stable S b0 b2 bw k pv x xs ys) ?hsteps ?hend
      case hsteps =>
        refine (.cons ?_ (.cons ?_ (.cons ?_ (.cons ?_ (.cons ?_ (.cons ?_ (.cons ?_ (.cons ?_ (.cons ?_ (.cons ?_ (.cons ?_ (.cons ?_ (.cons ?_ (.cons ?_ (.cons ?_ (.cons ?_ (.cons ?_ (.cons ?_ (.cons ?_ (.cons ?_ (.cons ?_ (.cons ?_ (.cons ?_ (.cons ?_ (.cons ?_ (.cons ?_ (.cons ?_ (.cons ?_ (.cons ?_ (.cons ?_ (.cons ?_ (.cons ?_ (.cons ?_ (.cons ?_ (.cons ?_ (.cons ?_ (.cons ?_ (.cons ?_ (.cons ?_ (.cons ?_ (.cons ?_ (.cons ?_ (.cons ?_ (.cons ?_ (.cons ?_ (.cons ?_ (.cons ?_ (.cons ?_ (.cons ?_ (.cons ?_ (.cons ?_ (.cons ?_ (.cons ?_ (.cons ?_ (.cons ?_ (.cons ?_ (.cons ?_ (.cons ?_ .nil))))))))))))))))))))))))))))))))))))))))))))))))))))))))))
        · intro f a w' hI hf hanc hdesc hle hs' hd K hK
          have f4 : a.tmps[4]? = some (.slice (some ⟨b2, 0, none⟩) 2 2) := hs'.2.2 4 (by kernel_rfl)
          unfold Go.Rel.stepOf
          go_simp
          exact hK _ _ (But.refl _ _) (hI) rfl
        · intro f a w' hI hf hanc hdesc hle hs' hd K hK
          have f5 : a.tmps[5]? = some (.int .i64 (k : Int)) := hs'.2.2 5 (by kernel_rfl)
          unfold Go.Rel.stepOf
          go_simp
          exact hK _ _ (But.refl _ _) (hI) rfl
        · intro f a w' hI hf hanc hdesc hle hs' hd K hK
          obtain ⟨_, t0, rfl⟩ := hd 0 18 (by kernel_rfl)
          obtain ⟨_, t1, rfl⟩ := hd 1 19 (by kernel_rfl)
          have q1 := HK.out.1
          have q2 := HK.out.2
          unfold Go.Rel.stepOf
          go_simp
          exact hK _ _ (But.refl _ _) (hI) rfl
        · intro f a w' hI hf hanc hdesc hle hs' hd K hK
          obtain ⟨_, t2, rfl⟩ := hd 2 20 (by kernel_rfl)
          have cc := (HC.out w' hle).2.2
          unfold Go.Rel.stepOf
          go_simp
          exact hK _ _ (But.refl _ _) (hI) rfl
        · intro f a w' hI hf hanc hdesc hle hs' hd K hK
          have f1 : a.tmps[1]? = some (.pointer (some ⟨b0, 0, none⟩)) := hs'.2.2 1 (by kernel_rfl)
          unfold Go.Rel.stepOf
          go_simp
          exact hK _ _ (But.refl _ _) (hI) rfl
        · intro f a w' hI hf hanc hdesc hle hs' hd K hK
          obtain ⟨_, t4, rfl⟩ := hd 4 22 (by kernel_rfl)
          have cc := (HC.out w' hle).1
          unfold Go.Rel.stepOf
          go_simp
          exact hK _ _ (But.refl _ _) (hI) rfl
        · intro f a w' hI hf hanc hdesc hle hs' hd K hK
          obtain ⟨_, t3, rfl⟩ := hd 3 21 (by kernel_rfl)
          obtain ⟨_, t5, rfl⟩ := hd 5 23 (by kernel_rfl)
          unfold Go.Rel.stepOf
          go_simp
          refine (HBel.out w' hI.1).mono ?_
          rintro e w2 ⟨rfl, hr5, hb5⟩
          have hbS : But S w' w2 := hb5.mono HT.out.1
          exact hK _ _ hbS ⟨hr5, hI.2.but hb5 HT.out.1 (fun h => HNe.out h)⟩ rfl
        · intro f a w' hI hf hanc hdesc hle hs' hd K hK
          obtain ⟨_, t6, rfl⟩ := hd 6 24 (by kernel_rfl)
          unfold Go.Rel.stepOf
          go_simp
          exact hK _ _ (But.refl _ _) (hI) rfl
        · intro f a w' hI hf hanc hdesc hle hs' hd K hK
          obtain ⟨_, t7, rfl⟩ := hd 7 25 (by kernel_rfl)
          unfold Go.Rel.stepOf
          go_simp
          exact hK _ _ (But.refl _ _) (hI) rfl
        · intro f a w' hI hf hanc hdesc hle hs' hd K hK
          obtain ⟨_, tg, rfl⟩ := hd 8 26 (by kernel_rfl)
          have f4 : a.tmps[4]? = some (.slice (some ⟨b2, 0, none⟩) 2 2) := hs'.2.2 4 (by kernel_rfl)
          unfold Go.Rel.stepOf
          go_simp
          exact hK _ _ (But.refl _ _) (hI) rfl
        · intro f a w' hI hf hanc hdesc hle hs' hd K hK
          obtain ⟨_, tg, rfl⟩ := hd 8 26 (by kernel_rfl)
          have f5 : a.tmps[5]? = some (.int .i64 (k : Int)) := hs'.2.2 5 (by kernel_rfl)
          unfold Go.Rel.stepOf
          go_simp
          exact hK _ _ (But.refl _ _) (hI) rfl
        · intro f a w' hI hf hanc hdesc hle hs' hd K hK
          obtain ⟨_, tg, rfl⟩ := hd 8 26 (by kernel_rfl)
          obtain ⟨_, t9, rfl⟩ := hd 9 27 (by kernel_rfl)
          obtain ⟨_, t10, rfl⟩ := hd 10 28 (by kernel_rfl)
          have q1 := HK.out.1
          have q2 := HK.out.2
          unfold Go.Rel.stepOf
          go_simp
          exact hK _ _ (But.refl _ _) (hI) rfl
        · intro f a w' hI hf hanc hdesc hle hs' hd K hK
          obtain ⟨_, tg, rfl⟩ := hd 8 26 (by kernel_rfl)
          obtain ⟨_, t11, rfl⟩ := hd 11 29 (by kernel_rfl)
          have cc := (HC.out w' hle).2.2
          unfold Go.Rel.stepOf
          go_simp
          exact hK _ _ (But.refl _ _) (hI) rfl
        · intro f a w' hI hf hanc hdesc hle hs' hd K hK
          obtain ⟨_, tg, rfl⟩ := hd 8 26 (by kernel_rfl)
          have f1 : a.tmps[1]? = some (.pointer (some ⟨b0, 0, none⟩)) := hs'.2.2 1 (by kernel_rfl)
          unfold Go.Rel.stepOf
          go_simp
          exact hK _ _ (But.refl _ _) (hI) rfl
        · intro f a w' hI hf hanc hdesc hle hs' hd K hK
          obtain ⟨_, tg, rfl⟩ := hd 8 26 (by kernel_rfl)
          obtain ⟨_, t13, rfl⟩ := hd 13 31 (by kernel_rfl)
          have cc := (HC.out w' hle).1
          unfold Go.Rel.stepOf
          go_simp
          exact hK _ _ (But.refl _ _) (hI) rfl
        · intro f a w' hI hf hanc hdesc hle hs' hd K hK
          obtain ⟨_, tg, rfl⟩ := hd 8 26 (by kernel_rfl)
          obtain ⟨_, t12, rfl⟩ := hd 12 30 (by kernel_rfl)
          obtain ⟨_, t14, rfl⟩ := hd 14 32 (by kernel_rfl)
          unfold Go.Rel.stepOf
          go_simp
          refine (HOrd.out.1 w' hI.1).mono ?_
          rintro e w2 ⟨⟨A5, c5, rfl, hv5, _, hblk5⟩, hr5, hb5⟩
          have hbS : But S w' w2 := hb5.mono HT.out.1
          exact hK _ _ hbS ⟨hr5, hI.2.but hb5 HT.out.1 (fun h => HNe.out h)⟩ ⟨_, _, rfl, hv5, fun b off e _ hs => by have := hblk5 b off e; have := HSlt.out b hs; have := hle.size; omega⟩
        · intro f a w' hI hf hanc hdesc hle hs' hd K hK
          obtain ⟨_, tg, rfl⟩ := hd 8 26 (by kernel_rfl)
          have f6 : a.tmps[6]? = some (.pointer (some ⟨bw, 0, none⟩)) := hs'.2.2 6 (by kernel_rfl)
          unfold Go.Rel.stepOf
          go_simp
          exact hK _ _ (But.refl _ _) (hI) rfl
        · intro f a w' hI hf hanc hdesc hle hs' hd K hK
          obtain ⟨_, tg, rfl⟩ := hd 8 26 (by kernel_rfl)
          have f1 : a.tmps[1]? = some (.pointer (some ⟨b0, 0, none⟩)) := hs'.2.2 1 (by kernel_rfl)
          unfold Go.Rel.stepOf
          go_simp
          exact hK _ _ (But.refl _ _) (hI) rfl
        · intro f a w' hI hf hanc hdesc hle hs' hd K hK
          obtain ⟨_, tg, rfl⟩ := hd 8 26 (by kernel_rfl)
          obtain ⟨_, t17, rfl⟩ := hd 17 35 (by kernel_rfl)
          have cc := (HC.out w' hle).1
          unfold Go.Rel.stepOf
          go_simp
          exact hK _ _ (But.refl _ _) (hI) rfl
        · intro f a w' hI hf hanc hdesc hle hs' hd K hK
          obtain ⟨_, tg, rfl⟩ := hd 8 26 (by kernel_rfl)
          obtain ⟨_, t16, rfl⟩ := hd 16 34 (by kernel_rfl)
          obtain ⟨_, t18, rfl⟩ := hd 18 36 (by kernel_rfl)
          unfold Go.Rel.stepOf
          go_simp
          refine (HOrd.out.2 w' hI.2).mono ?_
          rintro e w2 ⟨⟨A5, c5, rfl, hv5, _, hblk5⟩, hr5, hb5⟩
          have hbS : But S w' w2 := hb5.mono HT.out.2
          exact hK _ _ hbS ⟨hI.1.but hb5 HT.out.2 (fun k e h => HNe.out (e ▸ h)), hr5⟩ ⟨_, _, rfl, hv5, fun b off e _ hs => by have := hblk5 b off e; have := HSlt.out b hs; have := hle.size; omega⟩
        · intro f a w' hI hf hanc hdesc hle hs' hd K hK
          obtain ⟨_, tg, rfl⟩ := hd 8 26 (by kernel_rfl)
          obtain ⟨_, t15, A15, c15, rfl, h15⟩ := hd 15 33 (by kernel_rfl)
          obtain ⟨_, t19, A19, c19, rfl, h19⟩ := hd 19 37 (by kernel_rfl)
          unfold Go.Rel.stepOf
          go_simp
          refine (HSame.out _ _ _ _ xs HLen.out.1 w' h15.1 h19.1).mono ?_
          rintro e w2 ⟨rfl, hb5⟩
          exact hK _ _ (But.of_below hb5) ⟨hI.1.below hb5, hI.2.below hb5⟩ rfl
        · intro f a w' hI hf hanc hdesc hle hs' hd K hK
          obtain ⟨_, tg, rfl⟩ := hd 8 26 (by kernel_rfl)
          obtain ⟨_, t20, rfl⟩ := hd 20 38 (by kernel_rfl)
          unfold Go.Rel.stepOf
          go_simp
          exact hK _ _ (But.refl _ _) (hI) rfl
        · intro f a w' hI hf hanc hdesc hle hs' hd K hK
          obtain ⟨_, t8, rfl⟩ := hd 8 26 (by kernel_rfl)
          obtain ⟨_, t21, rfl⟩ := hd 21 39 (by kernel_rfl)
          unfold Go.Rel.stepOf
          go_simp
          exact hK _ _ (But.refl _ _) (hI) rfl
        · intro f a w' hI hf hanc hdesc hle hs' hd K hK
          obtain ⟨_, t22, rfl⟩ := hd 22 40 (by kernel_rfl)
          unfold Go.Rel.stepOf
          go_simp
          exact hK _ _ (But.refl _ _) (hI) rfl
        · intro f a w' hI hf hanc hdesc hle hs' hd K hK
          obtain ⟨_, tg, rfl⟩ := hd 23 41 (by kernel_rfl)
          have f4 : a.tmps[4]? = some (.slice (some ⟨b2, 0, none⟩) 2 2) := hs'.2.2 4 (by kernel_rfl)
          unfold Go.Rel.stepOf
          go_simp
          exact hK _ _ (But.refl _ _) (hI) rfl
        · intro f a w' hI hf hanc hdesc hle hs' hd K hK
          obtain ⟨_, tg, rfl⟩ := hd 23 41 (by kernel_rfl)
          have f5 : a.tmps[5]? = some (.int .i64 (k : Int)) := hs'.2.2 5 (by kernel_rfl)
          unfold Go.Rel.stepOf
          go_simp
          exact hK _ _ (But.refl _ _) (hI) rfl
        · intro f a w' hI hf hanc hdesc hle hs' hd K hK
          obtain ⟨_, tg, rfl⟩ := hd 23 41 (by kernel_rfl)
          obtain ⟨_, t24, rfl⟩ := hd 24 42 (by kernel_rfl)
          obtain ⟨_, t25, rfl⟩ := hd 25 43 (by kernel_rfl)
          have q1 := HK.out.1
          have q2 := HK.out.2
          unfold Go.Rel.stepOf
          go_simp
          exact hK _ _ (But.refl _ _) (hI) rfl
        · intro f a w' hI hf hanc hdesc hle hs' hd K hK
          obtain ⟨_, tg, rfl⟩ := hd 23 41 (by kernel_rfl)
          obtain ⟨_, t26, rfl⟩ := hd 26 44 (by kernel_rfl)
          have cc := (HC.out w' hle).2.2
          unfold Go.Rel.stepOf
          go_simp
          exact hK _ _ (But.refl _ _) (hI) rfl
        · intro f a w' hI hf hanc hdesc hle hs' hd K hK
          obtain ⟨_, tg, rfl⟩ := hd 23 41 (by kernel_rfl)
          have f1 : a.tmps[1]? = some (.pointer (some ⟨b0, 0, none⟩)) := hs'.2.2 1 (by kernel_rfl)
          unfold Go.Rel.stepOf
          go_simp
          exact hK _ _ (But.refl _ _) (hI) rfl
        · intro f a w' hI hf hanc hdesc hle hs' hd K hK
          obtain ⟨_, tg, rfl⟩ := hd 23 41 (by kernel_rfl)
          obtain ⟨_, t28, rfl⟩ := hd 28 46 (by kernel_rfl)
          have cc := (HC.out w' hle).1
          unfold Go.Rel.stepOf
          go_simp
          exact hK _ _ (But.refl _ _) (hI) rfl
        · intro f a w' hI hf hanc hdesc hle hs' hd K hK
          obtain ⟨_, tg, rfl⟩ := hd 23 41 (by kernel_rfl)
          have f1 : a.tmps[1]? = some (.pointer (some ⟨b0, 0, none⟩)) := hs'.2.2 1 (by kernel_rfl)
          unfold Go.Rel.stepOf
          go_simp
          exact hK _ _ (But.refl _ _) (hI) rfl
        · intro f a w' hI hf hanc hdesc hle hs' hd K hK
          obtain ⟨_, tg, rfl⟩ := hd 23 41 (by kernel_rfl)
          obtain ⟨_, t30, rfl⟩ := hd 30 48 (by kernel_rfl)
          have cc := (HC.out w' hle).2.1
          unfold Go.Rel.stepOf
          go_simp
          exact hK _ _ (But.refl _ _) (hI) rfl
        · intro f a w' hI hf hanc hdesc hle hs' hd K hK
          obtain ⟨_, tg, rfl⟩ := hd 23 41 (by kernel_rfl)
          obtain ⟨_, t27, rfl⟩ := hd 27 45 (by kernel_rfl)
          obtain ⟨_, t29, rfl⟩ := hd 29 47 (by kernel_rfl)
          obtain ⟨_, t31, rfl⟩ := hd 31 49 (by kernel_rfl)
          unfold Go.Rel.stepOf
          go_simp
          refine (HSom.out.1 w' hI.1).mono ?_
          rintro e w2 ⟨⟨A5, c5, rfl, hv5, _, hblk5⟩, hr5, hb5⟩
          have hbS : But S w' w2 := hb5.mono HT.out.1
          exact hK _ _ hbS ⟨hr5, hI.2.but hb5 HT.out.1 (fun h => HNe.out h)⟩ ⟨_, _, rfl, hv5, fun b off e _ hs => by have := hblk5 b off e; have := HSlt.out b hs; have := hle.size; omega⟩
        · intro f a w' hI hf hanc hdesc hle hs' hd K hK
          obtain ⟨_, tg, rfl⟩ := hd 23 41 (by kernel_rfl)
          have f6 : a.tmps[6]? = some (.pointer (some ⟨bw, 0, none⟩)) := hs'.2.2 6 (by kernel_rfl)
          unfold Go.Rel.stepOf
          go_simp
          exact hK _ _ (But.refl _ _) (hI) rfl
        · intro f a w' hI hf hanc hdesc hle hs' hd K hK
          obtain ⟨_, tg, rfl⟩ := hd 23 41 (by kernel_rfl)
          have f1 : a.tmps[1]? = some (.pointer (some ⟨b0, 0, none⟩)) := hs'.2.2 1 (by kernel_rfl)
          unfold Go.Rel.stepOf
          go_simp
          exact hK _ _ (But.refl _ _) (hI) rfl
        · intro f a w' hI hf hanc hdesc hle hs' hd K hK
          obtain ⟨_, tg, rfl⟩ := hd 23 41 (by kernel_rfl)
          obtain ⟨_, t34, rfl⟩ := hd 34 52 (by kernel_rfl)
          have cc := (HC.out w' hle).1
          unfold Go.Rel.stepOf
          go_simp
          exact hK _ _ (But.refl _ _) (hI) rfl
        · intro f a w' hI hf hanc hdesc hle hs' hd K hK
          obtain ⟨_, tg, rfl⟩ := hd 23 41 (by kernel_rfl)
          have f1 : a.tmps[1]? = some (.pointer (some ⟨b0, 0, none⟩)) := hs'.2.2 1 (by kernel_rfl)
          unfold Go.Rel.stepOf
          go_simp
          exact hK _ _ (But.refl _ _) (hI) rfl
        · intro f a w' hI hf hanc hdesc hle hs' hd K hK
          obtain ⟨_, tg, rfl⟩ := hd 23 41 (by kernel_rfl)
          obtain ⟨_, t36, rfl⟩ := hd 36 54 (by kernel_rfl)
          have cc := (HC.out w' hle).2.1
          unfold Go.Rel.stepOf
          go_simp
          exact hK _ _ (But.refl _ _) (hI) rfl
        · intro f a w' hI hf hanc hdesc hle hs' hd K hK
          obtain ⟨_, tg, rfl⟩ := hd 23 41 (by kernel_rfl)
          obtain ⟨_, t33, rfl⟩ := hd 33 51 (by kernel_rfl)
          obtain ⟨_, t35, rfl⟩ := hd 35 53 (by kernel_rfl)
          obtain ⟨_, t37, rfl⟩ := hd 37 55 (by kernel_rfl)
          unfold Go.Rel.stepOf
          go_simp
          refine (HSom.out.2 w' hI.2).mono ?_
          rintro e w2 ⟨⟨A5, c5, rfl, hv5, _, hblk5⟩, hr5, hb5⟩
          have hbS : But S w' w2 := hb5.mono HT.out.2
          exact hK _ _ hbS ⟨hI.1.but hb5 HT.out.2 (fun k e h => HNe.out (e ▸ h)), hr5⟩ ⟨_, _, rfl, hv5, fun b off e _ hs => by have := hblk5 b off e; have := HSlt.out b hs; have := hle.size; omega⟩
        · intro f a w' hI hf hanc hdesc hle hs' hd K hK
          obtain ⟨_, tg, rfl⟩ := hd 23 41 (by kernel_rfl)
          obtain ⟨_, t32, A32, c32, rfl, h32⟩ := hd 32 50 (by kernel_rfl)
          obtain ⟨_, t38, A38, c38, rfl, h38⟩ := hd 38 56 (by kernel_rfl)
          unfold Go.Rel.stepOf
          go_simp
          refine (HSame.out _ _ _ _ ys HLen.out.2 w' h32.1 h38.1).mono ?_
          rintro e w2 ⟨rfl, hb5⟩
          exact hK _ _ (But.of_below hb5) ⟨hI.1.below hb5, hI.2.below hb5⟩ rfl
        · intro f a w' hI hf hanc hdesc hle hs' hd K hK
          obtain ⟨_, tg, rfl⟩ := hd 23 41 (by kernel_rfl)
          obtain ⟨_, t39, rfl⟩ := hd 39 57 (by kernel_rfl)
          unfold Go.Rel.stepOf
          go_simp
          exact hK _ _ (But.refl _ _) (hI) rfl
        · intro f a w' hI hf hanc hdesc hle hs' hd K hK
          obtain ⟨_, t23, rfl⟩ := hd 23 41 (by kernel_rfl)
          obtain ⟨_, t40, rfl⟩ := hd 40 58 (by kernel_rfl)
          unfold Go.Rel.stepOf
          go_simp
          exact hK _ _ (But.refl _ _) (hI) rfl
        · intro f a w' hI hf hanc hdesc hle hs' hd K hK
          obtain ⟨_, t41, rfl⟩ := hd 41 59 (by kernel_rfl)
          unfold Go.Rel.stepOf
          go_simp
          exact hK _ _ (But.refl _ _) (hI) rfl
        · intro f a w' hI hf hanc hdesc hle hs' hd K hK
          obtain ⟨_, tg, rfl⟩ := hd 42 60 (by kernel_rfl)
          have f4 : a.tmps[4]? = some (.slice (some ⟨b2, 0, none⟩) 2 2) := hs'.2.2 4 (by kernel_rfl)
          unfold Go.Rel.stepOf
          go_simp
          exact hK _ _ (But.refl _ _) (hI) rfl
        · intro f a w' hI hf hanc hdesc hle hs' hd K hK
          obtain ⟨_, tg, rfl⟩ := hd 42 60 (by kernel_rfl)
          have f5 : a.tmps[5]? = some (.int .i64 (k : Int)) := hs'.2.2 5 (by kernel_rfl)
          unfold Go.Rel.stepOf
          go_simp
          exact hK _ _ (But.refl _ _) (hI) rfl
        · intro f a w' hI hf hanc hdesc hle hs' hd K hK
          obtain ⟨_, tg, rfl⟩ := hd 42 60 (by kernel_rfl)
          obtain ⟨_, t43, rfl⟩ := hd 43 61 (by kernel_rfl)
          obtain ⟨_, t44, rfl⟩ := hd 44 62 (by kernel_rfl)
          have q1 := HK.out.1
          have q2 := HK.out.2
          unfold Go.Rel.stepOf
          go_simp
          exact hK _ _ (But.refl _ _) (hI) rfl
        · intro f a w' hI hf hanc hdesc hle hs' hd K hK
          obtain ⟨_, tg, rfl⟩ := hd 42 60 (by kernel_rfl)
          obtain ⟨_, t45, rfl⟩ := hd 45 63 (by kernel_rfl)
          have cc := (HC.out w' hle).2.2
          unfold Go.Rel.stepOf
          go_simp
          exact hK _ _ (But.refl _ _) (hI) rfl
        · intro f a w' hI hf hanc hdesc hle hs' hd K hK
          obtain ⟨_, tg, rfl⟩ := hd 42 60 (by kernel_rfl)
          obtain ⟨_, t46, rfl⟩ := hd 46 64 (by kernel_rfl)
          unfold Go.Rel.stepOf
          go_simp
          refine (taken_of S _ _ w' hI.1 rfl).mono ?_
          rintro e w2 ⟨rfl, rfl⟩
          exact hK _ _ (But.refl _ _) hI rfl
        · intro f a w' hI hf hanc hdesc hle hs' hd K hK
          obtain ⟨_, tg, rfl⟩ := hd 42 60 (by kernel_rfl)
          obtain ⟨_, t47, rfl⟩ := hd 47 65 (by kernel_rfl)
          unfold Go.Rel.stepOf
          go_simp
          exact hK _ _ (But.refl _ _) (hI) rfl
        · intro f a w' hI hf hanc hdesc hle hs' hd K hK
          obtain ⟨_, t42, rfl⟩ := hd 42 60 (by kernel_rfl)
          obtain ⟨_, t48, rfl⟩ := hd 48 66 (by kernel_rfl)
          unfold Go.Rel.stepOf
          go_simp
          exact hK _ _ (But.refl _ _) (hI) rfl
        · intro f a w' hI hf hanc hdesc hle hs' hd K hK
          obtain ⟨_, t49, rfl⟩ := hd 49 67 (by kernel_rfl)
          unfold Go.Rel.stepOf
          go_simp
          exact hK _ _ (But.refl _ _) (hI) rfl
        · intro f a w' hI hf hanc hdesc hle hs' hd K hK
          obtain ⟨_, tg, rfl⟩ := hd 50 68 (by kernel_rfl)
          have f4 : a.tmps[4]? = some (.slice (some ⟨b2, 0, none⟩) 2 2) := hs'.2.2 4 (by kernel_rfl)
          unfold Go.Rel.stepOf
          go_simp
          exact hK _ _ (But.refl _ _) (hI) rfl
        · intro f a w' hI hf hanc hdesc hle hs' hd K hK
          obtain ⟨_, tg, rfl⟩ := hd 50 68 (by kernel_rfl)
          have f5 : a.tmps[5]? = some (.int .i64 (k : Int)) := hs'.2.2 5 (by kernel_rfl)
          unfold Go.Rel.stepOf
          go_simp
          exact hK _ _ (But.refl _ _) (hI) rfl
        · intro f a w' hI hf hanc hdesc hle hs' hd K hK
          obtain ⟨_, tg, rfl⟩ := hd 50 68 (by kernel_rfl)
          obtain ⟨_, t51, rfl⟩ := hd 51 69 (by kernel_rfl)
          obtain ⟨_, t52, rfl⟩ := hd 52 70 (by kernel_rfl)
          have q1 := HK.out.1
          have q2 := HK.out.2
          unfold Go.Rel.stepOf
          go_simp
          exact hK _ _ (But.refl _ _) (hI) rfl
        · intro f a w' hI hf hanc hdesc hle hs' hd K hK
          obtain ⟨_, tg, rfl⟩ := hd 50 68 (by kernel_rfl)
          obtain ⟨_, t53, rfl⟩ := hd 53 71 (by kernel_rfl)
          have cc := (HC.out w' hle).2.2
          unfold Go.Rel.stepOf
          go_simp
          exact hK _ _ (But.refl _ _) (hI) rfl
        · intro f a w' hI hf hanc hdesc hle hs' hd K hK
          obtain ⟨_, tg, rfl⟩ := hd 50 68 (by kernel_rfl)
          obtain ⟨_, t54, rfl⟩ := hd 54 72 (by kernel_rfl)
          unfold Go.Rel.stepOf
          go_simp
          refine (left_of S _ _ w' hI.1 rfl).mono ?_
          rintro e w2 ⟨rfl, rfl⟩
          exact hK _ _ (But.refl _ _) hI rfl
        · intro f a w' hI hf hanc hdesc hle hs' hd K hK
          obtain ⟨_, tg, rfl⟩ := hd 50 68 (by kernel_rfl)
          obtain ⟨_, t55, rfl⟩ := hd 55 73 (by kernel_rfl)
          unfold Go.Rel.stepOf
          go_simp
          exact hK _ _ (But.refl _ _) (hI) rfl
        · intro f a w' hI hf hanc hdesc hle hs' hd K hK
          obtain ⟨_, t50, rfl⟩ := hd 50 68 (by kernel_rfl)
          obtain ⟨_, t56, rfl⟩ := hd 56 74 (by kernel_rfl)
          unfold Go.Rel.stepOf
          go_simp
          exact hK _ _ (But.refl _ _) (hI) rfl
      case hend =>
        intro f a w3 hall hI hle hs' hR'
        have HBF : Hid (But (· = b1) W3 w3) := Lib.hid (HBut2.out.then_ hle (fun i hi hlt => by
          rcases HSm.out i hi with e | e
          · exact e
          · omega))
        have HDF : Hid (DwAt (· = b1) w3 (.pointer (some ⟨b1, 0, none⟩)) noD) := Lib.hid (by
          have hv := HHv.out
          by_cases hk0 : k = 0
          · rw [if_pos hk0] at hv
            have h1 : But (fun i => i = bw) w2 w3 := hle.mono (fun i h => HSz.out hk0 i h)
            exact (HDb.out.but h1 (fun i e => .inr e) (fun i e h => by have := tgt_eq h; omega)).narrow (fun i _ h => .inl h) (fun i h => tgt_eq h)
          · rw [if_neg hk0] at hv
            have h := hI.1
            rw [← hv] at h
            exact h.narrow (fun i _ e => HT.out.1 i (by rw [← hv, e]; rfl)) (fun i h => tgt_eq h))
        clear hI hall hle
        obtain ⟨v18, s18, _⟩ := hR' 0 18 (by kernel_rfl)
        obtain ⟨v19, s19, _⟩ := hR' 1 19 (by kernel_rfl)
        obtain ⟨v20, s20, _⟩ := hR' 2 20 (by kernel_rfl)
        obtain ⟨v21, s21, _⟩ := hR' 3 21 (by kernel_rfl)
        obtain ⟨v22, s22, _⟩ := hR' 4 22 (by kernel_rfl)
        obtain ⟨v23, s23, _⟩ := hR' 5 23 (by kernel_rfl)
        obtain ⟨v24, s24, _⟩ := hR' 6 24 (by kernel_rfl)
        obtain ⟨v25, s25, _⟩ := hR' 7 25 (by kernel_rfl)
        obtain ⟨v26, s26, _⟩ := hR' 8 26 (by kernel_rfl)
        obtain ⟨v27, s27, _⟩ := hR' 9 27 (by kernel_rfl)
        obtain ⟨v28, s28, _⟩ := hR' 10 28 (by kernel_rfl)
        obtain ⟨v29, s29, _⟩ := hR' 11 29 (by kernel_rfl)
        obtain ⟨v30, s30, _⟩ := hR' 12 30 (by kernel_rfl)
        obtain ⟨v31, s31, _⟩ := hR' 13 31 (by kernel_rfl)
        obtain ⟨v32, s32, _⟩ := hR' 14 32 (by kernel_rfl)
        obtain ⟨v33, s33, _⟩ := hR' 15 33 (by kernel_rfl)
        obtain ⟨v34, s34, _⟩ := hR' 16 34 (by kernel_rfl)
        obtain ⟨v35, s35, _⟩ := hR' 17 35 (by kernel_rfl)
        obtain ⟨v36, s36, _⟩ := hR' 18 36 (by kernel_rfl)
        obtain ⟨v37, s37, _⟩ := hR' 19 37 (by kernel_rfl)
        obtain ⟨v38, s38, _⟩ := hR' 20 38 (by kernel_rfl)
        obtain ⟨v39, s39, _⟩ := hR' 21 39 (by kernel_rfl)
        obtain ⟨v40, s40, _⟩ := hR' 22 40 (by kernel_rfl)
        obtain ⟨v41, s41, _⟩ := hR' 23 41 (by kernel_rfl)
        obtain ⟨v42, s42, _⟩ := hR' 24 42 (by kernel_rfl)
        obtain ⟨v43, s43, _⟩ := hR' 25 43 (by kernel_rfl)
        obtain ⟨v44, s44, _⟩ := hR' 26 44 (by kernel_rfl)
        obtain ⟨v45, s45, _⟩ := hR' 27 45 (by kernel_rfl)
        obtain ⟨v46, s46, _⟩ := hR' 28 46 (by kernel_rfl)
        obtain ⟨v47, s47, _⟩ := hR' 29 47 (by kernel_rfl)
        obtain ⟨v48, s48, _⟩ := hR' 30 48 (by kernel_rfl)
        obtain ⟨v49, s49, _⟩ := hR' 31 49 (by kernel_rfl)
        obtain ⟨v50, s50, _⟩ := hR' 32 50 (by kernel_rfl)
        obtain ⟨v51, s51, _⟩ := hR' 33 51 (by kernel_rfl)
        obtain ⟨v52, s52, _⟩ := hR' 34 52 (by kernel_rfl)
        obtain ⟨v53, s53, _⟩ := hR' 35 53 (by kernel_rfl)
        obtain ⟨v54, s54, _⟩ := hR' 36 54 (by kernel_rfl)
        obtain ⟨v55, s55, _⟩ := hR' 37 55 (by kernel_rfl)
        obtain ⟨v56, s56, _⟩ := hR' 38 56 (by kernel_rfl)
        obtain ⟨v57, s57, _⟩ := hR' 39 57 (by kernel_rfl)
        obtain ⟨v58, s58, _⟩ := hR' 40 58 (by kernel_rfl)
        obtain ⟨v59, s59, _⟩ := hR' 41 59 (by kernel_rfl)
        obtain ⟨v60, s60, _⟩ := hR' 42 60 (by kernel_rfl)
        obtain ⟨v61, s61, _⟩ := hR' 43 61 (by kernel_rfl)
        obtain ⟨v62, s62, _⟩ := hR' 44 62 (by kernel_rfl)
        obtain ⟨v63, s63, _⟩ := hR' 45 63 (by kernel_rfl)
        obtain ⟨v64, s64, _⟩ := hR' 46 64 (by kernel_rfl)
        obtain ⟨v65, s65, _⟩ := hR' 47 65 (by kernel_rfl)
        obtain ⟨v66, s66, _⟩ := hR' 48 66 (by kernel_rfl)
        obtain ⟨v67, s67, _⟩ := hR' 49 67 (by kernel_rfl)
        obtain ⟨v68, s68, _⟩ := hR' 50 68 (by kernel_rfl)
        obtain ⟨v69, s69, _⟩ := hR' 51 69 (by kernel_rfl)
        obtain ⟨v70, s70, _⟩ := hR' 52 70 (by kernel_rfl)
        obtain ⟨v71, s71, _⟩ := hR' 53 71 (by kernel_rfl)
        obtain ⟨v72, s72, _⟩ := hR' 54 72 (by kernel_rfl)
        obtain ⟨v73, s73, _⟩ := hR' 55 73 (by kernel_rfl)
        obtain ⟨v74, s74, _⟩ := hR' 56 74 (by kernel_rfl)
        obtain ⟨_, s75, rfl⟩ := hR' 57 75 (by kernel_rfl)
        have e := hs'.shape
        simp only [List.toList_toArray, List.foldl, Go.Rel.reset, Array.getD_eq_getD_getElem?, s18, s19, s20, s21, s22, s23, s24, s25, s26, s27, s28, s29, s30, s31, s32, s33, s34, s35, s36, s37, s38, s39, s40, s41, s42, s43, s44, s45, s46, s47, s48, s49, s50, s51, s52, s53, s54, s55, s56, s57, s58, s59, s60, s61, s62, s63, s64, s65, s66, s67, s68, s69, s70, s71, s72, s73, s74, s75, Option.getD_some] at e
        simp at e
        clear hR' hs' s18 s19 s20 s21 s22 s23 s24 s25 s26 s27 s28 s29 s30 s31 s32 s33 s34 s35 s36 s37 s38 s39 s40 s41 s42 s43 s44 s45 s46 s47 s48 s49 s50 s51 s52 s53 s54 s55 s56 s57 s58 s59 s60 s61 s62 s63 s64 s65 s66 s67 s68 s69 s70 s71 s72 s73 s74 s75
        subst e
        go_wp2
        go_roundw
        case rel => exact ⟨k + 1, by omega, by go_num, HDF, HBF⟩
        case measure => simp [intOf]; omega
    · obtain rfl : k = 2 := by omega
      have HBF : Hid (Below w.heap.size w wr) := Lib.hid (by
        rw [HG.out]
        exact HB3.out.trans (hbut.out.below (by omega) (fun i hi e => by omega)))
      have hwk := HWk.out wr
      have HWr := Lib.hid hwk
      clear hwk
      go_wp2_with fail
      refine HWr.out.mono ?_
      rintro e w4 ⟨rfl, hb4⟩
      go_wp2
      go_ret
      exact ⟨rfl, HBF.out.trans (hb4.mono HBF.out.size)⟩
end Go.Proofs.Ytonbojecgggheaa
