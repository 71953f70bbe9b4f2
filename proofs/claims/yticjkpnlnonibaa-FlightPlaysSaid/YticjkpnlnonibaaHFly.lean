/-
  fly (layer 7).
-/
import Derived.Test.YticjkpnlnonibaaHRSend
namespace Go.Proofs.Yticjkpnlnonibaa
open Go.RowKit
set_option linter.unusedSimpArgs false
set_option linter.unusedVariables false

def flyR (B : Nat) (X : Nat) (id : Nat) (p : Pk) : Nat → Value → World → Prop
  | 0, v, _ => v = .pointer (some ⟨B, 0, none⟩)
  | 1, v, _ => v = .pointer (some ⟨B, 0, none⟩)
  | 2, v, _ => v = .pointer (some ⟨B, 0, none⟩)
  | 3, v, _ => v = .int .i64 (id : Int)
  | 4, v, _ => v = .agg #[.int .i64 p.fr, .int .i64 p.to, .slice p.A p.body.length p.c]
  | 5, v, _ => v = .tuple #[]
  | _, _, _ => True
theorem flyR_stable (B : Nat) (X : Nat) (id : Nat) (p : Pk) : ∀ i v w w', flyR B X id p i v w → True → flyR B X id p i v w'
  | 0, _, _, _, h, _ | 1, _, _, _, h, _ | 2, _, _, _, h, _ | 3, _, _, _, h, _ | 4, _, _, _, h, _ | 5, _, _, _, h, _ => h
  | _ + 6, _, _, _, h, _ => h

set_option maxHeartbeats 4000000 in
theorem fly_walk (w W0 W1 : World) (B id : Nat) (p : Pk) (hW0 : w.alloc (.cells #[.int .i64 p.fr, .int .i64 p.to, .slice p.A p.body.length p.c] 30) = W0) (Post : World → Prop)
    (HInc : Hid (Calls Try.prog 34 #[.pointer (some ⟨B, 2, none⟩), .int .i64 1] W0 fun e w' => e = .returned (.int .i64 (id : Int)) ∧ w' = W1))
    (HBox : Hid (∀ w', Below W1.heap.size W1 w' → w'.heap[w.heap.size]? = some (.cells #[.int .i64 p.fr, .int .i64 p.to, .slice p.A p.body.length p.c] 30 (0, 0))))
    (HAdd : Hid (∀ w1, Below W1.heap.size W1 w1 → Calls Try.prog 35 #[.pointer (some ⟨B, 0, none⟩), .int .i64 (id : Int), .agg #[.int .i64 p.fr, .int .i64 p.to, .slice p.A p.body.length p.c]] w1 fun e w' => e = .returned (.tuple #[]) ∧ Post w')) :
    Calls Try.prog 27 #[.pointer (some ⟨B, 0, none⟩), .agg #[.int .i64 p.fr, .int .i64 p.to, .slice p.A p.body.length p.c]] w fun e w' => e = .returned (.int .i64 (id : Int)) ∧ Post w' := by
  have HW0 := Lib.hid hW0
  obtain ⟨X, hX⟩ : ∃ X, w.heap.size = X := ⟨_, rfl⟩
  have HX := Lib.hid hX
  rw [hX] at HBox
  clear hW0 hX
  go_enter Try.func27, Try.ntmps27
  go_wp2_with fail
  rw [HW0.out, HX.out]
  refine HInc.out.mono ?_
  rintro e w' ⟨rfl, hw⟩
  rw [hw]
  clear hw HInc
  go_wp2_with fail
  refine Go.Rel.wp_region_states (by kernel_rfl) (by kernel_rfl) (by kernel_rfl) (by kernel_rfl) (fun f w => (f 5 = false → Below W1.heap.size W1 w) ∧ (f 5 = true → Post w)) (fun _ _ => True) (fun _ _ _ _ _ => trivial) trivial ⟨fun _ => ⟨rfl, rfl, rfl, Nat.le_refl _, fun _ _ => rfl⟩, fun h => by cases h⟩ (flyR B X id p) (flyR_stable B X id p) ?hsteps ?hend
  case hsteps =>
    refine (.cons ?_ (.cons ?_ (.cons ?_ (.cons ?_ (.cons ?_ (.cons ?_ .nil))))))
    · intro f a w' hI hf hanc hdesc hle hs' hd K hK
      have f0 : a.tmps[0]? = some (.pointer (some ⟨B, 0, none⟩)) := hs'.2.2 0 (by kernel_rfl)
      unfold Go.Rel.stepOf
      go_simp
      exact hK _ _ trivial (hI) rfl
    · intro f a w' hI hf hanc hdesc hle hs' hd K hK
      obtain ⟨_, t0, rfl⟩ := hd 0 10 (by kernel_rfl)
      unfold Go.Rel.stepOf
      go_simp
      exact hK _ _ trivial (hI) rfl
    · intro f a w' hI hf hanc hdesc hle hs' hd K hK
      obtain ⟨_, t1, rfl⟩ := hd 1 11 (by kernel_rfl)
      unfold Go.Rel.stepOf
      go_simp
      exact hK _ _ trivial (hI) rfl
    · intro f a w' hI hf hanc hdesc hle hs' hd K hK
      have f5 : a.tmps[5]? = some (.int .i64 (id : Int)) := hs'.2.2 5 (by kernel_rfl)
      unfold Go.Rel.stepOf
      go_simp
      exact hK _ _ trivial (hI) rfl
    · intro f a w' hI hf hanc hdesc hle hs' hd K hK
      have f3 : a.tmps[3]? = some (.pointer (some ⟨X, 0, none⟩)) := hs'.2.2 3 (by kernel_rfl)
      have hz : f 5 = false := hdesc 4 5 (by kernel_rfl)
      have hb := hI.1 hz
      obtain ⟨x0, x1, x2⟩ := blk3 (HBox.out w' hb)
      unfold Go.Rel.stepOf
      go_simp
      exact hK _ _ trivial (hI) rfl
    · intro f a w' hI hf hanc hdesc hle hs' hd K hK
      obtain ⟨_, t2, rfl⟩ := hd 2 12 (by kernel_rfl)
      obtain ⟨_, t3, rfl⟩ := hd 3 13 (by kernel_rfl)
      obtain ⟨_, t4, rfl⟩ := hd 4 14 (by kernel_rfl)
      have hb := hI.1 hf
      unfold Go.Rel.stepOf
      go_simp
      refine (HAdd.out w' hb).mono ?_
      rintro e w2 ⟨rfl, hP⟩
      refine hK _ _ trivial ⟨fun e => ?_, fun _ => hP⟩ rfl
      cases e
  case hend =>
    intro f a w3 hall hI hle hs' hR'
    have hz := hall 5 (by decide)
    have HP := Lib.hid (hI.2 hz)
    clear hz hI hall hle
    obtain ⟨v10, s10, _⟩ := hR' 0 10 (by kernel_rfl)
    obtain ⟨v11, s11, _⟩ := hR' 1 11 (by kernel_rfl)
    obtain ⟨v12, s12, _⟩ := hR' 2 12 (by kernel_rfl)
    obtain ⟨v13, s13, _⟩ := hR' 3 13 (by kernel_rfl)
    obtain ⟨v14, s14, _⟩ := hR' 4 14 (by kernel_rfl)
    obtain ⟨v15, s15, _⟩ := hR' 5 15 (by kernel_rfl)
    have e := hs'.shape
    simp only [List.toList_toArray, List.foldl, Go.Rel.reset, Array.getD_eq_getD_getElem?, s10, s11, s12, s13, s14, s15, Option.getD_some] at e
    simp at e
    clear hR' hs' s10 s11 s12 s13 s14 s15
    subst e
    go_wp2
    go_ret
    exact ⟨rfl, HP.out⟩
end Go.Proofs.Yticjkpnlnonibaa
