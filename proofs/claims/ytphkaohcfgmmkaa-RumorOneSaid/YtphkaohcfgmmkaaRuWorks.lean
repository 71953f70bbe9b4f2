/-
  works of layer 10's law: a rumor is passed on.
-/
import Derived.Test.YtphkaohcfgmmkaaRuPushW
import Derived.Test.YtphkaohcfgmmkaaRuTakeW
import Derived.Test.YtphkaohcfgmmkaaRelI
namespace Go.Proofs.Ytphkaohcfgmmkaa
open Go.RowKit Go.Maps
set_option linter.unusedSimpArgs false
set_option linter.unusedVariables false

def wU : Up := ⟨1, 3, 0⟩
def wQ : Qu := (Qu.new 1).push wU
theorem wQ_takes : (Qu.new 1).takes wU = true := by decide
theorem wQ_has : hasQ wQ.L wU = true := by decide
theorem wQ_lim : limitQ wQ.mult 1 = 1 := by decide
theorem wQ_out : (wQ.take 9 1).1 = [wU] := by decide
theorem wQ_left : (wQ.take 9 1).2.L = [] := by decide
theorem wQ_sent : ∀ r ∈ wQ.L, r.sent ≤ 1000000 := by decide
def wkR (_ : Nat → Prop) (B : Nat) (U : Nat) (b : Nat) (off : Nat) (c : Nat) : Nat → Value → World → Prop
  | 0, v, _ => v = .bool true
  | 1, v, _ => v = .bool true
  | 2, v, _ => v = .bool true
  | 3, v, _ => v = .bool true
  | 4, v, _ => v = .bool true
  | 5, v, _ => v = .slice ((some ⟨b, off, none⟩)) 1 c
  | 6, v, _ => v = .int .i64 (1 : Int)
  | 7, v, _ => v = .bool true
  | 8, v, _ => v = .bool true
  | 9, v, _ => v = .bool true
  | 10, v, _ => v = .slice ((some ⟨b, off, none⟩)) 1 c
  | 11, v, _ => v = .pointer (some ⟨b, off, none⟩)
  | 12, v, _ => v = .agg #[.int .i64 1, .int .u32 3, .int .i64 0]
  | 13, v, _ => v = .agg #[.int .i64 1, .int .u32 3, .int .i64 0]
  | 14, v, _ => v = .bool true
  | 15, v, _ => v = .bool true
  | 16, v, _ => v = .bool true
  | 17, v, _ => v = .pointer (some ⟨B, 0, none⟩)
  | 18, v, _ => ∃ A c, v = .slice A 0 c
  | 19, v, _ => v = .int .i64 (0 : Int)
  | 20, v, _ => v = .bool true
  | 21, v, _ => v = .bool true
  | 22, v, _ => v = .bool true
  | _, _, _ => True
theorem wkR_stable (S : Nat → Prop) (B : Nat) (U : Nat) (b : Nat) (off : Nat) (c : Nat) : ∀ i v w w', wkR S B U b off c i v w → But S w w' → wkR S B U b off c i v w'
  | 0, _, _, _, h, _ | 1, _, _, _, h, _ | 2, _, _, _, h, _ | 3, _, _, _, h, _ | 4, _, _, _, h, _ | 5, _, _, _, h, _ | 6, _, _, _, h, _ | 7, _, _, _, h, _ | 8, _, _, _, h, _ | 9, _, _, _, h, _ | 10, _, _, _, h, _ | 11, _, _, _, h, _ | 12, _, _, _, h, _ | 13, _, _, _, h, _ | 14, _, _, _, h, _ | 15, _, _, _, h, _ | 16, _, _, _, h, _ | 17, _, _, _, h, _ | 18, _, _, _, h, _ | 19, _, _, _, h, _ | 20, _, _, _, h, _ | 21, _, _, _, h, _ | 22, _, _, _, h, _ => h
  | _ + 23, _, _, _, h, _ => h

set_option maxHeartbeats 8000000 in
set_option maxRecDepth 100000 in
theorem works_any (w : World) : Calls Try.prog 11 #[] w fun e w' => e = .returned (.bool true) ∧ Below w.heap.size w w' := by
  have HNew := Lib.hid (new_any 1 w)
  have HPush : Hid (∀ w B M, QuAt w B M (Qu.new 1) → Calls Try.prog 9 #[.pointer (some ⟨B, 0, none⟩), .agg #[.int .i64 1, .int .u32 3, .int .i64 0]] w fun e w' => e = .returned (.bool true) ∧ QuAt w' B M wQ ∧ ButQ B M w w') := Lib.hid (fun w B M h => (push_any wU w h (by decide)).mono (fun e w' ⟨h1, h2, h3⟩ => ⟨by rw [h1, wQ_takes], h2, h3⟩))
  have HHas : Hid (∀ w B M, QuAt w B M wQ → Calls Try.prog 14 #[.pointer (some ⟨B, 0, none⟩), .agg #[.int .i64 1, .int .u32 3, .int .i64 0]] w fun e w' => e = .returned (.bool true) ∧ Below w.heap.size w w') := Lib.hid (fun w B M h => (has_any wU (by unfold wfI wU; decide) w h).mono (fun e w' ⟨h1, h2⟩ => ⟨by rw [h1, wQ_has], h2⟩))
  have HTake : Hid (∀ w B M, QuAt w B M wQ → Calls Try.prog 8 #[.pointer (some ⟨B, 0, none⟩), .int .i64 9, .int .i64 1] w fun e w' => ∃ v, e = .returned v ∧ upRow w' w.heap.size v [wU] ∧ (∃ q, QuAt w' B M q ∧ q.L = []) ∧ ButQ B M w w') := Lib.hid (fun w B M h => (take_any 9 1 (by unfold wfI; decide) (by unfold wfI; decide) w h wQ_sent).mono (fun e w' ⟨v, h1, h2, h3, h4⟩ => by
    rw [wQ_lim] at h2 h3
    exact ⟨v, h1, by rw [← wQ_out]; exact h2, ⟨_, h3, wQ_left⟩, h4⟩))
  have HListC : Hid (∀ w B M, (∃ q, QuAt w B M q ∧ q.L = []) → Calls Try.prog 7 #[.pointer (some ⟨B, 0, none⟩)] w fun e w' => ∃ A c, e = .returned (.slice A 0 c) ∧ Below w.heap.size w w') := Lib.hid (fun w B M ⟨q, h, e⟩ => (list_any w h).mono (fun e' w' ⟨v, h1, h2, h3⟩ => by
    rw [e] at h2
    obtain ⟨A, c, rfl, _⟩ := SK.of_row rmC_len h2
    exact ⟨A, c, h1, h3⟩))
  go_enter Try.func11, Try.ntmps11
  go_wp2_with fail
  refine HNew.out.mono ?_
  rintro e w1 ⟨B, M, rfl, hQ, hB, hM, hb1⟩
  clear HNew
  have h2 := below1 w1 (.cells #[.int .i64 1, .int .u32 3, .int .i64 0] 29)
  have k2 := heap_alloc_new w1 (.cells #[.int .i64 1, .int .u32 3, .int .i64 0] 29)
  obtain ⟨U, hU⟩ : ∃ U, w1.heap.size = U := ⟨_, rfl⟩
  obtain ⟨w2, hw2⟩ : ∃ w2, w1.alloc (.cells #[.int .i64 1, .int .u32 3, .int .i64 0] 29) = w2 := ⟨_, rfl⟩
  rw [hw2] at h2 k2
  rw [hU] at k2
  have HQ2 := Lib.hid (hQ.below h2)
  have HB2 := Lib.hid (hb1.trans (h2.mono hb1.size))
  have HK2 := Lib.hid k2
  have HW2 := Lib.hid hw2
  have HU := Lib.hid hU
  have HBM := Lib.hid (And.intro hB hM)
  have HUne := Lib.hid (show U ≠ B ∧ U ≠ M by have := hQ.lt; omega)
  obtain ⟨d0, d1, d2⟩ := blk3 k2
  clear hQ hb1 h2 k2 hU hw2 hB hM
  go_wp2_with fail
  rw [HW2.out, HU.out]
  refine (HPush.out w2 B M HQ2.out).mono ?_
  rintro e w3 ⟨rfl, hQ3, hb3⟩
  have HQ3 := Lib.hid hQ3
  have HB3 := Lib.hid ((But.of_below HB2.out).then_ hb3 (fun i hi hlt => by have := HBM.out; rcases hi with rfl | rfl <;> omega) : But (fun _ => False) w w3)
  have hk3 := (hb3.block U (block_lt HK2.out) (fun h => by have := HUne.out; rcases h with h | h <;> omega)).trans HK2.out
  have HK3 := Lib.hid hk3
  clear hQ3 hb3 d0 d1 d2
  obtain ⟨d0, d1, d2⟩ := blk3 hk3
  clear hk3
  go_wp2_with fail
  refine (HHas.out w3 B M HQ3.out).mono ?_
  rintro e w4 ⟨rfl, hb4⟩
  have HQ4 := Lib.hid (HQ3.out.below hb4)
  have HB4 := Lib.hid (HB3.out.trans (But.of_below hb4))
  have HK4 := Lib.hid ((hb4.block U (block_lt HK3.out)).trans HK3.out)
  clear hb4 d0 d1 d2
  go_wp2_with fail
  refine (HTake.out w4 B M HQ4.out).mono ?_
  rintro e w5 ⟨v, rfl, hrow, hQ5, hb5⟩
  obtain ⟨A, c, rfl, hS, hnc, hm⟩ := SUp.of_row hrow
  obtain ⟨b, off, rfl, hbl, hu⟩ := hS.at_ (k := 0) (by decide) (by decide)
  simp only [List.length_cons, List.length_nil, Nat.zero_add] at hnc
  have HQ5 := Lib.hid hQ5
  have HB5 := Lib.hid (HB4.out.then_ hb5 (fun i hi hlt => by have := HBM.out; rcases hi with rfl | rfl <;> omega) : But (fun _ => False) w w5)
  have hk5 := (hb5.block U (block_lt HK4.out) (fun h => by have := HUne.out; rcases h with h | h <;> omega)).trans HK4.out
  have HC := Lib.hid (show ∀ w', But (fun _ => False) w5 w' → (w'.cell? ⟨b, off, none⟩ = some (.int .i64 1) ∧ w'.cell? ⟨b, off + 1, none⟩ = some (.int .u32 3) ∧ w'.cell? ⟨b, off + 2, none⟩ = some (.int .i64 0)) ∧ (w'.cell? ⟨U, 0, none⟩ = some (.int .i64 1) ∧ w'.cell? ⟨U, 1, none⟩ = some (.int .u32 3) ∧ w'.cell? ⟨U, 2, none⟩ = some (.int .i64 0)) from fun w' hb => by
    have h1 := hu.of_block (hb.block b hbl (fun h => h))
    refine ⟨?_, blk3 ((hb.block U (block_lt hk5) (fun h => h)).trans hk5)⟩
    have e : off + 0 * 3 = off := by omega
    rw [e] at h1
    exact h1)
  have HList : Hid (∀ w', But (fun _ => False) w5 w' → Calls Try.prog 7 #[.pointer (some ⟨B, 0, none⟩)] w' fun e w'' => ∃ A c, e = .returned (.slice A 0 c) ∧ Below w'.heap.size w' w'') := Lib.hid (fun w' hb => HListC.out w' B M (by
    obtain ⟨q, h1, h2⟩ := HQ5.out
    exact ⟨q, h1.but hb (fun h => h) (fun h => h), h2⟩))
  have HUe : Hid (∀ w, (Op.equalIn 10000 29 (.agg #[.int .i64 1, .int .u32 3, .int .i64 0]) (.agg #[.int .i64 1, .int .u32 3, .int .i64 0])).run Try.prog w = .ok true w) := Lib.hid (fun w => by have := up_eq wU wU w; rw [decide_eq_true rfl] at this; exact this)
  clear hrow hQ5 hb5 hS hm hbl hu hk5
  go_wp2
  refine Go.Rel.wp_region_states (by kernel_rfl) (by kernel_rfl) (by kernel_rfl) (by kernel_rfl) (fun _ _ => True) (But (fun _ => False)) (fun _ _ _ => But.trans) (But.refl _ _).drew trivial (wkR (fun _ => False) B U b off c) (wkR_stable (fun _ => False) B U b off c) ?hs ?he
  case hs =>
    refine (.cons ?_ (.cons ?_ (.cons ?_ (.cons ?_ (.cons ?_ (.cons ?_ (.cons ?_ (.cons ?_ (.cons ?_ (.cons ?_ (.cons ?_ (.cons ?_ (.cons ?_ (.cons ?_ (.cons ?_ (.cons ?_ (.cons ?_ (.cons ?_ (.cons ?_ (.cons ?_ (.cons ?_ (.cons ?_ (.cons ?_ .nil)))))))))))))))))))))))
    · intro f a w' hI hf hanc hdesc hle hs' hd K hK
      have f3 : a.tmps[3]? = some (.bool true) := hs'.2.2 3 (by kernel_rfl)
      unfold Go.Rel.stepOf
      go_simp
      exact hK _ _ (But.refl _ _) (trivial) rfl
    · intro f a w' hI hf hanc hdesc hle hs' hd K hK
      obtain ⟨_, t0, rfl⟩ := hd 0 16 (by kernel_rfl)
      unfold Go.Rel.stepOf
      go_simp
      exact hK _ _ (But.refl _ _) (trivial) rfl
    · intro f a w' hI hf hanc hdesc hle hs' hd K hK
      obtain ⟨_, tg, rfl⟩ := hd 1 17 (by kernel_rfl)
      have f4 : a.tmps[4]? = some (.bool true) := hs'.2.2 4 (by kernel_rfl)
      unfold Go.Rel.stepOf
      go_simp
      exact hK _ _ (But.refl _ _) (trivial) rfl
    · intro f a w' hI hf hanc hdesc hle hs' hd K hK
      obtain ⟨_, t1, rfl⟩ := hd 1 17 (by kernel_rfl)
      obtain ⟨_, t2, rfl⟩ := hd 2 18 (by kernel_rfl)
      unfold Go.Rel.stepOf
      go_simp
      exact hK _ _ (But.refl _ _) (trivial) rfl
    · intro f a w' hI hf hanc hdesc hle hs' hd K hK
      obtain ⟨_, t3, rfl⟩ := hd 3 19 (by kernel_rfl)
      unfold Go.Rel.stepOf
      go_simp
      exact hK _ _ (But.refl _ _) (trivial) rfl
    · intro f a w' hI hf hanc hdesc hle hs' hd K hK
      obtain ⟨_, tg, rfl⟩ := hd 4 20 (by kernel_rfl)
      have f5 : a.tmps[5]? = some (.slice ((some ⟨b, off, none⟩)) 1 c) := hs'.2.2 5 (by kernel_rfl)
      unfold Go.Rel.stepOf
      go_simp
      exact hK _ _ (But.refl _ _) (trivial) rfl
    · intro f a w' hI hf hanc hdesc hle hs' hd K hK
      obtain ⟨_, tg, rfl⟩ := hd 4 20 (by kernel_rfl)
      obtain ⟨_, t5, rfl⟩ := hd 5 21 (by kernel_rfl)
      unfold Go.Rel.stepOf
      go_simp
      exact hK _ _ (But.refl _ _) (trivial) rfl
    · intro f a w' hI hf hanc hdesc hle hs' hd K hK
      obtain ⟨_, tg, rfl⟩ := hd 4 20 (by kernel_rfl)
      obtain ⟨_, t6, rfl⟩ := hd 6 22 (by kernel_rfl)
      unfold Go.Rel.stepOf
      go_simp
      exact hK _ _ (But.refl _ _) (trivial) rfl
    · intro f a w' hI hf hanc hdesc hle hs' hd K hK
      obtain ⟨_, t4, rfl⟩ := hd 4 20 (by kernel_rfl)
      obtain ⟨_, t7, rfl⟩ := hd 7 23 (by kernel_rfl)
      unfold Go.Rel.stepOf
      go_simp
      exact hK _ _ (But.refl _ _) (trivial) rfl
    · intro f a w' hI hf hanc hdesc hle hs' hd K hK
      obtain ⟨_, t8, rfl⟩ := hd 8 24 (by kernel_rfl)
      unfold Go.Rel.stepOf
      go_simp
      exact hK _ _ (But.refl _ _) (trivial) rfl
    · intro f a w' hI hf hanc hdesc hle hs' hd K hK
      obtain ⟨_, tg, rfl⟩ := hd 9 25 (by kernel_rfl)
      have f5 : a.tmps[5]? = some (.slice ((some ⟨b, off, none⟩)) 1 c) := hs'.2.2 5 (by kernel_rfl)
      unfold Go.Rel.stepOf
      go_simp
      exact hK _ _ (But.refl _ _) (trivial) rfl
    · intro f a w' hI hf hanc hdesc hle hs' hd K hK
      obtain ⟨_, tg, rfl⟩ := hd 9 25 (by kernel_rfl)
      obtain ⟨_, t10, rfl⟩ := hd 10 26 (by kernel_rfl)
      unfold Go.Rel.stepOf
      go_simp
      exact hK _ _ (But.refl _ _) (trivial) rfl
    · intro f a w' hI hf hanc hdesc hle hs' hd K hK
      obtain ⟨_, tg, rfl⟩ := hd 9 25 (by kernel_rfl)
      obtain ⟨_, t11, rfl⟩ := hd 11 27 (by kernel_rfl)
      obtain ⟨d0, d1, d2⟩ := (HC.out w' hle).1
      unfold Go.Rel.stepOf
      go_simp
      exact hK _ _ (But.refl _ _) (trivial) rfl
    · intro f a w' hI hf hanc hdesc hle hs' hd K hK
      obtain ⟨_, tg, rfl⟩ := hd 9 25 (by kernel_rfl)
      have f2 : a.tmps[2]? = some (.pointer (some ⟨U, 0, none⟩)) := hs'.2.2 2 (by kernel_rfl)
      obtain ⟨d0, d1, d2⟩ := (HC.out w' hle).2
      unfold Go.Rel.stepOf
      go_simp
      exact hK _ _ (But.refl _ _) (trivial) rfl
    · intro f a w' hI hf hanc hdesc hle hs' hd K hK
      obtain ⟨_, tg, rfl⟩ := hd 9 25 (by kernel_rfl)
      obtain ⟨_, t12, rfl⟩ := hd 12 28 (by kernel_rfl)
      obtain ⟨_, t13, rfl⟩ := hd 13 29 (by kernel_rfl)
      have ug := up_guard
      have ue := HUe.out
      unfold Go.Rel.stepOf
      go_simp
      exact hK _ _ (But.refl _ _) (trivial) rfl
    · intro f a w' hI hf hanc hdesc hle hs' hd K hK
      obtain ⟨_, t9, rfl⟩ := hd 9 25 (by kernel_rfl)
      obtain ⟨_, t14, rfl⟩ := hd 14 30 (by kernel_rfl)
      unfold Go.Rel.stepOf
      go_simp
      exact hK _ _ (But.refl _ _) (trivial) rfl
    · intro f a w' hI hf hanc hdesc hle hs' hd K hK
      obtain ⟨_, t15, rfl⟩ := hd 15 31 (by kernel_rfl)
      unfold Go.Rel.stepOf
      go_simp
      exact hK _ _ (But.refl _ _) (trivial) rfl
    · intro f a w' hI hf hanc hdesc hle hs' hd K hK
      obtain ⟨_, tg, rfl⟩ := hd 16 32 (by kernel_rfl)
      have f1 : a.tmps[1]? = some (.pointer (some ⟨B, 0, none⟩)) := hs'.2.2 1 (by kernel_rfl)
      unfold Go.Rel.stepOf
      go_simp
      exact hK _ _ (But.refl _ _) (trivial) rfl
    · intro f a w' hI hf hanc hdesc hle hs' hd K hK
      obtain ⟨_, tg, rfl⟩ := hd 16 32 (by kernel_rfl)
      obtain ⟨_, t17, rfl⟩ := hd 17 33 (by kernel_rfl)
      unfold Go.Rel.stepOf
      go_simp
      refine (HList.out w' hle).mono ?_
      rintro e w2 ⟨A5, c5, rfl, hb5⟩
      exact hK _ _ (But.of_below hb5) trivial ⟨_, _, rfl⟩
    · intro f a w' hI hf hanc hdesc hle hs' hd K hK
      obtain ⟨_, tg, rfl⟩ := hd 16 32 (by kernel_rfl)
      obtain ⟨_, t18, A18, c18, rfl⟩ := hd 18 34 (by kernel_rfl)
      unfold Go.Rel.stepOf
      go_simp
      exact hK _ _ (But.refl _ _) (trivial) rfl
    · intro f a w' hI hf hanc hdesc hle hs' hd K hK
      obtain ⟨_, tg, rfl⟩ := hd 16 32 (by kernel_rfl)
      obtain ⟨_, t19, rfl⟩ := hd 19 35 (by kernel_rfl)
      unfold Go.Rel.stepOf
      go_simp
      exact hK _ _ (But.refl _ _) (trivial) rfl
    · intro f a w' hI hf hanc hdesc hle hs' hd K hK
      obtain ⟨_, t16, rfl⟩ := hd 16 32 (by kernel_rfl)
      obtain ⟨_, t20, rfl⟩ := hd 20 36 (by kernel_rfl)
      unfold Go.Rel.stepOf
      go_simp
      exact hK _ _ (But.refl _ _) (trivial) rfl
    · intro f a w' hI hf hanc hdesc hle hs' hd K hK
      obtain ⟨_, t21, rfl⟩ := hd 21 37 (by kernel_rfl)
      unfold Go.Rel.stepOf
      go_simp
      exact hK _ _ (But.refl _ _) (trivial) rfl

  case he =>
    intro f a w7 hall hI hle hs' hR'
    obtain ⟨_, s0, rfl⟩ := hR' 22 0 (by kernel_rfl)
    have hd : a.defers = [] := hs'.1
    have HF := Lib.hid ((HB5.out.trans hle).below (Nat.le_refl _) (fun _ _ h => h))
    clear hs' hR' hall hI hle
    go_wp2
    exact bodyPost_ret (v := .bool true) (by simp [results, Try.results11, go_sem, s0]) hd ⟨rfl, HF.out⟩
end Go.Proofs.Ytphkaohcfgmmkaa
