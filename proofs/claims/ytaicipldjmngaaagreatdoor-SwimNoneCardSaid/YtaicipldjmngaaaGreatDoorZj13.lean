import Derived.Test.YtaicipldjmngaaaGreatDoorZj12
import Derived.Test.YtaicipldjmngaaaGreatDoorZj1
namespace Go.Proofs.YtaicipldjmngaaaGreatDoor.db
open Go.RowKit
set_option linter.unusedSimpArgs false
def ScIs (w : World) : Prop := ∀ (i : Nat) z, scaleL[i]? = some z → w.cell? ⟨0, i, none⟩ = some (.int .i64 z)
theorem ScIs.at_ {w : World} (h : ScIs w) {i : Nat} (hi : i < 10) : w.cell? ⟨0, i, none⟩ = some (.int .i64 (scale i)) := by
  refine h i _ ?_
  unfold scale
  rw [List.getD_eq_getElem?_getD, List.getElem?_eq_getElem (by simpa [scaleL] using hi)]
  rfl
theorem ScIs.lt {w : World} (h : ScIs w) : 0 < w.heap.size := bcell_lt (h.at_ (i := 0) (by omega))
theorem ScIs.but {S : Nat → Prop} {w w' : World} (h : ScIs w) (hb : But S w w') (hs : ¬ S 0) : ScIs w' := fun i z hz => (hb.cell (p := ⟨0, i, none⟩) h.lt hs).trans (h i z hz)
theorem ScIs.below {w w' : World} (h : ScIs w) (hb : Below w.heap.size w w') : ScIs w' := h.but (But.of_below (S := fun _ => False) hb) (fun h => h)
theorem waitOk_no {least most want : Int} (h : waitOk least most want = false) : least < 1 ∨ (1 ≤ least ∧ most < least) ∨ (1 ≤ least ∧ least ≤ most ∧ 262144 < most) ∨ (1 ≤ least ∧ least ≤ most ∧ most ≤ 262144 ∧ want < 0) ∨ (1 ≤ least ∧ least ≤ most ∧ most ≤ 262144 ∧ 0 ≤ want ∧ 8 < want) := by
  have := mt (waitOk_iff least most want).2 (by rw [h]; simp)
  omega
theorem clamp_min {want hv : Int} (h : 0 ≤ want) : min (max hv 0) want = clampD want hv := by
  unfold clampD
  repeat' split
  all_goals omega
def WaitPost (w : World) (n : Int) (e : Ending) (w' : World) : Prop := e = .returned (.int .i64 n) ∧ ∃ k, w' = w.drewN k
set_option maxHeartbeats 4000000 in
theorem wait_no (least most want hv : Int) (w : World) (h : waitOk least most want = false) : Calls Tryz.prog 36 #[.int .i64 least, .int .i64 most, .int .i64 want, .int .i64 hv] w fun e w' => e = .returned (.int .i64 0) ∧ w = w' := by
  rcases waitOk_no h with h1 | ⟨h1, h2⟩ | ⟨h1, h2, h3⟩ | ⟨h1, h2, h3, h4⟩ | ⟨h1, h2, h3, h4, h5⟩ <;> clear h
  all_goals
    go_enter Tryz.func36, Tryz.ntmps36
    go_wp2
    go_ret
    exact ⟨rfl, rfl⟩
set_option maxHeartbeats 4000000 in
theorem wait_zero (least most hv : Int) (w : World) (h : waitOk least most 0 = true) : Calls Tryz.prog 36 #[.int .i64 least, .int .i64 most, .int .i64 0, .int .i64 hv] w fun e w' => e = .returned (.int .i64 least) ∧ w = w' := by
  obtain ⟨h1, h2, h3, h4, h5⟩ := (waitOk_iff _ _ _).1 h
  clear h
  go_enter Tryz.func36, Tryz.ntmps36
  go_wp2
  go_ret
  exact ⟨rfl, rfl⟩
set_option maxHeartbeats 4000000 in
theorem wait_some (least most hv : Int) (k : Nat) (w : World) (hs : ScIs w) (h : waitOk least most (k : Int) = true) (hk : 0 < k) : Calls Tryz.prog 36 #[.int .i64 least, .int .i64 most, .int .i64 (k : Int), .int .i64 hv] w (WaitPost w (waitD least most k hv)) := by
  obtain ⟨h1, h2, h3, h4, h5⟩ := (waitOk_iff _ _ _).1 h
  obtain ⟨c, hc⟩ : ∃ c, (clampD k hv).toNat = c := ⟨_, rfl⟩
  have hcl := clampD_in (want := (k : Int)) (h := hv) (by omega)
  have hm : min (max hv 0) (k : Int) = (c : Int) := by rw [clamp_min (by omega), ← hc]; omega
  have hck : c ≤ k := by omega
  have hv0 : waitD least most k hv = most - ((most - least) * scale (c + 1)).tdiv (scale (k + 1)) := by
    rw [waitD_yes h (by omega), hc]
    rfl
  have hp := waitD_prod h (c + 1) (by omega)
  have hpb := part_bounds (m := most - least) (by omega) (c := c) (k := k) hck (by omega) (by omega)
  have hsp := scale_ge (k + 1) (by omega) (by omega)
  unfold part_ at hpb
  rw [hv0]
  have c1 := hs.at_ (i := c + 1) (by omega)
  have c2 := hs.at_ (i := k + 1) (by omega)
  obtain ⟨s1, hs1⟩ : ∃ s1, scale (c + 1) = s1 := ⟨_, rfl⟩
  obtain ⟨s2, hs2⟩ : ∃ s2, scale (k + 1) = s2 := ⟨_, rfl⟩
  rw [hs1] at c1 hp hpb ⊢
  rw [hs2] at c2 hpb hsp ⊢
  obtain ⟨pr, hpr⟩ : ∃ pr, (most - least) * s1 = pr := ⟨_, rfl⟩
  rw [hpr] at hp hpb ⊢
  have w1 : IntKind.i64.wrap (most - least) = most - least := IntWalk.i64_in _ (by omega)
  have w2 : IntKind.i64.wrap ((most - least) * s1) = pr := by rw [hpr]; exact IntWalk.i64_in _ (by omega)
  have w3 : IntKind.i64.wrap (pr.tdiv s2) = pr.tdiv s2 := IntWalk.i64_in _ (by omega)
  have w4 : IntKind.i64.wrap (most - pr.tdiv s2) = most - pr.tdiv s2 := IntWalk.i64_in _ (by omega)
  have w5 : IntKind.i64.wrap ((c : Int) + 1) = (c : Int) + 1 := IntWalk.i64_in _ (by omega)
  have w6 : IntKind.i64.wrap ((k : Int) + 1) = (k : Int) + 1 := IntWalk.i64_in _ (by omega)
  have i1 : (0 : Int) ≤ (c : Int) + 1 ∧ (c : Int) + 1 < 10 := by omega
  have i2 : (0 : Int) ≤ (k : Int) + 1 ∧ (k : Int) + 1 < 10 := by omega
  have z2 : (s2 == 0) = false := by rw [beq_eq_false_iff_ne]; omega
  have t1 : ((c : Int) + 1).toNat = c + 1 := by omega
  have t2 : ((k : Int) + 1).toNat = k + 1 := by omega
  obtain ⟨j1, j2⟩ := i1
  obtain ⟨j3, j4⟩ := i2
  have hcase : (hv < 0 ∧ c = 0) ∨ (0 ≤ hv ∧ hv ≤ (k : Int) ∧ hv = (c : Int)) ∨ ((k : Int) < hv ∧ c = k) := by omega
  clear hs1 hs2 hpr hv0 hcl hc h hs hm
  rcases hcase with ⟨q1, rfl⟩ | ⟨q1, q2, rfl⟩ | ⟨q1, rfl⟩
  · simp only [Nat.zero_add] at c1
    clear w5 j1 j2 t1
    have w5 : IntKind.i64.wrap 1 = 1 := by decide
    go_enter Tryz.func36, Tryz.ntmps36
    go_wp2
    go_quiet (fail)
    go_wp2
    go_ret
    exact ⟨rfl, _, rfl⟩
  · go_enter Tryz.func36, Tryz.ntmps36
    go_wp2
    go_quiet (fail)
    go_wp2
    go_ret
    exact ⟨rfl, _, rfl⟩
  · obtain rfl : s1 = s2 := by simpa using c1.symm.trans c2
    go_enter Tryz.func36, Tryz.ntmps36
    go_wp2
    go_quiet (fail)
    go_wp2
    go_ret
    exact ⟨rfl, _, rfl⟩
abbrev Quiet (w : World) (v : Value) : Ending → World → Prop := fun e w' => e = .returned v ∧ ∃ m, w' = w.drewN m
theorem Quiet.of_same {P : Program} {f : FuncId} {args : Array Value} {w : World} {v : Value} (h : Calls P f args w fun e w' => e = .returned v ∧ w = w') : Calls P f args w (Quiet w v) := h.mono fun _ _ ⟨h1, h2⟩ => ⟨h1, 0, h2.symm⟩
theorem Quiet.below {w w' : World} (h : ∃ m, w' = w.drewN m) : Below w.heap.size w w' := by
  obtain ⟨m, rfl⟩ := h
  exact below_drewN (Below.refl _ _) m
theorem wait_any (least most want hv : Int) (w : World) (hs : ScIs w) : Calls Tryz.prog 36 #[.int .i64 least, .int .i64 most, .int .i64 want, .int .i64 hv] w (Quiet w (.int .i64 (waitD least most want hv))) := by
  cases h : waitOk least most want with
  | false => rw [waitD_no h]; exact Quiet.of_same (wait_no _ _ _ _ w h)
  | true =>
    by_cases hw : want = 0
    · subst hw
      rw [waitD_zero h]
      exact Quiet.of_same (wait_zero _ _ _ w h)
    · obtain ⟨h1, h2, h3, h4, h5⟩ := (waitOk_iff _ _ _).1 h
      obtain ⟨k, rfl⟩ : ∃ k : Nat, want = (k : Int) := ⟨want.toNat, by omega⟩
      exact wait_some _ _ _ k w hs h (by omega)
end Go.Proofs.YtaicipldjmngaaaGreatDoor.db
