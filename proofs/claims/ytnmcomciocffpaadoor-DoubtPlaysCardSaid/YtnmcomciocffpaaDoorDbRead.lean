/-
  made, New, Have, Elapsed, Wait, Due of the program's suspicion, walked (layer 11).
-/
import Derived.Test.YtnmcomciocffpaaDoorDbMem
import Derived.WalkSpells
import Derived.BigQuiet
namespace Go.Proofs.YtnmcomciocffpaaDoor
open Go.RowKit Go.Maps
set_option linter.unusedSimpArgs false
set_option linter.unusedVariables false

theorem made_no (v : Value) (w : World) (h : NoDb w v) : Calls Tryd.prog 19 #[v] w fun e w' => e = .returned (.bool false) ∧ w = w' := by
  rcases h with rfl | ⟨B, rfl, hh⟩
  · go_enter Tryd.func19, Tryd.ntmps19
    go_wp2
    go_ret
    exact ⟨rfl, rfl⟩
  · have c5 : w.cell? ⟨B, 5, none⟩ = some (.map none) := by rw [cell_of_row _ _ _ _ _ _ hh]; rfl
    clear hh
    have qM := fun (w : World) (r : Option Nat) => run_neq_map_nil (P := Tryd.prog) w TM 3 46 r Tryd.underlying41
    go_enter Tryd.func19, Tryd.ntmps19
    go_wp2
    go_ret
    exact ⟨rfl, rfl⟩
theorem made_yes {B M : Nat} {d : Db} (w : World) (h : DbAt w B M d) : Calls Tryd.prog 19 #[.pointer (some ⟨B, 0, none⟩)] w fun e w' => e = .returned (.bool true) ∧ w = w' := by
  obtain ⟨_, _, _, _, _, c5⟩ := blk6 h.blk
  clear h
  have qM := fun (w : World) (r : Option Nat) => run_neq_map_nil (P := Tryd.prog) w TM 3 46 r Tryd.underlying41
  go_enter Tryd.func19, Tryd.ntmps19
  go_wp2
  go_ret
  exact ⟨rfl, rfl⟩
theorem elapsed_no (v : Value) (w : World) (h : NoDb w v) : Calls Tryd.prog 16 #[v] w (Quiet w (.int .i64 0)) := by
  have HM := Lib.hid (made_no v w h)
  clear h
  go_enter Tryd.func16, Tryd.ntmps16
  go_wp2_with fail
  refine HM.out.mono ?_
  rintro e w' ⟨rfl, rfl⟩
  go_wp2
  go_ret
  exact ⟨rfl, 0, rfl⟩
theorem elapsed_any {B M : Nat} {d : Db} (w : World) (h : DbAt w B M d) : Calls Tryd.prog 16 #[.pointer (some ⟨B, 0, none⟩)] w (Quiet w (.int .i64 (d.gone : Int))) := by
  have HM := Lib.hid (made_yes w h)
  obtain ⟨_, _, _, _, c4, _⟩ := blk6 h.blk
  clear h
  go_enter Tryd.func16, Tryd.ntmps16
  go_wp2_with fail
  refine HM.out.mono ?_
  rintro e w' ⟨rfl, rfl⟩
  go_wp2
  go_ret
  exact ⟨rfl, 0, rfl⟩
theorem have_no (v : Value) (w : World) (h : NoDb w v) : Calls Tryd.prog 17 #[v] w (Quiet w (.int .i64 0)) := by
  have HM := Lib.hid (made_no v w h)
  clear h
  go_enter Tryd.func17, Tryd.ntmps17
  go_wp2_with fail
  refine HM.out.mono ?_
  rintro e w' ⟨rfl, rfl⟩
  go_wp2
  go_ret
  exact ⟨rfl, 0, rfl⟩
theorem have_any {B M : Nat} {d : Db} (w : World) (h : DbAt w B M d) : Calls Tryd.prog 17 #[.pointer (some ⟨B, 0, none⟩)] w (Quiet w (.int .i64 d.have_)) := by
  have HM := Lib.hid (made_yes w h)
  obtain ⟨_, _, _, _, _, c5⟩ := blk6 h.blk
  have hl := h.len 0
  rw [World.drewN_zero] at hl
  rw [Db.have_tail d h.ok]
  obtain ⟨L, hL⟩ : ∃ L, d.from_.tail.length = L := ⟨_, rfl⟩
  rw [hL] at hl ⊢
  clear h hL
  go_enter Tryd.func17, Tryd.ntmps17
  go_wp2_with fail
  refine HM.out.mono ?_
  rintro e w' ⟨rfl, rfl⟩
  go_wp2
  go_ret
  exact ⟨rfl, 0, rfl⟩
theorem wait_none (v : Value) (w : World) (h : NoDb w v) : Calls Tryd.prog 15 #[v] w (Quiet w (.int .i64 0)) := by
  have HM := Lib.hid (made_no v w h)
  clear h
  go_enter Tryd.func15, Tryd.ntmps15
  go_wp2_with fail
  refine HM.out.mono ?_
  rintro e w' ⟨rfl, rfl⟩
  go_wp2
  go_ret
  exact ⟨rfl, 0, rfl⟩
set_option maxHeartbeats 4000000 in
theorem dwait_any {B M : Nat} {d : Db} (w : World) (hs : ScIs w) (h : DbAt w B M d) : Calls Tryd.prog 15 #[.pointer (some ⟨B, 0, none⟩)] w (Quiet w (.int .i64 d.wait)) := by
  have HM := Lib.hid (made_yes w h)
  obtain ⟨c0, c1, c2, _, _, _⟩ := blk6 h.blk
  have HH := Lib.hid (fun n => have_any (w.drewN n) (h.keep n))
  have HW := Lib.hid (fun n => wait_any d.least d.most d.want d.have_ (w.drewN n) (hs.below (below_drewN (Below.refl _ _) n)))
  have hdw : d.wait = waitD d.least d.most d.want d.have_ := rfl
  obtain ⟨n, hn⟩ : ∃ n, d.wait = n := ⟨_, rfl⟩
  rw [← hdw, hn] at HW
  rw [hn]
  clear h hs hdw hn
  go_enter Tryd.func15, Tryd.ntmps15
  go_wp2_with fail
  refine HM.out.mono ?_
  rintro e w' ⟨rfl, rfl⟩
  go_wp2
  go_quiet ((first | (go_at_call 17; exact Calls.quiet_of (HH.out _)) | (go_at_call 7; exact Calls.quiet_of (HW.out _))))
  go_wp2
  go_ret
  exact ⟨rfl, _, rfl⟩
theorem due_no (v : Value) (w : World) (h : NoDb w v) : Calls Tryd.prog 18 #[v] w (Quiet w (.bool false)) := by
  have HM := Lib.hid (fun n => made_no v (w.drewN n) (h.below (below_drewN (Below.refl _ _) n)))
  clear h
  go_enter Tryd.func18, Tryd.ntmps18
  go_wp2
  go_quiet ((go_at_call 19; exact Calls.quiet_of_same ((HM.out _).mono fun _ _ ⟨h1, h2⟩ => ⟨h1, h2.symm⟩)))
  go_wp2
  go_ret
  exact ⟨rfl, _, rfl⟩
set_option maxHeartbeats 4000000 in
theorem due_any {B M : Nat} {d : Db} (w : World) (hs : ScIs w) (h : DbAt w B M d) : Calls Tryd.prog 18 #[.pointer (some ⟨B, 0, none⟩)] w (Quiet w (.bool d.due)) := by
  have HM := Lib.hid (fun n => made_yes (w.drewN n) (h.keep n))
  obtain ⟨_, _, _, _, c4, _⟩ := blk6 h.blk
  have HW := Lib.hid (fun n => dwait_any (w.drewN n) (hs.below (below_drewN (Below.refl _ _) n)) (h.keep n))
  unfold Db.due
  obtain ⟨n, hn⟩ : ∃ n, d.wait = n := ⟨_, rfl⟩
  obtain ⟨b, hb⟩ : ∃ b, decide (n ≤ (d.gone : Int)) = b := ⟨_, rfl⟩
  rw [hn] at HW ⊢
  rw [hb]
  clear h hs hn
  go_enter Tryd.func18, Tryd.ntmps18
  go_wp2
  go_quiet ((first | (go_at_call 19; exact Calls.quiet_of_same ((HM.out _).mono fun _ _ ⟨h1, h2⟩ => ⟨h1, h2.symm⟩)) | (go_at_call 15; exact Calls.quiet_of (HW.out _))))
  go_wp2
  go_ret
  exact ⟨rfl, _, rfl⟩
end Go.Proofs.YtnmcomciocffpaaDoor
