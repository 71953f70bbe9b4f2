/-
  New, Confirm, Tick of the program's suspicion, walked (layer 11).
-/
import Derived.Test.YtnmcomciocffpaaDoorDbRead
namespace Go.Proofs.YtnmcomciocffpaaDoor
open Go.RowKit Go.Maps
set_option linter.unusedSimpArgs false
set_option linter.unusedVariables false

theorem new_no (least most want f : Int) (w : World) (hs : ScIs w) (h : waitOk least most want = false) : Calls Tryd.prog 10 #[.int .i64 least, .int .i64 most, .int .i64 want, .int .i64 f] w (Quiet w (.tuple #[.pointer none, .int .i64 2])) := by
  have H := Lib.hid (wait_any least most want 0 w hs)
  rw [waitD_no h] at H
  clear h hs
  go_enter Tryd.func10, Tryd.ntmps10
  go_wp2_with fail
  refine H.out.mono ?_
  rintro e w' ⟨rfl, m, rfl⟩
  go_wp2
  go_ret2
  exact ⟨rfl, m, rfl⟩
theorem new_yes (least most want f : Int) (hf : wfI f) (w : World) (hs : ScIs w) (h : waitOk least most want = true) : Calls Tryd.prog 10 #[.int .i64 least, .int .i64 most, .int .i64 want, .int .i64 f] w fun e w' => ∃ B M, e = .returned (.tuple #[.pointer (some ⟨B, 0, none⟩), .int .i64 0]) ∧ DbAt w' B M (Db.new least most want f) ∧ w.heap.size ≤ B ∧ w.heap.size ≤ M ∧ Below w.heap.size w w' := by
  have H := Lib.hid (wait_any least most want 0 w hs)
  have hn := waitD_pos h 0
  obtain ⟨n, hnn⟩ : ∃ n, waitD least most want 0 = n := ⟨_, rfl⟩
  rw [hnn] at H hn
  have hn' : (n == 0) = false := by rw [beq_eq_false_iff_ne]; exact hn
  have hmm := @run_makeMap Tryd.prog
  have HOK := Lib.hid (Db.new_ok (f := f) h)
  have HF := Lib.hid hf
  clear hn hnn hs h hf
  go_enter Tryd.func10, Tryd.ntmps10
  go_wp2_with fail
  refine H.out.mono ?_
  rintro e w' ⟨rfl, m, rfl⟩
  have hm0 : IsMap KI unitEl ((w.drewN m).alloc (.map #[] 0)) (w.drewN m).heap.size (fun _ => none) 0 := IsMap.made (w.drewN m)
  have HM0 := Lib.hid hm0
  clear hm0
  go_wp2
  go_ret2
  have hs0 : (w.drewN m).heap.size = w.heap.size := rfl
  have hs : ((w.drewN m).alloc (.map #[] 0)).heap.size = w.heap.size + 1 := by simp [hs0]
  refine ⟨_, _, rfl, ⟨?_, ?_, HOK.out, ?_⟩, by omega, Nat.le_refl _, (((below_drewN (Below.refl _ w) m).alloc (Nat.le_refl _) _).alloc (by simp [hs0]) _)⟩
  · have := heap_alloc_new ((w.drewN m).alloc (.map #[] 0)) (.cells #[.int .i64 least, .int .i64 most, .int .i64 want, .int .i64 f, .int .i64 0, .map (some w.heap.size)] TD)
    rw [hs] at this
    exact this
  · exact HM0.out.block (heap_alloc_old _ _ HM0.out.lt)
  · intro g hg
    have : g = f := by simpa [Db.new] using hg
    rw [this]
    exact HF.out
theorem tick_no (v : Value) (w : World) (h : NoDb w v) : Calls Tryd.prog 13 #[v] w (Quiet w (.bool false)) := by
  have HM := Lib.hid (made_no v w h)
  clear h
  go_enter Tryd.func13, Tryd.ntmps13
  go_wp2_with fail
  refine HM.out.mono ?_
  rintro e w' ⟨rfl, rfl⟩
  go_wp2
  go_ret
  exact ⟨rfl, 0, rfl⟩
theorem DbAt.ticked {w : World} {B M : Nat} {d : Db} (h : DbAt w B M d) : DbAt (w.setCell ⟨B, 4, none⟩ (.int .i64 ((d.gone : Int) + 1))) B M d.tick :=
  ⟨by rw [block_set h.blk 4 _]; rfl, h.map.block (Below.heap_setCell _ _ _ _ (fun e => h.ne e.symm)), Db.tick_ok h.ok, h.wf⟩
set_option maxHeartbeats 4000000 in
theorem tick_any {B M : Nat} {d : Db} (w : World) (hs : ScIs w) (h : DbAt w B M d) (hg : d.gone < 1000000000) : Calls Tryd.prog 13 #[.pointer (some ⟨B, 0, none⟩)] w fun e w' => e = .returned (.bool d.tick.due) ∧ DbAt w' B M d.tick ∧ But (· = B) w w' := by
  have HM := Lib.hid (made_yes w h)
  obtain ⟨_, _, _, _, c4, _⟩ := blk6 h.blk
  have g4 : w.frozen? ⟨B, 4, none⟩ = false := by simp [World.frozen?, h.blk]
  have ht := h.ticked
  have hb : But (· = B) w (w.setCell ⟨B, 4, none⟩ (.int .i64 ((d.gone : Int) + 1))) := But.set (S := (· = B)) w (p := ⟨B, 4, none⟩) rfl _
  have hg0 : B ≠ 0 := fun e => by
    have h1 := hs.at_ (i := 9) (by omega)
    rw [← e, cell_of_row _ _ _ _ _ _ h.blk] at h1
    cases h1
  have HD := Lib.hid (due_any _ (hs.but hb (fun e => hg0 e.symm)) ht)
  have HT := Lib.hid ht
  have HB := Lib.hid hb
  have hgg : ((d.gone : Int)) < 1000000000 := by omega
  obtain ⟨g, hgn⟩ : ∃ g : Int, (d.gone : Int) = g := ⟨_, rfl⟩
  rw [hgn] at HD HT HB c4 hgg
  have hg1 : 0 ≤ g := by omega
  clear h hs ht hb hg hgn hg0
  go_enter Tryd.func13, Tryd.ntmps13
  go_wp2_with fail
  refine HM.out.mono ?_
  rintro e w' ⟨rfl, rfl⟩
  go_wp2_with fail
  refine HD.out.mono ?_
  rintro e w' ⟨rfl, m, rfl⟩
  go_wp2
  go_ret
  exact ⟨rfl, HT.out.keep m, HB.out.drewN m⟩
theorem confirm_no (v : Value) (f : Int) (w : World) (h : NoDb w v) : Calls Tryd.prog 11 #[v, .int .i64 f] w (Quiet w (.bool false)) := by
  have HM := Lib.hid (fun n => made_no v (w.drewN n) (h.below (below_drewN (Below.refl _ _) n)))
  clear h
  go_enter Tryd.func11, Tryd.ntmps11
  go_wp2
  go_quiet ((go_at_call 19; exact Calls.quiet_of_same ((HM.out _).mono fun _ _ ⟨h1, h2⟩ => ⟨h1, h2.symm⟩)))
  go_wp2
  go_ret
  exact ⟨rfl, _, rfl⟩
def ConfirmPost (w : World) (B M : Nat) (d : Db) (f : Int) (e : Ending) (w' : World) : Prop := e = .returned (.bool (d.takes f)) ∧ DbAt w' B M (d.confirm f) ∧ But (· = M) w w'
theorem ConfirmPost.no {w w' : World} {B M : Nat} {d : Db} {f : Int} {e : Ending} (h : DbAt w B M d) (ht : d.takes f = false) (he : e = .returned (.bool false)) (hb : Below w.heap.size w w') : ConfirmPost w B M d f e w' := by
  refine ⟨by rw [ht]; exact he, ?_, But.of_below hb⟩
  have : d.confirm f = d := by unfold Db.confirm; rw [if_neg (by rw [ht]; simp)]
  rw [this]
  exact h.below hb
theorem ConfirmPost.yes {w w1 w2 : World} {B M : Nat} {d : Db} {f : Int} (h : DbAt w B M d) (ht : d.takes f = true) (hf : wfI f) (hb : Below w.heap.size w w1) (hg : w1.grownBy w2 (some M)) (hm : IsMap KI unitEl w2 M (putM (setU d.from_.tail) f (some ())) (d.from_.tail.length + 1)) : ConfirmPost w B M d f (.returned (.bool true)) w2 := by
  have hb2 : But (· = M) w1 w2 := But.of_grown hg (fun r e _ => by cases e; rfl)
  have hbut : But (· = M) w w2 := (But.of_below hb).trans hb2
  have e : d.confirm f = ⟨d.least, d.most, d.want, d.from_ ++ [f], d.gone⟩ := by unfold Db.confirm; rw [if_pos ht]
  have hok := Db.confirm_ok h.ok f
  have hsp := Db.split h.ok
  have htl : (d.from_ ++ [f]).tail = d.from_.tail ++ [f] := by rw [hsp]; rfl
  refine ⟨by rw [ht], ?_, hbut⟩
  rw [e] at hok ⊢
  refine ⟨?_, ?_, hok, ?_⟩
  · have hr : Db.rep ⟨d.least, d.most, d.want, d.from_ ++ [f], d.gone⟩ = d.rep := by
      show (d.from_ ++ [f]).headD 0 = d.rep
      rw [hsp]
      rfl
    rw [hr]
    exact (hbut.block B h.lt.1 h.ne).trans h.blk
  · show IsMap KI unitEl w2 M (setU (d.from_ ++ [f]).tail) (d.from_ ++ [f]).tail.length
    rw [htl, List.length_append, ← setU_put]
    exact hm
  · intro g hg'
    rcases List.mem_append.1 hg' with h1 | h1
    · exact h.wf g h1
    · rw [List.mem_singleton.1 h1]
      exact hf
set_option maxHeartbeats 8000000 in
theorem confirm_any {B M : Nat} {d : Db} (f : Int) (hf : wfI f) (w : World) (h : DbAt w B M d) : Calls Tryd.prog 11 #[.pointer (some ⟨B, 0, none⟩), .int .i64 f] w (ConfirmPost w B M d f) := by
  have HM := Lib.hid (fun n => made_yes (w.drewN n) (h.keep n))
  obtain ⟨_, _, c2, c3, _, c5⟩ := blk6 h.blk
  have hsp := Db.split h.ok
  have hht := Db.have_tail d h.ok
  have HH := Lib.hid h
  by_cases q1 : f = d.rep
  · have HT : Hid (d.takes f = false) := Lib.hid (by
      cases ht : d.takes f with
      | false => rfl
      | true =>
        have := ((Db.takes_iff d f).1 ht).1
        rw [hsp, q1] at this
        simp at this)
    rw [← q1] at c3
    clear h hsp hht q1
    go_enter Tryd.func11, Tryd.ntmps11
    go_wp2
    go_quiet ((go_at_call 19; exact Calls.quiet_of_same ((HM.out _).mono fun _ _ ⟨h1, h2⟩ => ⟨h1, h2.symm⟩)))
    go_wp2
    go_ret
    exact ConfirmPost.no HH.out HT.out rfl (below_drewN (Below.refl _ _) _)
  · have hl := h.len
    have hk := h.look hf
    obtain ⟨L, hL⟩ : ∃ L, d.from_.tail.length = L := ⟨_, rfl⟩
    rw [hL] at hl hht
    have z1 : (f == d.rep) = false := by rw [beq_eq_false_iff_ne]; exact q1
    by_cases q2 : d.want ≤ (L : Int)
    · have HT : Hid (d.takes f = false) := Lib.hid (by
        cases ht : d.takes f with
        | false => rfl
        | true =>
          have := ((Db.takes_iff d f).1 ht).2
          omega)
      clear h hsp hht q1 hk hL
      go_enter Tryd.func11, Tryd.ntmps11
      go_wp2
      go_quiet ((go_at_call 19; exact Calls.quiet_of_same ((HM.out _).mono fun _ _ ⟨h1, h2⟩ => ⟨h1, h2.symm⟩)))
      go_wp2
      go_ret
      exact ConfirmPost.no HH.out HT.out rfl (below_drewN (Below.refl _ _) _)
    · have q2' : decide (d.want ≤ (L : Int)) = false := by simpa using q2
      by_cases q3 : f ∈ d.from_.tail
      · have HT : Hid (d.takes f = false) := Lib.hid (by
          cases ht : d.takes f with
          | false => rfl
          | true =>
            have := ((Db.takes_iff d f).1 ht).1
            exact absurd (List.mem_of_mem_tail q3) this)
        rw [decide_eq_true q3] at hk
        clear h hsp hht q1 q2 q3 hL
        go_enter Tryd.func11, Tryd.ntmps11
        go_wp2
        go_quiet ((go_at_call 19; exact Calls.quiet_of_same ((HM.out _).mono fun _ _ ⟨h1, h2⟩ => ⟨h1, h2.symm⟩)))
        go_wp2
        go_ret
        exact ConfirmPost.no HH.out HT.out rfl (Below.alloc (below_drewN (Below.refl _ _) _) (Nat.le_refl _) _)
      · have HT : Hid (d.takes f = true) := Lib.hid ((Db.takes_iff d f).2 ⟨by rw [hsp]; simp [q1, q3], by omega⟩)
        have hcap : d.from_.tail.length < maxLen := by have := Db.few9 h.ok; rw [List.length_tail]; unfold maxLen; omega
        have HCap := Lib.hid hcap
        have HF := Lib.hid hf
        have hBl := h.lt.1
        rw [decide_eq_false q3] at hk
        clear h hsp hht q1 q2 q3 hL hcap hf
        go_enter Tryd.func11, Tryd.ntmps11
        go_wp2
        go_quiet ((go_at_call 19; exact Calls.quiet_of_same ((HM.out _).mono fun _ _ ⟨h1, h2⟩ => ⟨h1, h2.symm⟩)))
        rename_i nq
        have hb1 : Below w.heap.size w ((w.drewN nq).alloc (.cells #[] 46)) := Below.alloc (below_drewN (Below.refl _ _) _) (Nat.le_refl _) _
        obtain ⟨W2, hrun, him, hgr, hsz⟩ := ((HH.out.below hb1).map).put Tryd.underlying41 (k := f) HF.out () HCap.out
        have hrun' : (Instr.mapUpdate TM (.map (some M)) (.int .i64 f) (.agg #[])).run Tryd.prog ((w.drewN nq).alloc (.cells #[] 46)) = .ok () W2 := hrun
        clear hrun
        have HI := Lib.hid him
        have HG := Lib.hid hgr
        have HB1 := Lib.hid hb1
        have c5' := (hb1.cell (p := ⟨B, 5, none⟩) hBl).trans c5
        clear him hgr hsz hb1
        go_wp2
        go_ret
        exact ConfirmPost.yes HH.out HT.out HF.out HB1.out HG.out HI.out
end Go.Proofs.YtnmcomciocffpaaDoor
