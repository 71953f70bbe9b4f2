import Derived.Test.YtilkbfmaofmjoaaGreatDoorZj10
namespace Go.Proofs.YtilkbfmaofmjoaaGreatDoor
open Go.RowKit
set_option linter.unusedSimpArgs false
set_option linter.unusedVariables false
theorem run_made_is {p_ : Prop} (h_ : p_ := by
  have c0 := h.c0
  obtain ⟨m, hm⟩ : ∃ m, t.most = m := ⟨_, rfl⟩
  rw [hm] at c0 h1
  have d0 : decide ((m : Int) > 0) = true := decide_eq_true (by omega)
  have d1 : decide (0 < m) = true := decide_eq_true (by omega)
  clear h hm
  go_enter f_made, n_made
  go_wp2
  go_ret
  exact ⟨rfl, rfl⟩) : p_ := h_
set_option maxHeartbeats 1000000 in
theorem run_new_any {p_ : Prop} (h_ : p_ := by
  have fin : ∀ (k : Int), k = (mostT m : Int) → ∀ (e : Ending), e = .returned (.pointer (some ⟨w.heap.size, 0, none⟩)) → ∃ B, e = .returned (.pointer (some ⟨B, 0, none⟩)) ∧ TAt (fun k => w.heap.size ≤ k) (w.alloc (.cells #[.int .i64 k, .int .u64 0, .slice none 0 0] tT)) B ⟨mostT m, [], 0⟩ ∧ Below w.heap.size w (w.alloc (.cells #[.int .i64 k, .int .u64 0, .slice none 0 0] tT)) := fun k hk e he => by subst hk; exact ⟨_, he, PtAt.new m w, below1 _ _ _⟩
  have hm1 := hm.1
  have hm2 := hm.2
  have FIN := Lib.hid fin
  clear fin hm
  by_cases h1 : m < 1
  · have hM : Hid ((1 : Int) = (mostT m : Int)) := Lib.hid (by unfold mostT; rw [if_pos h1]; rfl)
    go_enter f_new, n_new
    go_wp2
    go_ret
    exact FIN.out 1 hM.out _ rfl
  · by_cases h2 : 64 < m
    · have hM : Hid ((64 : Int) = (mostT m : Int)) := Lib.hid (by unfold mostT; rw [if_neg h1, if_pos h2]; rfl)
      go_enter f_new, n_new
      go_wp2
      go_ret
      exact FIN.out 64 hM.out _ rfl
    · have hM : Hid (m = (mostT m : Int)) := Lib.hid (by unfold mostT; rw [if_neg h1, if_neg h2]; omega)
      have h3 : 1 ≤ m := by omega
      have h4 : m ≤ 64 := by omega
      go_enter f_new, n_new
      go_wp2
      go_ret
      exact FIN.out m hM.out _ rfl) : p_ := h_
theorem run_last_any {p_ : Prop} (h_ : p_ := by
  have HM := Lib.hid (made_yes h)
  obtain ⟨hok, A, c, h⟩ := h
  have c1 := h.c1
  clear hok h
  go_enter f_Last, n_Last
  go_wp2_with fail
  refine HM.out.mono ?_
  rintro e w' ⟨rfl, rfl⟩
  go_wp2
  go_ret
  exact ⟨rfl, rfl⟩) : p_ := h_
theorem run_raise_is {p_ : Prop} (h_ : p_ := by
  have HM := Lib.hid (made_is h h1)
  have c1 := h.c1
  have z1 := h.froz 1
  have H := Lib.hid (fun n (e : t.raise i = { t with last := n }) => (⟨by rw [e]; exact h.setLast n, But.set (S := (· = B)) w (p := ⟨B, 1, none⟩) rfl _⟩ : TIs S (w.setCell ⟨B, 1, none⟩ (.int .u64 (n : Int))) B A c (t.raise i) ∧ But (· = B) w (w.setCell ⟨B, 1, none⟩ (.int .u64 (n : Int)))))
  clear h h1
  by_cases h1 : t.last < i
  · have q : (t.last : Int) < (i : Int) := by omega
    have e := Lib.hid (raise_max h1)
    go_enter f_Raise, n_Raise
    go_wp2_with fail
    refine HM.out.mono ?_
    rintro e w' ⟨rfl, rfl⟩
    go_wp2
    exact bodyPost_end (results_none rfl _ _ _) rfl ⟨rfl, H.out i e.out⟩
  · have q : ¬ (t.last : Int) < (i : Int) := by omega
    have e := Lib.hid (raise_same h1)
    go_enter f_Raise, n_Raise
    go_wp2_with fail
    refine HM.out.mono ?_
    rintro e w' ⟨rfl, rfl⟩
    go_wp2
    exact bodyPost_end (results_none rfl _ _ _) rfl ⟨rfl, H.out t.last e.out⟩) : p_ := h_
theorem run_now_is {p_ : Prop} (h_ : p_ := by
  have HM := Lib.hid (made_is h hmo)
  have c2 := h.c2
  have HV := Lib.hid (values_any A t.l.length c w)
  have HN : Hid (Now w (w.alloc (.cells #[.slice A t.l.length c] tSR)) (.func (.func gIt) #[] #[.pointer (some ⟨w.heap.size, 0, none⟩)]) t.l w.heap.size A c) := Lib.hid ⟨rfl, heap_alloc_new w _, h.row.below (below1 _ _ _), Nat.le_refl _, fun b off e hn => by
    obtain ⟨b', off', e', hb, _⟩ := h.row.at_ (j := 0) hn hn
    rw [e] at e'
    cases e'
    exact hb, below1 _ _ _⟩
  obtain ⟨L, hL⟩ : ∃ L, t.l.length = L := ⟨_, rfl⟩
  rw [hL] at c2 HV HN
  clear hmo h hL
  go_enter f_now, n_now
  go_wp2_with fail
  refine HM.out.mono ?_
  rintro e w' ⟨rfl, rfl⟩
  go_wp2_with fail
  refine HV.out.mono ?_
  rintro e w' ⟨rfl, rfl⟩
  go_wp2
  go_ret
  exact ⟨_, _, rfl, HN.out⟩) : p_ := h_
end Go.Proofs.YtilkbfmaofmjoaaGreatDoor
