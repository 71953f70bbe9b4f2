/-
  sort.Search with whatever closure, walked.
-/
import Derived.Test.YtnobpbbedclbkaaZj6
import Derived.Shelf.Abstract
namespace Go.Proofs.Ytnobpbbedclbkaa
open Go.RowKit Go.Shelf
set_option linter.unusedSimpArgs false
set_option linter.unusedVariables false

set_option maxHeartbeats 1000000 in
theorem search_any (g n : Nat) (eg : ∀ args w, (callFunc g args).run Try.prog w = .ok (.enter g args) w) (hn : n ≤ 1000) (lb : Array Value) (p : Nat → Bool) (w : World)
    (hf : ∀ i W, i < n → Below w.heap.size w W → Calls Try.prog g (#[.int .i64 (i : Int)] ++ lb) W fun e W' => e = .returned (.bool (p i)) ∧ Below W.heap.size W W')
    (hmono : ∀ a b, a ≤ b → b < n → p a = true → p b = true) :
    Calls Try.prog 45 #[.int .i64 (n : Int), .func (.func g) #[] lb] w fun e w' => ∃ m : Nat, e = .returned (.int .i64 (m : Int)) ∧ m ≤ n ∧ ((∀ i, i < m → p i = false) ∧ ∀ i, m ≤ i → i < n → p i = true) ∧ Below w.heap.size w w' := by
  have HF := Lib.hid hf
  have HM := Lib.hid hmono
  clear hf hmono
  go_enter Try.func45, Try.ntmps45
  go_wp2
  go_loopw [5, 6] (fun s5 s6 wr => ∃ lo hi : Nat, s5 = .int .i64 (lo : Int) ∧ s6 = .int .i64 (hi : Int) ∧ lo ≤ hi ∧ hi ≤ n ∧ Hid ((∀ i, i < lo → p i = false) ∧ ∀ i, hi ≤ i → i < n → p i = true) ∧ Hid (Below w.heap.size w wr)) (fun s5 s6 _ => (intOf s6).toNat - (intOf s5).toNat)
  case atStart => exact ⟨0, n, rfl, rfl, Nat.zero_le _, Nat.le_refl _, Lib.hid ⟨fun i hi => absurd hi (Nat.not_lt_zero _), fun i h1 h2 => by omega⟩, Lib.hid (Below.refl _ _)⟩
  case round =>
    obtain ⟨lo, hi, rfl, rfl, hlh, hin, hI, hb⟩ := hrel
    by_cases hlt : lo < hi
    · have hc := HF.out ((lo + hi) / 2) wr (by omega) hb.out
      obtain ⟨m, hm⟩ : ∃ m, (lo + hi) / 2 = m := ⟨_, rfl⟩
      have hq : ((lo : Int) + (hi : Int)) / 2 = (m : Int) := by omega
      rw [hm] at hc
      cases hp : p m <;> rw [hp] at hc
      · have HI : Hid ((∀ i, i < m + 1 → p i = false) ∧ ∀ i, hi ≤ i → i < n → p i = true) := Lib.hid ⟨(fun i hi2 => by
          rw [Bool.eq_false_iff]
          intro e
          have := HM.out i m (by omega) (by omega) e
          rw [hp] at this
          cases this), hI.out.2⟩
        have HC := Lib.hid hc
        clear hp hc
        go_wp2_with (go_at_fn g; refine HC.out.mono ?_; rintro e w' ⟨rfl, hb2⟩)
        have HB := Lib.hid (hb.out.trans (hb2.mono hb.out.size))
        clear hb2 HC
        go_roundw
        case rel => exact ⟨m + 1, hi, by go_num, rfl, by omega, hin, HI, HB⟩
        case measure => simp [intOf]; omega
      · have HI : Hid ((∀ i, i < lo → p i = false) ∧ ∀ i, m ≤ i → i < n → p i = true) := Lib.hid ⟨hI.out.1, fun i h1 h2 => HM.out m i h1 h2 hp⟩
        have HC := Lib.hid hc
        clear hp hc
        go_wp2_with (go_at_fn g; refine HC.out.mono ?_; rintro e w' ⟨rfl, hb2⟩)
        have HB := Lib.hid (hb.out.trans (hb2.mono hb.out.size))
        clear hb2 HC
        go_roundw
        case rel => exact ⟨lo, m, rfl, rfl, by omega, by omega, HI, HB⟩
        case measure => simp [intOf]; omega
    · obtain rfl : lo = hi := by omega
      go_wp2
      go_ret
      exact ⟨lo, rfl, hin, hI.out, hb.out⟩
end Go.Proofs.Ytnobpbbedclbkaa
/-
  The program's table: a row's cells; New, made, Last, Raise, Copy, now, walked.
(scripts: each proof of an instance, once)
-/
namespace Go.Proofs.Ytnobpbbedclbkaa
open Go.RowKit
set_option linter.unusedSimpArgs false
set_option linter.unusedVariables false

theorem run_made_no {p_ : Prop} (h_ : p_ := by
  rcases h.or with rfl | ⟨B, rfl, k⟩
  · clear h
    go_enter f_made, n_made
    go_wp2
    go_ret
    exact ⟨rfl, rfl⟩
  · have c0 := cellsN k 0 _ rfl
    clear h k
    go_enter f_made, n_made
    go_wp2
    go_ret
    exact ⟨rfl, rfl⟩) : p_ := h_
theorem run_made_is {p_ : Prop} (h_ : p_ := by
  have c0 := h.c0
  obtain ⟨m, hm⟩ : ∃ m, t.most = m := ⟨_, rfl⟩
  rw [hm] at c0 h1
  have d0 : decide ((m : Int) > 0) = true := decide_eq_true (by omega)
  have d1 : decide (0 < m) = true := decide_eq_true (by omega)
  clear h hm
  go_enter f_made, n_made
  go_wp2
  go_ret
  exact ⟨rfl, rfl⟩) : p_ := h_
set_option maxHeartbeats 1000000 in
theorem run_new_any {p_ : Prop} (h_ : p_ := by
  have fin : ∀ (k : Int), k = (mostT m : Int) → ∀ (e : Ending), e = .returned (.pointer (some ⟨w.heap.size, 0, none⟩)) → ∃ B, e = .returned (.pointer (some ⟨B, 0, none⟩)) ∧ TAt (fun k => w.heap.size ≤ k) (w.alloc (.cells #[.int .i64 k, .int .u64 0, .slice none 0 0] tT)) B ⟨mostT m, [], 0⟩ ∧ Below w.heap.size w (w.alloc (.cells #[.int .i64 k, .int .u64 0, .slice none 0 0] tT)) := fun k hk e he => by subst hk; exact ⟨_, he, PtAt.new m w, below1 _ _ _⟩
  have hm1 := hm.1
  have hm2 := hm.2
  have FIN := Lib.hid fin
  clear fin hm
  by_cases h1 : m < 1
  · have hM : Hid ((1 : Int) = (mostT m : Int)) := Lib.hid (by unfold mostT; rw [if_pos h1]; rfl)
    go_enter f_new, n_new
    go_wp2
    go_ret
    exact FIN.out 1 hM.out _ rfl
  · by_cases h2 : 64 < m
    · have hM : Hid ((64 : Int) = (mostT m : Int)) := Lib.hid (by unfold mostT; rw [if_neg h1, if_pos h2]; rfl)
      go_enter f_new, n_new
      go_wp2
      go_ret
      exact FIN.out 64 hM.out _ rfl
    · have hM : Hid (m = (mostT m : Int)) := Lib.hid (by unfold mostT; rw [if_neg h1, if_neg h2]; omega)
      have h3 : 1 ≤ m := by omega
      have h4 : m ≤ 64 := by omega
      go_enter f_new, n_new
      go_wp2
      go_ret
      exact FIN.out m hM.out _ rfl) : p_ := h_
theorem run_last_any {p_ : Prop} (h_ : p_ := by
  have HM := Lib.hid (made_yes h)
  obtain ⟨hok, A, c, h⟩ := h
  have c1 := h.c1
  clear hok h
  go_enter f_Last, n_Last
  go_wp2_with fail
  refine HM.out.mono ?_
  rintro e w' ⟨rfl, rfl⟩
  go_wp2
  go_ret
  exact ⟨rfl, rfl⟩) : p_ := h_
theorem run_last_no {p_ : Prop} (h_ : p_ := by
  have HM := Lib.hid (made_no h)
  clear h
  go_enter f_Last, n_Last
  go_wp2_with fail
  refine HM.out.mono ?_
  rintro e w' ⟨rfl, rfl⟩
  go_wp2
  go_ret
  exact ⟨rfl, rfl⟩) : p_ := h_
theorem run_raise_is {p_ : Prop} (h_ : p_ := by
  have HM := Lib.hid (made_is h h1)
  have c1 := h.c1
  have z1 := h.froz 1
  have H := Lib.hid (fun n (e : t.raise i = { t with last := n }) => (⟨by rw [e]; exact h.setLast n, But.set (S := (· = B)) w (p := ⟨B, 1, none⟩) rfl _⟩ : TIs S (w.setCell ⟨B, 1, none⟩ (.int .u64 (n : Int))) B A c (t.raise i) ∧ But (· = B) w (w.setCell ⟨B, 1, none⟩ (.int .u64 (n : Int)))))
  clear h h1
  by_cases h1 : t.last < i
  · have q : (t.last : Int) < (i : Int) := by omega
    have e := Lib.hid (raise_max h1)
    go_enter f_Raise, n_Raise
    go_wp2_with fail
    refine HM.out.mono ?_
    rintro e w' ⟨rfl, rfl⟩
    go_wp2
    exact bodyPost_end (results_none rfl _ _ _) rfl ⟨rfl, H.out i e.out⟩
  · have q : ¬ (t.last : Int) < (i : Int) := by omega
    have e := Lib.hid (raise_same h1)
    go_enter f_Raise, n_Raise
    go_wp2_with fail
    refine HM.out.mono ?_
    rintro e w' ⟨rfl, rfl⟩
    go_wp2
    exact bodyPost_end (results_none rfl _ _ _) rfl ⟨rfl, H.out t.last e.out⟩) : p_ := h_
theorem run_copy_any {p_ : Prop} (h_ : p_ := by
  have HM := Lib.hid (made_yes h)
  obtain ⟨hok, A, c, h⟩ := h
  have c0 := h.c0
  have c1 := h.c1
  have c2 := h.c2
  have HN := Lib.hid (h.copied hok)
  obtain ⟨L, hL⟩ : ∃ L, t.l.length = L := ⟨_, rfl⟩
  rw [hL] at c2 HN
  clear hok h hL
  go_enter f_Copy, n_Copy
  go_wp2_with fail
  refine HM.out.mono ?_
  rintro e w' ⟨rfl, rfl⟩
  go_wp2
  go_ret
  exact ⟨_, rfl, Nat.le_refl _, HN.out, below1 _ _ _⟩) : p_ := h_
theorem run_now_is {p_ : Prop} (h_ : p_ := by
  have HM := Lib.hid (made_is h hmo)
  have c2 := h.c2
  have HV := Lib.hid (values_any A t.l.length c w)
  have HN : Hid (Now w (w.alloc (.cells #[.slice A t.l.length c] tSR)) (.func (.func gIt) #[] #[.pointer (some ⟨w.heap.size, 0, none⟩)]) t.l w.heap.size A c) := Lib.hid ⟨rfl, heap_alloc_new w _, h.row.below (below1 _ _ _), Nat.le_refl _, fun b off e hn => by
    obtain ⟨b', off', e', hb, _⟩ := h.row.at_ (j := 0) hn hn
    rw [e] at e'
    cases e'
    exact hb, below1 _ _ _⟩
  obtain ⟨L, hL⟩ : ∃ L, t.l.length = L := ⟨_, rfl⟩
  rw [hL] at c2 HV HN
  clear hmo h hL
  go_enter f_now, n_now
  go_wp2_with fail
  refine HM.out.mono ?_
  rintro e w' ⟨rfl, rfl⟩
  go_wp2_with fail
  refine HV.out.mono ?_
  rintro e w' ⟨rfl, rfl⟩
  go_wp2
  go_ret
  exact ⟨_, _, rfl, HN.out⟩) : p_ := h_
theorem run_now_no {p_ : Prop} (h_ : p_ := by
  have HM := Lib.hid (made_no h)
  have HV := Lib.hid (values_any none 0 0 w)
  have HN : Hid (Now w (w.alloc (.cells #[.slice none 0 0] tSR)) (.func (.func gIt) #[] #[.pointer (some ⟨w.heap.size, 0, none⟩)]) [] w.heap.size none 0) := Lib.hid ⟨rfl, heap_alloc_new w _, SK.zero, Nat.le_refl _, (fun _ _ e => by cases e), below1 _ _ _⟩
  clear h
  go_enter f_now, n_now
  go_wp2_with fail
  refine HM.out.mono ?_
  rintro e w' ⟨rfl, rfl⟩
  go_wp2_with fail
  refine HV.out.mono ?_
  rintro e w' ⟨rfl, rfl⟩
  go_wp2
  go_ret
  exact ⟨_, _, _, _, rfl, HN.out⟩) : p_ := h_
end Go.Proofs.Ytnobpbbedclbkaa
