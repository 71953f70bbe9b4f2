/-
  The accesses to a command's fields (layer 20): how they are made.
-/
import Derived.Test.YtbhhalkpghcflaaZj8
import Derived.Test.YtbhhalkpghcflaaZj10
import Derived.Laws.CopyOwn
namespace Go.Proofs.Ytbhhalkpghcflaa
open Go.RowKit Go.Rel
set_option linter.unusedSimpArgs false
set_option linter.unusedVariables false

abbrev TAc : TypeId := 72
abbrev TAcs : TypeId := 73
def fnV (f b : Nat) : Value := .func (.func f) #[] #[.pointer (some ⟨b, 0, none⟩)]
/-- An access was made: its box lies at w.heap.size, and holds p. -/
def Made (w : World) (v p : Value) (e : Ending) (w' : World) : Prop := e = .returned v ∧ w'.heap.size = w.heap.size + 2 ∧ w'.cell? ⟨w.heap.size, 0, none⟩ = some p ∧ Below w.heap.size w w'
theorem hmf (fn : Fn) (first cap : Array Value) (w : World) : (Instr.makeFunc fn first cap).run Try.prog w = .ok (.func fn first cap) w := rfl
theorem made_of (w : World) (p : Value) (T : TypeId) (v : Value) (cs : Array Value) : Made w v p (.returned v) ((w.alloc (.cells #[p] T)).alloc (.cells cs TAc)) := by
  refine ⟨rfl, by simp, ?_, (((Below.refl _ w).alloc (Nat.le_refl _) _).alloc (by simp) _)⟩
  rw [World.cell?_alloc_old _ _ _ (by simp), cell_of_row _ w.heap.size 0 _ _ (0, 0) (heap_alloc_new w _)]
  rfl
/-- The functions of a field's access, by its place. -/
def fnE (k : Nat) : Nat := if k < 3 then 57 else if k < 11 then 61 else if k < 12 then 68 else if k < 13 then 75 else if k < 15 then 81 else 85
def fnR (k : Nat) : Nat := if k < 3 then 58 else if k < 11 then 62 else if k < 12 then 69 else if k < 13 then 76 else if k < 15 then 82 else 86
def fnL (k : Nat) : Nat := if k < 3 then 59 else if k < 11 then 64 else if k < 12 then 71 else if k < 13 then 77 else if k < 15 then 83 else 89
def fnD (k : Nat) : Nat := if k < 3 then 60 else if k < 11 then 66 else if k < 12 then 73 else if k < 13 then 79 else if k < 15 then 84 else 90
/-- What the second has captured. -/
def capR (k b : Nat) : Array Value := if 12 ≤ k ∧ k < 15 then #[] else #[.pointer (some ⟨b, 0, none⟩)]
def acC (k b : Nat) : List Value := [fnV (fnE k) b, .func (.func (fnR k)) #[] (capR k b), fnV (fnL k) b, fnV (fnD k) b]

theorem number_acc (N o : Nat) (w : World) : Calls Try.prog 51 #[.pointer (some ⟨N, o, none⟩)] w (Made w (.agg #[.func (.func 57) #[] #[.pointer (some ⟨w.heap.size, 0, none⟩)], .func (.func 58) #[] #[.pointer (some ⟨w.heap.size, 0, none⟩)], .func (.func 59) #[] #[.pointer (some ⟨w.heap.size, 0, none⟩)], .func (.func 60) #[] #[.pointer (some ⟨w.heap.size, 0, none⟩)]]) (.pointer (some ⟨N, o, none⟩))) := by
  have h1 := Lib.hid (fun T v cs => made_of w (.pointer (some ⟨N, o, none⟩)) T v cs)
  have hmf := hmf
  go_enter Try.func51, Try.ntmps51
  go_wp2
  exact bodyPost_ret (v := .agg #[.func (.func 57) #[] #[.pointer (some ⟨w.heap.size, 0, none⟩)], .func (.func 58) #[] #[.pointer (some ⟨w.heap.size, 0, none⟩)], .func (.func 59) #[] #[.pointer (some ⟨w.heap.size, 0, none⟩)], .func (.func 60) #[] #[.pointer (some ⟨w.heap.size, 0, none⟩)]]) (by simp [results, Try.results51, go_sem]) rfl (h1.out _ _ _)

theorem text_acc (N o : Nat) (w : World) : Calls Try.prog 52 #[.pointer (some ⟨N, o, none⟩)] w (Made w (.agg #[.func (.func 61) #[] #[.pointer (some ⟨w.heap.size, 0, none⟩)], .func (.func 62) #[] #[.pointer (some ⟨w.heap.size, 0, none⟩)], .func (.func 64) #[] #[.pointer (some ⟨w.heap.size, 0, none⟩)], .func (.func 66) #[] #[.pointer (some ⟨w.heap.size, 0, none⟩)]]) (.pointer (some ⟨N, o, none⟩))) := by
  have h1 := Lib.hid (fun T v cs => made_of w (.pointer (some ⟨N, o, none⟩)) T v cs)
  have hmf := hmf
  go_enter Try.func52, Try.ntmps52
  go_wp2
  exact bodyPost_ret (v := .agg #[.func (.func 61) #[] #[.pointer (some ⟨w.heap.size, 0, none⟩)], .func (.func 62) #[] #[.pointer (some ⟨w.heap.size, 0, none⟩)], .func (.func 64) #[] #[.pointer (some ⟨w.heap.size, 0, none⟩)], .func (.func 66) #[] #[.pointer (some ⟨w.heap.size, 0, none⟩)]]) (by simp [results, Try.results52, go_sem]) rfl (h1.out _ _ _)

theorem texts_acc (N o : Nat) (w : World) : Calls Try.prog 53 #[.pointer (some ⟨N, o, none⟩)] w (Made w (.agg #[.func (.func 68) #[] #[.pointer (some ⟨w.heap.size, 0, none⟩)], .func (.func 69) #[] #[.pointer (some ⟨w.heap.size, 0, none⟩)], .func (.func 71) #[] #[.pointer (some ⟨w.heap.size, 0, none⟩)], .func (.func 73) #[] #[.pointer (some ⟨w.heap.size, 0, none⟩)]]) (.pointer (some ⟨N, o, none⟩))) := by
  have h1 := Lib.hid (fun T v cs => made_of w (.pointer (some ⟨N, o, none⟩)) T v cs)
  have hmf := hmf
  go_enter Try.func53, Try.ntmps53
  go_wp2
  exact bodyPost_ret (v := .agg #[.func (.func 68) #[] #[.pointer (some ⟨w.heap.size, 0, none⟩)], .func (.func 69) #[] #[.pointer (some ⟨w.heap.size, 0, none⟩)], .func (.func 71) #[] #[.pointer (some ⟨w.heap.size, 0, none⟩)], .func (.func 73) #[] #[.pointer (some ⟨w.heap.size, 0, none⟩)]]) (by simp [results, Try.results53, go_sem]) rfl (h1.out _ _ _)

theorem flag_acc (N o : Nat) (w : World) : Calls Try.prog 54 #[.pointer (some ⟨N, o, none⟩)] w (Made w (.agg #[.func (.func 75) #[] #[.pointer (some ⟨w.heap.size, 0, none⟩)], .func (.func 76) #[] #[], .func (.func 77) #[] #[.pointer (some ⟨w.heap.size, 0, none⟩)], .func (.func 79) #[] #[.pointer (some ⟨w.heap.size, 0, none⟩)]]) (.pointer (some ⟨N, o, none⟩))) := by
  have h1 := Lib.hid (fun T v cs => made_of w (.pointer (some ⟨N, o, none⟩)) T v cs)
  have hmf := hmf
  go_enter Try.func54, Try.ntmps54
  go_wp2
  exact bodyPost_ret (v := .agg #[.func (.func 75) #[] #[.pointer (some ⟨w.heap.size, 0, none⟩)], .func (.func 76) #[] #[], .func (.func 77) #[] #[.pointer (some ⟨w.heap.size, 0, none⟩)], .func (.func 79) #[] #[.pointer (some ⟨w.heap.size, 0, none⟩)]]) (by simp [results, Try.results54, go_sem]) rfl (h1.out _ _ _)

theorem index_acc (N o : Nat) (w : World) : Calls Try.prog 55 #[.pointer (some ⟨N, o, none⟩)] w (Made w (.agg #[.func (.func 81) #[] #[.pointer (some ⟨w.heap.size, 0, none⟩)], .func (.func 82) #[] #[], .func (.func 83) #[] #[.pointer (some ⟨w.heap.size, 0, none⟩)], .func (.func 84) #[] #[.pointer (some ⟨w.heap.size, 0, none⟩)]]) (.pointer (some ⟨N, o, none⟩))) := by
  have h1 := Lib.hid (fun T v cs => made_of w (.pointer (some ⟨N, o, none⟩)) T v cs)
  have hmf := hmf
  go_enter Try.func55, Try.ntmps55
  go_wp2
  exact bodyPost_ret (v := .agg #[.func (.func 81) #[] #[.pointer (some ⟨w.heap.size, 0, none⟩)], .func (.func 82) #[] #[], .func (.func 83) #[] #[.pointer (some ⟨w.heap.size, 0, none⟩)], .func (.func 84) #[] #[.pointer (some ⟨w.heap.size, 0, none⟩)]]) (by simp [results, Try.results55, go_sem]) rfl (h1.out _ _ _)

theorem commands_acc (N o : Nat) (w : World) : Calls Try.prog 56 #[.pointer (some ⟨N, o, none⟩)] w (Made w (.agg #[.func (.func 85) #[] #[.pointer (some ⟨w.heap.size, 0, none⟩)], .func (.func 86) #[] #[.pointer (some ⟨w.heap.size, 0, none⟩)], .func (.func 89) #[] #[.pointer (some ⟨w.heap.size, 0, none⟩)], .func (.func 90) #[] #[.pointer (some ⟨w.heap.size, 0, none⟩)]]) (.pointer (some ⟨N, o, none⟩))) := by
  have h1 := Lib.hid (fun T v cs => made_of w (.pointer (some ⟨N, o, none⟩)) T v cs)
  have hmf := hmf
  go_enter Try.func56, Try.ntmps56
  go_wp2
  exact bodyPost_ret (v := .agg #[.func (.func 85) #[] #[.pointer (some ⟨w.heap.size, 0, none⟩)], .func (.func 86) #[] #[.pointer (some ⟨w.heap.size, 0, none⟩)], .func (.func 89) #[] #[.pointer (some ⟨w.heap.size, 0, none⟩)], .func (.func 90) #[] #[.pointer (some ⟨w.heap.size, 0, none⟩)]]) (by simp [results, Try.results56, go_sem]) rfl (h1.out _ _ _)

/-- All sixteen: the boxes lie at h + 1, h + 3, .. -/
def acCs (h : Nat) : List Value := (List.range 16).flatMap fun k => acC k (h + 1 + 2 * k)
def AcAt (w : World) (h N : Nat) : Prop := ∀ k, k < 16 → w.cell? ⟨h + 1 + 2 * k, 0, none⟩ = some (.pointer (some ⟨N, 1 + k, none⟩))
theorem AcAt.below {w w' : World} {h N B : Nat} (a : AcAt w h N) (hb : Below B w w') (hB : h + 33 ≤ B) : AcAt w' h N := fun k hk => (hb.cell (p := ⟨h + 1 + 2 * k, 0, none⟩) (by show h + 1 + 2 * k < B; omega)).trans (a k hk)
theorem made_step {w w0 w1 : World} {v p : Value} {e : Ending} (m : Made w v p e w1) (hb : Below w0.heap.size w0 w) (h : w0.heap.size ≤ w.heap.size) : Below w0.heap.size w0 w1 := hb.trans (m.2.2.2.mono h)
theorem acCs_len (h : Nat) : (acCs h).length = 64 := rfl
theorem acCs_at (h k : Nat) (hk : k < 16) : (acCs h).toArray.extract (k * 4) (k * 4 + 4) = (acC k (h + 1 + 2 * k)).toArray := by
  match k, hk with
  | 0, _ => rfl
  | 1, _ => rfl
  | 2, _ => rfl
  | 3, _ => rfl
  | 4, _ => rfl
  | 5, _ => rfl
  | 6, _ => rfl
  | 7, _ => rfl
  | 8, _ => rfl
  | 9, _ => rfl
  | 10, _ => rfl
  | 11, _ => rfl
  | 12, _ => rfl
  | 13, _ => rfl
  | 14, _ => rfl
  | 15, _ => rfl
  | k + 16, h => exact absurd h (by omega)

/-- What each operation tells. -/
def acE (N h : Nat) (i : Nat) : Value :=
  if i = 64 then .agg (acCs h).toArray
  else if i % 4 = 3 then .agg (acC (i / 4) (h + 1 + 2 * (i / 4))).toArray
  else if i % 4 = 2 then .pointer (some ⟨N, 1 + i / 4, none⟩)
  else if i < 64 then .pointer (some ⟨N, 0, none⟩) else undef
def acSp (i : Nat) : Bool := ([3, 7, 11, 15, 19, 23, 27, 31, 35, 39, 43, 47, 51, 55, 59, 63, 65] : List Nat).contains i
/-- What has been done. -/
def AcI (W : World) (h N : Nat) (f : Nat → Bool) (w : World) : Prop := ∃ n, n ≤ 16 ∧ (∀ k, k < 16 → f (3 + 4 * k) = decide (k < n)) ∧ w.heap.size = h + 1 + 2 * n ∧ (∀ k, k < n → w.cell? ⟨h + 1 + 2 * k, 0, none⟩ = some (.pointer (some ⟨N, 1 + k, none⟩))) ∧ Below h W w ∧ ∃ cur, w.heap[h]? = some (.cells cur TAcs (0, 0)) ∧ cur.size = 64 ∧ (f 65 = true → cur = (acCs h).toArray)
theorem AcI.upd {W w : World} {h N i : Nat} {f : Nat → Bool} (a : AcI W h N f w) (hi : acSp i = false) : AcI W h N (Go.Rel.upd f i) w := by
  have h0 : ∀ k, k < 16 → i ≠ 3 + 4 * k := fun k hk e => by
    have : ∀ k, k < 16 → acSp (3 + 4 * k) = true := by decide
    rw [e, this k hk] at hi
    cases hi
  have h2 : i ≠ 65 := fun e => by rw [e] at hi; cases hi
  obtain ⟨n, hn, hf, hs, hc, hb, cur, h3, h4, h5⟩ := a
  refine ⟨n, hn, fun k hk => ?_, hs, hc, hb, cur, h3, h4, fun h => h5 ?_⟩
  · unfold Go.Rel.upd
    rw [show (3 + 4 * k == i) = false by have := h0 k hk; simp; omega, Bool.false_or]
    exact hf k hk
  · unfold Go.Rel.upd at h
    rw [show (65 == i) = false by simp; omega, Bool.false_or] at h
    exact h
theorem AcI.stored {W w : World} {h N : Nat} {f : Nat → Bool} (a : AcI W h N f w) : (storeVar TAcs ⟨h, 0, none⟩ (.agg (acCs h).toArray)).run Try.prog w = .ok () (w.setRow h (acCs h).toArray) ∧ AcI W h N (Go.Rel.upd f 65) (w.setRow h (acCs h).toArray) := by
  obtain ⟨n, hn, hf, hs, hc, hb, cur, h3, h4, h5⟩ := a
  refine ⟨run_storeVar_row w h TAcs TAcs cur _ h3 (by kernel_rfl) (by rw [h4]; rfl) (by kernel_rfl), n, hn, fun k hk => ?_, by simpa using hs, fun k hk => ?_, below_setRow hb (Nat.le_refl _) _, _, setRow_heap w h cur _ TAcs _ h3, rfl, fun _ => rfl⟩
  · unfold Go.Rel.upd
    rw [show (3 + 4 * k == 65) = false by simp; omega, Bool.false_or]
    exact hf k hk
  · rw [cell_setRow_other w h _ _ (by show h + 1 + 2 * k ≠ h; omega)]
    exact hc k hk
theorem ac_step {W w : World} {h N k F : Nat} {f : Nat → Bool} (hI : AcI W h N f w) (hk : k < 16) (hf : f (3 + 4 * k) = false) (ha : k = 0 ∨ f (3 + 4 * (k - 1)) = true)
    (C : Calls Try.prog F #[.pointer (some ⟨N, 1 + k, none⟩)] w (Made w (.agg (acC k w.heap.size).toArray) (.pointer (some ⟨N, 1 + k, none⟩)))) :
    Calls Try.prog F #[.pointer (some ⟨N, 1 + k, none⟩)] w fun e w' => e = .returned (.agg (acC k (h + 1 + 2 * k)).toArray) ∧ AcI W h N (Go.Rel.upd f (3 + 4 * k)) w' := by
  obtain ⟨n, hn, hfn, hs, hc, hb, cur, h3, h4, h5⟩ := hI
  have e1 := hfn k hk
  rw [hf] at e1
  have hkn : ¬ k < n := by simpa using e1.symm
  have : n = k := by
    rcases ha with rfl | ha
    · omega
    · have := hfn (k - 1) (by omega)
      rw [ha] at this
      have : k - 1 < n := by simpa using this.symm
      omega
  subst this
  refine C.mono fun e w' ⟨he, hz, hcl, hbl⟩ => ⟨by rw [he, hs], n + 1, by omega, fun j hj => ?_, by omega, fun j hj => ?_, hb.trans (hbl.mono (by omega)), cur, ?_, h4, fun h => h5 ?_⟩
  · unfold Go.Rel.upd
    by_cases e : j = n
    · subst e; simp
    · rw [show (3 + 4 * j == 3 + 4 * n) = false by simp; omega, Bool.false_or, hfn j hj]
      simp only [decide_eq_decide]
      omega
  · by_cases e : j = n
    · subst e
      rw [← hs]
      exact hcl
    · exact (hbl.cell (p := ⟨h + 1 + 2 * j, 0, none⟩) (by show h + 1 + 2 * j < w.heap.size; omega)).trans (hc j (by omega))
  · exact (hbl.block h (by omega)).trans h3
  · unfold Go.Rel.upd at h
    rw [show (65 == 3 + 4 * n) = false by simp; omega, Bool.false_or] at h
    exact h
set_option maxRecDepth 100000 in
set_option maxHeartbeats 4000000 in
theorem accesses_any (N : Nat) (w : World) : Calls Try.prog 34 #[.pointer (some ⟨N, 0, none⟩)] w fun e w' => e = .returned (.agg (acCs w.heap.size).toArray) ∧ AcAt w' w.heap.size N ∧ w'.heap.size = w.heap.size + 33 ∧ Below w.heap.size w w' := by
  obtain ⟨W, hW⟩ : ∃ W, W = w := ⟨_, rfl⟩
  obtain ⟨h, hh⟩ : ∃ h, h = w.heap.size := ⟨_, rfl⟩
  go_enter Try.func34, Try.ntmps34
  go_wp2_with fail
  refine Go.Rel.wp_tabq (by kernel_rfl) (by kernel_rfl) (AcI W h N) (fun _ _ => True) (fun _ => trivial) (fun _ _ _ _ _ => trivial) trivial ?_ (acE N h) (fun _ _ _ => True) (fun _ => false) acSp (by kernel_rfl) (fun _ _ _ _ h _ => h) (fun f w i hi a => a.upd hi) (fun _ _ => False) (fun _ _ _ _ h => h.elim) ?_ (Go.Rel.AllOf.get (l := [3, 7, 11, 15, 19, 23, 27, 31, 35, 39, 43, 47, 51, 55, 59, 63, 65]) ?_) ?_
  · subst hW hh
    refine ⟨0, by omega, fun k hk => by simp, by simp, fun k hk => by omega, ?_, _, heap_alloc_new W _, rfl, fun h => by cases h⟩
    exact ((Below.refl _ W).alloc (Nat.le_refl _) _).drew
  · repeat (refine .cons (by first | exact Go.Rel.pure_sp rfl | exact Go.Rel.pure_yes (by kernel_rfl) (fun _ => by kernel_rfl)) ?_)
    exact .nil
  · refine ⟨?_, ?_, ?_, ?_, ?_, ?_, ?_, ?_, ?_, ?_, ?_, ?_, ?_, ?_, ?_, ?_, ?_, trivial⟩
    · exact SpecQ.call 51 #[.pointer (some ⟨N, 1 + 0, none⟩)] rfl (by kernel_rfl) (fun _ => by kernel_rfl) fun f w' hI hf _ hanc _ => (ac_step (k := 0) hI (by decide) hf (.inl rfl) (number_acc N (1 + 0) w')).mono fun e w2 ⟨he, h2⟩ => .inl ⟨_, he, trivial, h2, rfl⟩
    · exact SpecQ.call 51 #[.pointer (some ⟨N, 1 + 1, none⟩)] rfl (by kernel_rfl) (fun _ => by kernel_rfl) fun f w' hI hf _ hanc _ => (ac_step (k := 1) hI (by decide) hf (.inr (hanc 2 3 (by kernel_rfl))) (number_acc N (1 + 1) w')).mono fun e w2 ⟨he, h2⟩ => .inl ⟨_, he, trivial, h2, rfl⟩
    · exact SpecQ.call 51 #[.pointer (some ⟨N, 1 + 2, none⟩)] rfl (by kernel_rfl) (fun _ => by kernel_rfl) fun f w' hI hf _ hanc _ => (ac_step (k := 2) hI (by decide) hf (.inr (hanc 2 7 (by kernel_rfl))) (number_acc N (1 + 2) w')).mono fun e w2 ⟨he, h2⟩ => .inl ⟨_, he, trivial, h2, rfl⟩
    · exact SpecQ.call 52 #[.pointer (some ⟨N, 1 + 3, none⟩)] rfl (by kernel_rfl) (fun _ => by kernel_rfl) fun f w' hI hf _ hanc _ => (ac_step (k := 3) hI (by decide) hf (.inr (hanc 2 11 (by kernel_rfl))) (text_acc N (1 + 3) w')).mono fun e w2 ⟨he, h2⟩ => .inl ⟨_, he, trivial, h2, rfl⟩
    · exact SpecQ.call 52 #[.pointer (some ⟨N, 1 + 4, none⟩)] rfl (by kernel_rfl) (fun _ => by kernel_rfl) fun f w' hI hf _ hanc _ => (ac_step (k := 4) hI (by decide) hf (.inr (hanc 2 15 (by kernel_rfl))) (text_acc N (1 + 4) w')).mono fun e w2 ⟨he, h2⟩ => .inl ⟨_, he, trivial, h2, rfl⟩
    · exact SpecQ.call 52 #[.pointer (some ⟨N, 1 + 5, none⟩)] rfl (by kernel_rfl) (fun _ => by kernel_rfl) fun f w' hI hf _ hanc _ => (ac_step (k := 5) hI (by decide) hf (.inr (hanc 2 19 (by kernel_rfl))) (text_acc N (1 + 5) w')).mono fun e w2 ⟨he, h2⟩ => .inl ⟨_, he, trivial, h2, rfl⟩
    · exact SpecQ.call 52 #[.pointer (some ⟨N, 1 + 6, none⟩)] rfl (by kernel_rfl) (fun _ => by kernel_rfl) fun f w' hI hf _ hanc _ => (ac_step (k := 6) hI (by decide) hf (.inr (hanc 2 23 (by kernel_rfl))) (text_acc N (1 + 6) w')).mono fun e w2 ⟨he, h2⟩ => .inl ⟨_, he, trivial, h2, rfl⟩
    · exact SpecQ.call 52 #[.pointer (some ⟨N, 1 + 7, none⟩)] rfl (by kernel_rfl) (fun _ => by kernel_rfl) fun f w' hI hf _ hanc _ => (ac_step (k := 7) hI (by decide) hf (.inr (hanc 2 27 (by kernel_rfl))) (text_acc N (1 + 7) w')).mono fun e w2 ⟨he, h2⟩ => .inl ⟨_, he, trivial, h2, rfl⟩
    · exact SpecQ.call 52 #[.pointer (some ⟨N, 1 + 8, none⟩)] rfl (by kernel_rfl) (fun _ => by kernel_rfl) fun f w' hI hf _ hanc _ => (ac_step (k := 8) hI (by decide) hf (.inr (hanc 2 31 (by kernel_rfl))) (text_acc N (1 + 8) w')).mono fun e w2 ⟨he, h2⟩ => .inl ⟨_, he, trivial, h2, rfl⟩
    · exact SpecQ.call 52 #[.pointer (some ⟨N, 1 + 9, none⟩)] rfl (by kernel_rfl) (fun _ => by kernel_rfl) fun f w' hI hf _ hanc _ => (ac_step (k := 9) hI (by decide) hf (.inr (hanc 2 35 (by kernel_rfl))) (text_acc N (1 + 9) w')).mono fun e w2 ⟨he, h2⟩ => .inl ⟨_, he, trivial, h2, rfl⟩
    · exact SpecQ.call 52 #[.pointer (some ⟨N, 1 + 10, none⟩)] rfl (by kernel_rfl) (fun _ => by kernel_rfl) fun f w' hI hf _ hanc _ => (ac_step (k := 10) hI (by decide) hf (.inr (hanc 2 39 (by kernel_rfl))) (text_acc N (1 + 10) w')).mono fun e w2 ⟨he, h2⟩ => .inl ⟨_, he, trivial, h2, rfl⟩
    · exact SpecQ.call 53 #[.pointer (some ⟨N, 1 + 11, none⟩)] rfl (by kernel_rfl) (fun _ => by kernel_rfl) fun f w' hI hf _ hanc _ => (ac_step (k := 11) hI (by decide) hf (.inr (hanc 2 43 (by kernel_rfl))) (texts_acc N (1 + 11) w')).mono fun e w2 ⟨he, h2⟩ => .inl ⟨_, he, trivial, h2, rfl⟩
    · exact SpecQ.call 54 #[.pointer (some ⟨N, 1 + 12, none⟩)] rfl (by kernel_rfl) (fun _ => by kernel_rfl) fun f w' hI hf _ hanc _ => (ac_step (k := 12) hI (by decide) hf (.inr (hanc 2 47 (by kernel_rfl))) (flag_acc N (1 + 12) w')).mono fun e w2 ⟨he, h2⟩ => .inl ⟨_, he, trivial, h2, rfl⟩
    · exact SpecQ.call 55 #[.pointer (some ⟨N, 1 + 13, none⟩)] rfl (by kernel_rfl) (fun _ => by kernel_rfl) fun f w' hI hf _ hanc _ => (ac_step (k := 13) hI (by decide) hf (.inr (hanc 2 51 (by kernel_rfl))) (index_acc N (1 + 13) w')).mono fun e w2 ⟨he, h2⟩ => .inl ⟨_, he, trivial, h2, rfl⟩
    · exact SpecQ.call 55 #[.pointer (some ⟨N, 1 + 14, none⟩)] rfl (by kernel_rfl) (fun _ => by kernel_rfl) fun f w' hI hf _ hanc _ => (ac_step (k := 14) hI (by decide) hf (.inr (hanc 2 55 (by kernel_rfl))) (index_acc N (1 + 14) w')).mono fun e w2 ⟨he, h2⟩ => .inl ⟨_, he, trivial, h2, rfl⟩
    · exact SpecQ.call 56 #[.pointer (some ⟨N, 1 + 15, none⟩)] rfl (by kernel_rfl) (fun _ => by kernel_rfl) fun f w' hI hf _ hanc _ => (ac_step (k := 15) hI (by decide) hf (.inr (hanc 2 59 (by kernel_rfl))) (commands_acc N (1 + 15) w')).mono fun e w2 ⟨he, h2⟩ => .inl ⟨_, he, trivial, h2, rfl⟩
    · exact SpecQ.st (T := TAcs) (q := ⟨h, 0, none⟩) (v := .agg (acCs h).toArray) (hy := by rw [hh]; kernel_rfl) (h := fun f w' hI _ _ _ _ => ⟨_, hI.stored.1, trivial, hI.stored.2⟩)
  · intro f w' e hall hI _ hv
    generalize htm : finL _ _ _ _ = tm
    have h2 : tm.getD 2 undef = .pointer (some ⟨w.heap.size, 0, none⟩) := by rw [← htm]; kernel_rfl
    clear htm hv
    show Exit.then _ _ Exit.normal _ _
    unfold Exit.then
    go_wp2
    obtain ⟨n, hn, hf, hs, hc, hb, cur, h3, h4, h5⟩ := hI
    have e5 := h5 (hall 65 (by decide))
    have en : n = 16 := by
      have e1 := hf 15 (by decide)
      rw [hall 63 (by decide)] at e1
      have : 15 < n := by simpa using e1.symm
      omega
    subst en hW hh e5
    exact bodyPost_ret (v := .agg (acCs W.heap.size).toArray) (results_cell_row rfl _ _ _ TAcs _ (0, 0) _ h2 h3 Try.underlying73 rfl (by kernel_rfl)) rfl ⟨rfl, hc, by omega, hb⟩

end Go.Proofs.Ytbhhalkpghcflaa
