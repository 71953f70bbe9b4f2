/-
  The program's table at values of one type (int): a row's cells; New, made, Last, Raise, Copy, now, walked.
-/
import Derived.Test.YtnobpbbedclbkaaZj10
namespace Go.Proofs.Ytnobpbbedclbkaa.Sx
open Go.RowKit
set_option linter.unusedSimpArgs false
set_option linter.unusedVariables false

/-- A row's cells. -/
def trC (r : Rw Int) : List Value := [.string r.key, .int .i64 r.val, .int .u64 (r.made : Int), .int .u64 (r.ix : Int)]
/-- A row as a value. -/
def trV (r : Rw Int) : Value := .agg #[.string r.key, .int .i64 r.val, .int .u64 (r.made : Int), .int .u64 (r.ix : Int)]
theorem trC_len (r : Rw Int) : (trC r).length = 4 := rfl
theorem trC_one (r : Rw Int) : ∀ u ∈ trC r, u.oneCell' = true := fun u hu => by
  simp only [trC, List.mem_cons, List.not_mem_nil, or_false] at hu
  rcases hu with rfl | rfl | rfl | rfl <;> rfl
theorem tr_cells {w : World} {b o : Nat} {r : Rw Int} (h : ItAt trC w b o r) : w.cell? ⟨b, o, none⟩ = some (.string r.key) ∧ w.cell? ⟨b, o + 1, none⟩ = some (.int .i64 r.val) ∧ w.cell? ⟨b, o + 2, none⟩ = some (.int .u64 (r.made : Int)) ∧ w.cell? ⟨b, o + 3, none⟩ = some (.int .u64 (r.ix : Int)) :=
  ⟨h 0 _ rfl, h 1 _ rfl, h 2 _ rfl, h 3 _ rfl⟩
theorem blk {w : World} {B : Nat} {v0 v1 v2 v3 : Value} {t : TypeId} (h : w.heap[B]? = some (.cells #[v0, v1, v2, v3] t (0, 0))) : w.cell? ⟨B, 0, none⟩ = some v0 ∧ w.cell? ⟨B, 1, none⟩ = some v1 ∧ w.cell? ⟨B, 2, none⟩ = some v2 ∧ w.cell? ⟨B, 3, none⟩ = some v3 :=
  ⟨cellsN h 0 _ rfl, cellsN h 1 _ rfl, cellsN h 2 _ rfl, cellsN h 3 _ rfl⟩
theorem tw_info : (Try.prog.info? 65).map (fun i => (i.zero, i.size, i.bytes)) = some (some (.agg #[.string ⟨#[]⟩, .int .i64 0, .int .u64 0, .int .u64 0]), 4, 40) := by kernel_rfl
/-- Rows of the program's, of the call's own. -/
abbrev twRow (w : World) (base : Nat) (v : Value) (l : List (Rw Int)) : Prop := rowK trC 65 4 w base v l
abbrev TIs := PtIs trC 4 80
abbrev TAt := PtAt trC 4 80
abbrev Now := NowIs trC 4 78 52
abbrev New := NewRows trC 4
theorem made_no {w : World} {p : Option Addr} (h : NoTp 80 w p) : Calls Try.prog 39 #[.pointer p] w fun e w' => e = .returned (.bool false) ∧ w = w' := by
  rcases h.or with rfl | ⟨B, rfl, k⟩
  · clear h
    go_enter Try.func39, Try.ntmps39
    go_wp2
    go_ret
    exact ⟨rfl, rfl⟩
  · have c0 := cellsN k 0 _ rfl
    clear h k
    go_enter Try.func39, Try.ntmps39
    go_wp2
    go_ret
    exact ⟨rfl, rfl⟩
section
variable {S : Nat → Prop} {w : World} {B c : Nat} {A : Option Addr} {t : Tb Int}
theorem made_is (h : TIs S w B A c t) (h1 : 1 ≤ t.most) : Calls Try.prog 39 #[.pointer (some ⟨B, 0, none⟩)] w fun e w' => e = .returned (.bool true) ∧ w = w' := by
  have c0 := h.c0
  obtain ⟨m, hm⟩ : ∃ m, t.most = m := ⟨_, rfl⟩
  rw [hm] at c0 h1
  have d0 : decide ((m : Int) > 0) = true := decide_eq_true (by omega)
  have d1 : decide (0 < m) = true := decide_eq_true (by omega)
  clear h hm
  go_enter Try.func39, Try.ntmps39
  go_wp2
  go_ret
  exact ⟨rfl, rfl⟩
theorem made_yes (h : TAt S w B t) : Calls Try.prog 39 #[.pointer (some ⟨B, 0, none⟩)] w fun e w' => e = .returned (.bool true) ∧ w = w' := by
  obtain ⟨hok, A, c, h⟩ := h
  exact made_is h hok.most.1
set_option maxHeartbeats 1000000 in
theorem new_any (m : Int) (w : World) (hm : -9223372036854775808 ≤ m ∧ m ≤ 9223372036854775807) :
    Calls Try.prog 25 #[.int .i64 m] w fun e w' => ∃ B, e = .returned (.pointer (some ⟨B, 0, none⟩)) ∧ TAt (fun k => w.heap.size ≤ k) w' B ⟨mostT m, [], 0⟩ ∧ Below w.heap.size w w' := by
  have fin : ∀ (k : Int), k = (mostT m : Int) → ∀ (e : Ending), e = .returned (.pointer (some ⟨w.heap.size, 0, none⟩)) → ∃ B, e = .returned (.pointer (some ⟨B, 0, none⟩)) ∧ TAt (fun k => w.heap.size ≤ k) (w.alloc (.cells #[.int .i64 k, .int .u64 0, .slice none 0 0] 80)) B ⟨mostT m, [], 0⟩ ∧ Below w.heap.size w (w.alloc (.cells #[.int .i64 k, .int .u64 0, .slice none 0 0] 80)) := fun k hk e he => by subst hk; exact ⟨_, he, PtAt.new m w, below1 _ _ _⟩
  have hm1 := hm.1
  have hm2 := hm.2
  have FIN := Lib.hid fin
  clear fin hm
  by_cases h1 : m < 1
  · have hM : Hid ((1 : Int) = (mostT m : Int)) := Lib.hid (by unfold mostT; rw [if_pos h1]; rfl)
    go_enter Try.func25, Try.ntmps25
    go_wp2
    go_ret
    exact FIN.out 1 hM.out _ rfl
  · by_cases h2 : 64 < m
    · have hM : Hid ((64 : Int) = (mostT m : Int)) := Lib.hid (by unfold mostT; rw [if_neg h1, if_pos h2]; rfl)
      go_enter Try.func25, Try.ntmps25
      go_wp2
      go_ret
      exact FIN.out 64 hM.out _ rfl
    · have hM : Hid (m = (mostT m : Int)) := Lib.hid (by unfold mostT; rw [if_neg h1, if_neg h2]; omega)
      have h3 : 1 ≤ m := by omega
      have h4 : m ≤ 64 := by omega
      go_enter Try.func25, Try.ntmps25
      go_wp2
      go_ret
      exact FIN.out m hM.out _ rfl
theorem last_any (h : TAt S w B t) : Calls Try.prog 35 #[.pointer (some ⟨B, 0, none⟩)] w fun e w' => e = .returned (.int .u64 (t.last : Int)) ∧ w = w' := by
  have HM := Lib.hid (made_yes h)
  obtain ⟨hok, A, c, h⟩ := h
  have c1 := h.c1
  clear hok h
  go_enter Try.func35, Try.ntmps35
  go_wp2_with fail
  refine HM.out.mono ?_
  rintro e w' ⟨rfl, rfl⟩
  go_wp2
  go_ret
  exact ⟨rfl, rfl⟩
theorem last_no {p : Option Addr} (h : NoTp 80 w p) : Calls Try.prog 35 #[.pointer p] w fun e w' => e = .returned (.int .u64 0) ∧ w = w' := by
  have HM := Lib.hid (made_no h)
  clear h
  go_enter Try.func35, Try.ntmps35
  go_wp2_with fail
  refine HM.out.mono ?_
  rintro e w' ⟨rfl, rfl⟩
  go_wp2
  go_ret
  exact ⟨rfl, rfl⟩
theorem raise_is (i : Nat) (h : TIs S w B A c t) (h1 : 1 ≤ t.most) : Calls Try.prog 38 #[.pointer (some ⟨B, 0, none⟩), .int .u64 (i : Int)] w fun e w' => e = .returned (.tuple #[]) ∧ TIs S w' B A c (t.raise i) ∧ But (· = B) w w' := by
  have HM := Lib.hid (made_is h h1)
  have c1 := h.c1
  have z1 := h.froz 1
  have H := Lib.hid (fun n (e : t.raise i = { t with last := n }) => (⟨by rw [e]; exact h.setLast n, But.set (S := (· = B)) w (p := ⟨B, 1, none⟩) rfl _⟩ : TIs S (w.setCell ⟨B, 1, none⟩ (.int .u64 (n : Int))) B A c (t.raise i) ∧ But (· = B) w (w.setCell ⟨B, 1, none⟩ (.int .u64 (n : Int)))))
  clear h h1
  by_cases h1 : t.last < i
  · have q : (t.last : Int) < (i : Int) := by omega
    have e := Lib.hid (raise_max h1)
    go_enter Try.func38, Try.ntmps38
    go_wp2_with fail
    refine HM.out.mono ?_
    rintro e w' ⟨rfl, rfl⟩
    go_wp2
    exact bodyPost_end (results_none rfl _ _ _) rfl ⟨rfl, H.out i e.out⟩
  · have q : ¬ (t.last : Int) < (i : Int) := by omega
    have e := Lib.hid (raise_same h1)
    go_enter Try.func38, Try.ntmps38
    go_wp2_with fail
    refine HM.out.mono ?_
    rintro e w' ⟨rfl, rfl⟩
    go_wp2
    exact bodyPost_end (results_none rfl _ _ _) rfl ⟨rfl, H.out t.last e.out⟩
theorem raise_any (i : Nat) (h : TAt S w B t) (hi : i < 18446744073709551616) : Calls Try.prog 38 #[.pointer (some ⟨B, 0, none⟩), .int .u64 (i : Int)] w fun e w' => e = .returned (.tuple #[]) ∧ TAt S w' B (t.raise i) ∧ But (· = B) w w' := by
  obtain ⟨hok, A, c, h⟩ := h
  exact (raise_is i h hok.most.1).mono fun e w' ⟨a, b, d⟩ => ⟨a, ⟨hok.raise hi, A, c, b⟩, d⟩
theorem copy_any (h : TAt S w B t) : Calls Try.prog 33 #[.pointer (some ⟨B, 0, none⟩)] w fun e w' => ∃ B', e = .returned (.pointer (some ⟨B', 0, none⟩)) ∧ w.heap.size ≤ B' ∧ TAt (fun k => S k ∨ w.heap.size ≤ k) w' B' t ∧ Below w.heap.size w w' := by
  have HM := Lib.hid (made_yes h)
  obtain ⟨hok, A, c, h⟩ := h
  have c0 := h.c0
  have c1 := h.c1
  have c2 := h.c2
  have HN := Lib.hid (h.copied hok)
  obtain ⟨L, hL⟩ : ∃ L, t.l.length = L := ⟨_, rfl⟩
  rw [hL] at c2 HN
  clear hok h hL
  go_enter Try.func33, Try.ntmps33
  go_wp2_with fail
  refine HM.out.mono ?_
  rintro e w' ⟨rfl, rfl⟩
  go_wp2
  go_ret
  exact ⟨_, rfl, Nat.le_refl _, HN.out, below1 _ _ _⟩
/-- slices.Values at rows: a function over a box that holds them. -/
theorem values_any (A : Option Addr) (n c : Nat) (w : World) : Calls Try.prog 51 #[.slice A n c] w fun e w' => e = .returned (.func (.func 52) #[] #[.pointer (some ⟨w.heap.size, 0, none⟩)]) ∧ w' = w.alloc (.cells #[.slice A n c] 78) := by
  go_enter Try.func51, Try.ntmps51
  go_wp2
  go_ret
  exact ⟨rfl, rfl⟩
theorem now_is (h : TIs S w B A c t) (hmo : 1 ≤ t.most) : Calls Try.prog 49 #[.pointer (some ⟨B, 0, none⟩)] w fun e w' => ∃ v Bx, e = .returned v ∧ Now w w' v t.l Bx A c := by
  have HM := Lib.hid (made_is h hmo)
  have c2 := h.c2
  have HV := Lib.hid (values_any A t.l.length c w)
  have HN : Hid (Now w (w.alloc (.cells #[.slice A t.l.length c] 78)) (.func (.func 52) #[] #[.pointer (some ⟨w.heap.size, 0, none⟩)]) t.l w.heap.size A c) := Lib.hid ⟨rfl, heap_alloc_new w _, h.row.below (below1 _ _ _), Nat.le_refl _, fun b off e hn => by
    obtain ⟨b', off', e', hb, _⟩ := h.row.at_ (j := 0) hn hn
    rw [e] at e'
    cases e'
    exact hb, below1 _ _ _⟩
  obtain ⟨L, hL⟩ : ∃ L, t.l.length = L := ⟨_, rfl⟩
  rw [hL] at c2 HV HN
  clear hmo h hL
  go_enter Try.func49, Try.ntmps49
  go_wp2_with fail
  refine HM.out.mono ?_
  rintro e w' ⟨rfl, rfl⟩
  go_wp2_with fail
  refine HV.out.mono ?_
  rintro e w' ⟨rfl, rfl⟩
  go_wp2
  go_ret
  exact ⟨_, _, rfl, HN.out⟩
theorem now_no {p : Option Addr} (h : NoTp 80 w p) : Calls Try.prog 49 #[.pointer p] w fun e w' => ∃ v Bx A c, e = .returned v ∧ Now w w' v [] Bx A c := by
  have HM := Lib.hid (made_no h)
  have HV := Lib.hid (values_any none 0 0 w)
  have HN : Hid (Now w (w.alloc (.cells #[.slice none 0 0] 78)) (.func (.func 52) #[] #[.pointer (some ⟨w.heap.size, 0, none⟩)]) [] w.heap.size none 0) := Lib.hid ⟨rfl, heap_alloc_new w _, SK.zero, Nat.le_refl _, (fun _ _ e => by cases e), below1 _ _ _⟩
  clear h
  go_enter Try.func49, Try.ntmps49
  go_wp2_with fail
  refine HM.out.mono ?_
  rintro e w' ⟨rfl, rfl⟩
  go_wp2_with fail
  refine HV.out.mono ?_
  rintro e w' ⟨rfl, rfl⟩
  go_wp2
  go_ret
  exact ⟨_, _, _, _, rfl, HN.out⟩
end
end Go.Proofs.Ytnobpbbedclbkaa.Sx
