/-
  The program's table in memory (layer 15): its bound, its last index, its rows (a list of rows is never changed); New, made, Last, Count, Raise, Copy, now, walked.
-/
import Derived.Test.YtphjlcogjalidaaTbRefA
namespace Go.Proofs.Ytphjlcogjalidaa
open Go.RowKit
set_option linter.unusedSimpArgs false
set_option linter.unusedVariables false

abbrev TPT : TypeId := 58
/-- The program's table t behind block B, its rows in S. -/
structure PtIs (S : Nat → Prop) (w : World) (B : Nat) (A : Option Addr) (c : Nat) (t : Tb Int) : Prop where
  mine : S B
  blk : w.heap[B]? = some (.cells #[.int .i64 (t.most : Int), .int .u64 (t.last : Int), .slice A t.l.length c] TPT (0, 0))
  row : SK trC 4 w A t.l.length t.l
  own : ∀ b off, A = some ⟨b, off, none⟩ → 0 < t.l.length → S b ∧ b ≠ B
  le : t.l.length ≤ c
  max : c ≤ maxLen
  at0 : (A = none ∧ c = 0) ∨ ∃ g, A = some ⟨g, 0, none⟩
def PtAt (S : Nat → Prop) (w : World) (B : Nat) (t : Tb Int) : Prop := t.Ok ∧ ∃ A c, PtIs S w B A c t
section
variable {S S' : Nat → Prop} {w w' : World} {B : Nat} {A : Option Addr} {c : Nat} {t : Tb Int}
theorem PtIs.lt (h : PtIs S w B A c t) : B < w.heap.size := block_lt h.blk
theorem PtIs.but (h : PtIs S w B A c t) (hb : But S' w w') (hS : ∀ k, S' k → ¬ S k) : PtIs S w' B A c t :=
  ⟨h.mine, (hb.block B h.lt fun e => hS B e h.mine).trans h.blk, h.row.but hb fun b off e hn z => hS b z (h.own b off e hn).1, h.own, h.le, h.max, h.at0⟩
theorem PtIs.below (h : PtIs S w B A c t) (hb : Below w.heap.size w w') : PtIs S w' B A c t := h.but (S' := fun _ => False) (But.of_below hb) (fun _ h => h.elim)
theorem PtIs.narrow (h : PtIs S w B A c t) (hs : ∀ k, k < w.heap.size → S k → S' k) : PtIs S' w B A c t :=
  ⟨hs _ h.lt h.mine, h.blk, h.row, fun b off e hn => by
    obtain ⟨b', off', e', hb, _⟩ := h.row.at_ (j := 0) hn hn
    rw [e] at e'
    cases e'
    exact ⟨hs b hb (h.own b off e hn).1, (h.own b off e hn).2⟩, h.le, h.max, h.at0⟩
theorem PtIs.c0 (h : PtIs S w B A c t) : w.cell? ⟨B, 0, none⟩ = some (.int .i64 (t.most : Int)) := by rw [cell_of_row _ _ _ _ _ _ h.blk]; rfl
theorem PtIs.c1 (h : PtIs S w B A c t) : w.cell? ⟨B, 1, none⟩ = some (.int .u64 (t.last : Int)) := by rw [cell_of_row _ _ _ _ _ _ h.blk]; rfl
theorem PtIs.c2 (h : PtIs S w B A c t) : w.cell? ⟨B, 2, none⟩ = some (.slice A t.l.length c) := by rw [cell_of_row _ _ _ _ _ _ h.blk]; rfl
theorem PtIs.froz (h : PtIs S w B A c t) (i : Nat) : w.frozen? ⟨B, i, none⟩ = false := blk_froz h.blk i
/-- The last index is set. -/
theorem PtIs.setLast (h : PtIs S w B A c t) (n : Nat) : PtIs S (w.setCell ⟨B, 1, none⟩ (.int .u64 (n : Int))) B A c { t with last := n } :=
  ⟨h.mine, block_set (cur := #[.int .i64 (t.most : Int), .int .u64 (t.last : Int), .slice A t.l.length c]) h.blk 1 _, h.row.but (S := (· = B)) (But.set (S := (· = B)) w (p := ⟨B, 1, none⟩) rfl _) (fun b off e hn => (h.own b off e hn).2), h.own, h.le, h.max, h.at0⟩
/-- The rows are set: a row of the call's own. -/
theorem PtIs.setRows (h : PtIs S w B A c t) {l : List (Rw Int)} {A' : Option Addr} {c' : Nat} (hr : SK trC 4 w A' l.length l) (ho : ∀ b off, A' = some ⟨b, off, none⟩ → 0 < l.length → S b ∧ b ≠ B) (h1 : l.length ≤ c') (h2 : c' ≤ maxLen) (h3 : (A' = none ∧ c' = 0) ∨ ∃ g, A' = some ⟨g, 0, none⟩) : PtIs S (w.setCell ⟨B, 2, none⟩ (.slice A' l.length c')) B A' c' { t with l := l } :=
  ⟨h.mine, block_set (cur := #[.int .i64 (t.most : Int), .int .u64 (t.last : Int), .slice A t.l.length c]) h.blk 2 _, hr.but (S := (· = B)) (But.set (S := (· = B)) w (p := ⟨B, 2, none⟩) rfl _) (fun b off e hn => (ho b off e hn).2), ho, h1, h2, h3⟩
theorem PtAt.but (h : PtAt S w B t) (hb : But S' w w') (hS : ∀ k, S' k → ¬ S k) : PtAt S w' B t := by
  obtain ⟨h0, A, c, h1⟩ := h
  exact ⟨h0, A, c, h1.but hb hS⟩
theorem PtAt.below (h : PtAt S w B t) (hb : Below w.heap.size w w') : PtAt S w' B t := h.but (S' := fun _ => False) (But.of_below hb) (fun _ h => h.elim)
theorem PtAt.narrow (h : PtAt S w B t) (hs : ∀ k, k < w.heap.size → S k → S' k) : PtAt S' w B t := by
  obtain ⟨h0, A, c, h1⟩ := h
  exact ⟨h0, A, c, h1.narrow hs⟩
theorem PtAt.lt (h : PtAt S w B t) : B < w.heap.size := by
  obtain ⟨_, A, c, h1⟩ := h
  exact h1.lt
end
/-- There is no table. -/
structure NoTp (w : World) (p : Option Addr) : Prop where
  or : p = none ∨ ∃ B, p = some ⟨B, 0, none⟩ ∧ w.heap[B]? = some (.cells #[.int .i64 0, .int .u64 0, .slice none 0 0] TPT (0, 0))
theorem NoTp.below {w w' : World} {p : Option Addr} (h : NoTp w p) (hb : Below w.heap.size w w') : NoTp w' p :=
  ⟨h.or.imp id fun ⟨B, e, k⟩ => ⟨B, e, (hb.block B (block_lt k)).trans k⟩⟩
theorem made_no {w : World} {p : Option Addr} (h : NoTp w p) : Calls Try.prog 27 #[.pointer p] w fun e w' => e = .returned (.bool false) ∧ w = w' := by
  rcases h.or with rfl | ⟨B, rfl, k⟩
  · clear h
    go_enter Try.func27, Try.ntmps27
    go_wp2
    go_ret
    exact ⟨rfl, rfl⟩
  · have c0 : w.cell? ⟨B, 0, none⟩ = some (.int .i64 0) := by rw [cell_of_row _ _ _ _ _ _ k]; rfl
    clear h k
    go_enter Try.func27, Try.ntmps27
    go_wp2
    go_ret
    exact ⟨rfl, rfl⟩
theorem made_is {S : Nat → Prop} {B : Nat} {A : Option Addr} {c : Nat} {t : Tb Int} {w : World} (h : PtIs S w B A c t) (h1 : 1 ≤ t.most) : Calls Try.prog 27 #[.pointer (some ⟨B, 0, none⟩)] w fun e w' => e = .returned (.bool true) ∧ w = w' := by
  have c0 := h.c0
  obtain ⟨m, hm⟩ : ∃ m, t.most = m := ⟨_, rfl⟩
  rw [hm] at c0 h1
  have d0 : decide ((m : Int) > 0) = true := decide_eq_true (by omega)
  have d1 : decide (0 < m) = true := decide_eq_true (by omega)
  clear h hm
  go_enter Try.func27, Try.ntmps27
  go_wp2
  go_ret
  exact ⟨rfl, rfl⟩
theorem made_yes {S : Nat → Prop} {B : Nat} {t : Tb Int} {w : World} (h : PtAt S w B t) : Calls Try.prog 27 #[.pointer (some ⟨B, 0, none⟩)] w fun e w' => e = .returned (.bool true) ∧ w = w' := by
  obtain ⟨hok, A, c, h⟩ := h
  exact made_is h hok.most.1
set_option maxHeartbeats 1000000 in
theorem new_any (m : Int) (w : World) (hm : -9223372036854775808 ≤ m ∧ m ≤ 9223372036854775807) :
    Calls Try.prog 7 #[.int .i64 m] w fun e w' => ∃ B, e = .returned (.pointer (some ⟨B, 0, none⟩)) ∧ PtAt (fun k => w.heap.size ≤ k) w' B ⟨mostT m, [], 0⟩ ∧ Below w.heap.size w w' := by
  obtain ⟨X, hX⟩ : ∃ X, w.heap.size = X := ⟨_, rfl⟩
  have HX := Lib.hid hX
  obtain ⟨M, hM⟩ : ∃ M, mostT m = M := ⟨_, rfl⟩
  have HM := Lib.hid hM
  have hm1 := hm.1
  have hm2 := hm.2
  have fin : ∀ k : Int, (k = (mostT m : Int)) → Hid (PtAt (fun k => w.heap.size ≤ k) (w.alloc (.cells #[.int .i64 k, .int .u64 0, .slice none 0 0] TPT)) w.heap.size ⟨mostT m, [], 0⟩ ∧ Below w.heap.size w (w.alloc (.cells #[.int .i64 k, .int .u64 0, .slice none 0 0] TPT))) := fun k hk => Lib.hid ⟨⟨Tb.Ok.new m, none, 0, Nat.le_refl _, by rw [hk]; exact heap_alloc_new w _, SK.zero, (fun _ _ e => by cases e), Nat.le_refl _, Nat.zero_le _, .inl ⟨rfl, rfl⟩⟩, below1 _ _ _⟩
  rw [hX, hM] at fin
  rw [hX, hM]
  have FIN := Lib.hid fin
  clear hX fin hm
  by_cases h1 : m < 1
  · have hM1 : Hid (M = 1) := Lib.hid (by rw [← hM]; unfold mostT; rw [if_pos h1])
    clear hM
    go_enter Try.func7, Try.ntmps7
    go_wp2
    go_ret
    rw [HX.out]
    exact ⟨X, rfl, (FIN.out 1 (by rw [hM1.out]; rfl)).out⟩
  · by_cases h2 : 64 < m
    · have hM1 : Hid (M = 64) := Lib.hid (by rw [← hM]; unfold mostT; rw [if_neg h1, if_pos h2])
      clear hM
      go_enter Try.func7, Try.ntmps7
      go_wp2
      go_ret
      rw [HX.out]
      exact ⟨X, rfl, (FIN.out 64 (by rw [hM1.out]; rfl)).out⟩
    · have hM1 : Hid (m = (M : Int)) := Lib.hid (by rw [← hM]; unfold mostT; rw [if_neg h1, if_neg h2]; omega)
      clear hM
      have h3 : 1 ≤ m := by omega
      have h4 : m ≤ 64 := by omega
      go_enter Try.func7, Try.ntmps7
      go_wp2
      go_ret
      rw [HX.out]
      exact ⟨X, rfl, (FIN.out m hM1.out).out⟩
section
variable {S : Nat → Prop} {w : World} {B : Nat} {t : Tb Int}
theorem last_any (h : PtAt S w B t) : Calls Try.prog 13 #[.pointer (some ⟨B, 0, none⟩)] w fun e w' => e = .returned (.int .u64 (t.last : Int)) ∧ Below w.heap.size w w' := by
  have HM := Lib.hid (made_yes h)
  obtain ⟨hok, A, c, h⟩ := h
  have c1 := h.c1
  clear hok h
  go_enter Try.func13, Try.ntmps13
  go_wp2_with fail
  refine HM.out.mono ?_
  rintro e w' ⟨rfl, rfl⟩
  go_wp2
  go_ret
  exact ⟨rfl, Below.refl _ _⟩
theorem count_any (h : PtAt S w B t) : Calls Try.prog 14 #[.pointer (some ⟨B, 0, none⟩)] w fun e w' => e = .returned (.int .i64 (t.l.length : Int)) ∧ Below w.heap.size w w' := by
  have HM := Lib.hid (made_yes h)
  obtain ⟨hok, A, c, h⟩ := h
  have c2 := h.c2
  obtain ⟨L, hL⟩ : ∃ L, t.l.length = L := ⟨_, rfl⟩
  rw [hL] at c2 ⊢
  clear hok h hL
  go_enter Try.func14, Try.ntmps14
  go_wp2_with fail
  refine HM.out.mono ?_
  rintro e w' ⟨rfl, rfl⟩
  go_wp2
  go_ret
  exact ⟨rfl, Below.refl _ _⟩
theorem raise_is {A : Option Addr} {c : Nat} (i : Nat) (h : PtIs S w B A c t) (h1 : 1 ≤ t.most) (hl : t.last < 18446744073709551616) (hi : i < 18446744073709551616) : Calls Try.prog 20 #[.pointer (some ⟨B, 0, none⟩), .int .u64 (i : Int)] w fun e w' => e = .returned (.tuple #[]) ∧ PtIs S w' B A c (t.raise i) ∧ But (· = B) w w' := by
  have HM := Lib.hid (made_is h h1)
  have c1 := h.c1
  have z1 := h.froz 1
  have H := Lib.hid h
  clear h h1
  by_cases h1 : t.last < i
  · have q : (t.last : Int) < (i : Int) := by omega
    have e : Hid (t.raise i = { t with last := i }) := Lib.hid (raise_max h1)
    go_enter Try.func20, Try.ntmps20
    go_wp2_with fail
    refine HM.out.mono ?_
    rintro e w' ⟨rfl, rfl⟩
    go_wp2
    refine bodyPost_end (results_none rfl _ _ _) rfl ⟨rfl, ?_, But.set (S := (· = B)) w (p := ⟨B, 1, none⟩) rfl _⟩
    rw [e.out]
    exact H.out.setLast i
  · have q : ¬ (t.last : Int) < (i : Int) := by omega
    have e : Hid (t.raise i = t) := Lib.hid (raise_same h1)
    go_enter Try.func20, Try.ntmps20
    go_wp2_with fail
    refine HM.out.mono ?_
    rintro e w' ⟨rfl, rfl⟩
    go_wp2
    refine bodyPost_end (results_none rfl _ _ _) rfl ⟨rfl, ?_, But.set (S := (· = B)) w (p := ⟨B, 1, none⟩) rfl _⟩
    rw [e.out]
    exact H.out.setLast t.last
theorem raise_any (i : Nat) (h : PtAt S w B t) (hi : i < 18446744073709551616) : Calls Try.prog 20 #[.pointer (some ⟨B, 0, none⟩), .int .u64 (i : Int)] w fun e w' => e = .returned (.tuple #[]) ∧ PtAt S w' B (t.raise i) ∧ But (· = B) w w' := by
  obtain ⟨hok, A, c, h⟩ := h
  exact (raise_is i h hok.most.1 hok.lst hi).mono fun e w' ⟨a, b, d⟩ => ⟨a, ⟨hok.raise hi, A, c, b⟩, d⟩
theorem copy_any (h : PtAt S w B t) : Calls Try.prog 22 #[.pointer (some ⟨B, 0, none⟩)] w fun e w' => ∃ B' S', e = .returned (.pointer (some ⟨B', 0, none⟩)) ∧ w.heap.size ≤ B' ∧ PtAt S' w' B' t ∧ Below w.heap.size w w' := by
  have HM := Lib.hid (made_yes h)
  obtain ⟨hok, A, c, h⟩ := h
  have c0 := h.c0
  have c1 := h.c1
  have c2 := h.c2
  have HN : Hid (PtAt (fun k => S k ∨ w.heap.size ≤ k) (w.alloc (.cells #[.int .i64 (t.most : Int), .int .u64 (t.last : Int), .slice A t.l.length c] TPT)) w.heap.size t) := Lib.hid ⟨hok, A, c, .inr (Nat.le_refl _), heap_alloc_new w _, h.row.below (below1 _ _ _), fun b off e hn => by
    obtain ⟨b', off', e', hb, _⟩ := h.row.at_ (j := 0) hn hn
    rw [e] at e'
    cases e'
    exact ⟨.inl (h.own b off e hn).1, by omega⟩, h.le, h.max, h.at0⟩
  obtain ⟨L, hL⟩ : ∃ L, t.l.length = L := ⟨_, rfl⟩
  rw [hL] at c2 HN
  clear hok h hL
  go_enter Try.func22, Try.ntmps22
  go_wp2_with fail
  refine HM.out.mono ?_
  rintro e w' ⟨rfl, rfl⟩
  go_wp2
  go_ret
  exact ⟨_, _, rfl, Nat.le_refl _, HN.out, below1 _ _ _⟩
/-- slices.Values at rows: a function over a box that holds them. -/
theorem values_any (A : Option Addr) (n c : Nat) (w : World) : Calls Try.prog 38 #[.slice A n c] w fun e w' => e = .returned (.func (.func 43) #[] #[.pointer (some ⟨w.heap.size, 0, none⟩)]) ∧ w' = w.alloc (.cells #[.slice A n c] 39) := by
  go_enter Try.func38, Try.ntmps38
  go_wp2
  go_ret
  exact ⟨rfl, rfl⟩
/-- What a table yields now: a function over a box that holds its rows. -/
structure NowIs (w w' : World) (v : Value) (l : List (Rw Int)) (Bx : Nat) (A : Option Addr) (c : Nat) : Prop where
  val : v = .func (.func 43) #[] #[.pointer (some ⟨Bx, 0, none⟩)]
  box : w'.heap[Bx]? = some (.cells #[.slice A l.length c] 39 (0, 0))
  row : SK trC 4 w' A l.length l
  new : w.heap.size ≤ Bx
  old : ∀ b off, A = some ⟨b, off, none⟩ → 0 < l.length → b < w.heap.size
  below : Below w.heap.size w w'
theorem now_is {A : Option Addr} {c : Nat} (h : PtIs S w B A c t) (hmo : 1 ≤ t.most) : Calls Try.prog 30 #[.pointer (some ⟨B, 0, none⟩)] w fun e w' => ∃ v Bx, e = .returned v ∧ NowIs w w' v t.l Bx A c := by
  have HM := Lib.hid (made_is h hmo)
  have c2 := h.c2
  have HV := Lib.hid (values_any A t.l.length c w)
  have HN : Hid (NowIs w (w.alloc (.cells #[.slice A t.l.length c] 39)) (.func (.func 43) #[] #[.pointer (some ⟨w.heap.size, 0, none⟩)]) t.l w.heap.size A c) := Lib.hid ⟨rfl, heap_alloc_new w _, h.row.below (below1 _ _ _), Nat.le_refl _, fun b off e hn => by
    obtain ⟨b', off', e', hb, _⟩ := h.row.at_ (j := 0) hn hn
    rw [e] at e'
    cases e'
    exact hb, below1 _ _ _⟩
  obtain ⟨L, hL⟩ : ∃ L, t.l.length = L := ⟨_, rfl⟩
  rw [hL] at c2 HV HN
  clear hmo h hL
  go_enter Try.func30, Try.ntmps30
  go_wp2_with fail
  refine HM.out.mono ?_
  rintro e w' ⟨rfl, rfl⟩
  go_wp2_with fail
  refine HV.out.mono ?_
  rintro e w' ⟨rfl, rfl⟩
  go_wp2
  go_ret
  exact ⟨_, _, rfl, HN.out⟩
theorem now_any (h : PtAt S w B t) : Calls Try.prog 30 #[.pointer (some ⟨B, 0, none⟩)] w fun e w' => ∃ v Bx A c, e = .returned v ∧ NowIs w w' v t.l Bx A c := by
  obtain ⟨hok, A, c, h⟩ := h
  exact (now_is h hok.most.1).mono fun e w' ⟨v, Bx, a, b⟩ => ⟨v, Bx, A, c, a, b⟩
theorem now_no {p : Option Addr} (h : NoTp w p) : Calls Try.prog 30 #[.pointer p] w fun e w' => ∃ v Bx A c, e = .returned v ∧ NowIs w w' v [] Bx A c := by
  have HM := Lib.hid (made_no h)
  have HV := Lib.hid (values_any none 0 0 w)
  have HN : Hid (NowIs w (w.alloc (.cells #[.slice none 0 0] 39)) (.func (.func 43) #[] #[.pointer (some ⟨w.heap.size, 0, none⟩)]) [] w.heap.size none 0) := Lib.hid ⟨rfl, heap_alloc_new w _, SK.zero, Nat.le_refl _, (fun b off e hn => by cases e), below1 _ _ _⟩
  clear h
  go_enter Try.func30, Try.ntmps30
  go_wp2_with fail
  refine HM.out.mono ?_
  rintro e w' ⟨rfl, rfl⟩
  go_wp2_with fail
  refine HV.out.mono ?_
  rintro e w' ⟨rfl, rfl⟩
  go_wp2
  go_ret
  exact ⟨_, _, _, _, rfl, HN.out⟩
end
end Go.Proofs.Ytphjlcogjalidaa
