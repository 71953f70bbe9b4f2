/-
  The document's store in memory; its New, walked (layer 16).
-/
import Derived.Test.YtohnkagabpefdaaDoorZj37
import Derived.Test.YtohnkagabpefdaaDoorZj26
import Derived.Test.YtohnkagabpefdaaDoorZj27
import Derived.Test.YtohnkagabpefdaaDoorZj36
import Derived.Test.YtohnkagabpefdaaDoorZj38
namespace Go.Proofs.YtohnkagabpefdaaDoor
open Go.RowKit
set_option linter.unusedSimpArgs false
set_option linter.unusedVariables false

abbrev TKr : TypeId := 62
/-- The document's table t behind block B, its rows in S. -/
structure KrIs (S : Nat → Prop) (w : World) (B : Nat) (A : Option Addr) (c : Nat) (t : Tb Kp) : Prop where
  mine : S B
  blk : w.heap[B]? = some (.cells #[.int .i64 (t.most : Int), .slice A t.l.length c, .int .u64 (t.last : Int)] TKr (0, 0))
  row : SK enC 6 w A t.l.length t.l
  own : ∀ b off, A = some ⟨b, off, none⟩ → 0 < t.l.length → S b ∧ b ≠ B
  le : t.l.length ≤ c
  max : c ≤ maxLen
def KrAt (S : Nat → Prop) (w : World) (B : Nat) (t : Tb Kp) : Prop := t.Ok ∧ ∃ A c, KrIs S w B A c t
section
variable {S S' : Nat → Prop} {w w' : World} {B : Nat} {A : Option Addr} {c : Nat} {t : Tb Kp}
theorem KrIs.lt (h : KrIs S w B A c t) : B < w.heap.size := block_lt h.blk
theorem KrIs.but (h : KrIs S w B A c t) (hb : But S' w w') (hS : ∀ k, S' k → ¬ S k) : KrIs S w' B A c t :=
  ⟨h.mine, (hb.block B h.lt fun e => hS B e h.mine).trans h.blk, h.row.but hb fun b off e hn z => hS b z (h.own b off e hn).1, h.own, h.le, h.max⟩
theorem KrIs.below (h : KrIs S w B A c t) (hb : Below w.heap.size w w') : KrIs S w' B A c t := h.but (S' := fun _ => False) (But.of_below hb) (fun _ h => h.elim)
theorem KrIs.narrow (h : KrIs S w B A c t) (hs : ∀ k, k < w.heap.size → S k → S' k) : KrIs S' w B A c t :=
  ⟨hs _ h.lt h.mine, h.blk, h.row, fun b off e hn => by
    obtain ⟨b', off', e', hb, _⟩ := h.row.at_ (j := 0) hn hn
    rw [e] at e'
    cases e'
    exact ⟨hs b hb (h.own b off e hn).1, (h.own b off e hn).2⟩, h.le, h.max⟩
theorem KrIs.c0 (h : KrIs S w B A c t) : w.cell? ⟨B, 0, none⟩ = some (.int .i64 (t.most : Int)) := by rw [cell_of_row _ _ _ _ _ _ h.blk]; rfl
theorem KrIs.c1 (h : KrIs S w B A c t) : w.cell? ⟨B, 1, none⟩ = some (.slice A t.l.length c) := by rw [cell_of_row _ _ _ _ _ _ h.blk]; rfl
theorem KrIs.c2 (h : KrIs S w B A c t) : w.cell? ⟨B, 2, none⟩ = some (.int .u64 (t.last : Int)) := by rw [cell_of_row _ _ _ _ _ _ h.blk]; rfl
theorem KrIs.froz (h : KrIs S w B A c t) (i : Nat) : w.frozen? ⟨B, i, none⟩ = false := by
  have hb := h.blk
  simp [World.frozen?, hb]
/-- The last index is set. -/
theorem KrIs.setLast (h : KrIs S w B A c t) (n : Nat) : KrIs S (w.setCell ⟨B, 2, none⟩ (.int .u64 (n : Int))) B A c { t with last := n } :=
  ⟨h.mine, block_set (cur := #[.int .i64 (t.most : Int), .slice A t.l.length c, .int .u64 (t.last : Int)]) h.blk 2 _, h.row.but (S := (· = B)) (But.set (S := (· = B)) w (p := ⟨B, 2, none⟩) rfl _) (fun b off e hn => (h.own b off e hn).2), h.own, h.le, h.max⟩
/-- The rows are set: a row of the call's own. -/
theorem KrIs.setRows (h : KrIs S w B A c t) {l : List (En)} {A' : Option Addr} {c' : Nat} (hr : SK enC 6 w A' l.length l) (ho : ∀ b off, A' = some ⟨b, off, none⟩ → 0 < l.length → S b ∧ b ≠ B) (h1 : l.length ≤ c') (h2 : c' ≤ maxLen) : KrIs S (w.setCell ⟨B, 1, none⟩ (.slice A' l.length c')) B A' c' { t with l := l } :=
  ⟨h.mine, block_set (cur := #[.int .i64 (t.most : Int), .slice A t.l.length c, .int .u64 (t.last : Int)]) h.blk 1 _, hr.but (S := (· = B)) (But.set (S := (· = B)) w (p := ⟨B, 1, none⟩) rfl _) (fun b off e hn => (ho b off e hn).2), ho, h1, h2⟩
theorem KrAt.but (h : KrAt S w B t) (hb : But S' w w') (hS : ∀ k, S' k → ¬ S k) : KrAt S w' B t := by
  obtain ⟨h0, A, c, h1⟩ := h
  exact ⟨h0, A, c, h1.but hb hS⟩
theorem KrAt.below (h : KrAt S w B t) (hb : Below w.heap.size w w') : KrAt S w' B t := h.but (S' := fun _ => False) (But.of_below hb) (fun _ h => h.elim)
theorem KrAt.lt (h : KrAt S w B t) : B < w.heap.size := by
  obtain ⟨_, A, c, h1⟩ := h
  exact h1.lt
end
set_option maxHeartbeats 1000000 in
theorem krnew_any (m : Int) (w : World) (hm : -9223372036854775808 ≤ m ∧ m ≤ 9223372036854775807) :
    Calls Tryd.prog 26 #[.int .i64 m] w fun e w' => e = .returned (.pointer (some ⟨w.heap.size, 0, none⟩)) ∧ KrAt (· = w.heap.size) w' w.heap.size ⟨mostT m, [], 0⟩ ∧ Below w.heap.size w w' := by
  obtain ⟨X, hX⟩ : ∃ X, w.heap.size = X := ⟨_, rfl⟩
  have HX := Lib.hid hX
  obtain ⟨M, hM⟩ : ∃ M, mostT m = M := ⟨_, rfl⟩
  have HM := Lib.hid hM
  have hm1 := hm.1
  have hm2 := hm.2
  have fin : ∀ k : Int, (k = (mostT m : Int)) → Hid (KrAt (· = w.heap.size) (w.alloc (.cells #[.int .i64 k, .slice none 0 0, .int .u64 0] TKr)) w.heap.size ⟨mostT m, [], 0⟩ ∧ Below w.heap.size w (w.alloc (.cells #[.int .i64 k, .slice none 0 0, .int .u64 0] TKr))) := fun k hk => Lib.hid ⟨⟨Tb.Ok.new m, none, 0, rfl, by rw [hk]; exact heap_alloc_new _ _, .zero, fun _ _ e => (by cases e), Nat.le_refl _, Nat.zero_le _⟩, (Below.refl _ w).alloc (Nat.le_refl _) _⟩
  rw [hX, hM] at fin
  rw [hX, hM]
  have FIN := Lib.hid fin
  clear hX hM fin hm
  go_enter Tryd.func26, Tryd.ntmps26
  by_cases h1 : m < 1
  · go_wp2
    go_ret
    obtain ⟨f1, f2⟩ := (FIN.out 1 (by rw [← HM.out]; unfold mostT; split <;> (try split) <;> omega)).out
    exact ⟨by rw [← HX.out]; rfl, f1, f2⟩
  · by_cases h2 : 64 < m
    · go_wp2
      go_ret
      obtain ⟨f1, f2⟩ := (FIN.out 64 (by rw [← HM.out]; unfold mostT; split <;> (try split) <;> omega)).out
      exact ⟨by rw [← HX.out]; rfl, f1, f2⟩
    · go_wp2
      go_ret
      obtain ⟨f1, f2⟩ := (FIN.out m (by rw [← HM.out]; unfold mostT; split <;> (try split) <;> omega)).out
      exact ⟨by rw [← HX.out]; rfl, f1, f2⟩
end Go.Proofs.YtohnkagabpefdaaDoor
/-
  The document's wrong, walked (layer 16).
-/
namespace Go.Proofs.YtohnkagabpefdaaDoor
open Go.RowKit
set_option linter.unusedSimpArgs false
set_option linter.unusedVariables false

/-- The document's error of a key and a value. -/
def wrongN (k v : ByteArray) : Nat := if keyB k.data.toList then (if v.size ≤ 64 then 0 else 3) else 10
theorem rwrong_any (k v : ByteArray) (w : World) (hk : k.size ≤ maxLen) (hv : v.size ≤ maxLen) :
    Calls Tryd.prog 27 #[.string k, .string v] w fun e w' => e = .returned (.int .i64 (wrongN k v : Int)) ∧ w = w' := by
  have HK := Lib.hid (rkey_any k w hk)
  unfold maxLen at hv
  obtain ⟨b, hb⟩ : ∃ b, keyB k.data.toList = b := ⟨_, rfl⟩
  unfold wrongN
  rw [hb] at HK ⊢
  clear hb hk
  go_enter Tryd.func27, Tryd.ntmps27
  go_wp2_with fail
  refine HK.out.mono ?_
  rintro e w' ⟨rfl, rfl⟩
  cases b with
  | false =>
    go_wp2
    go_ret
    exact ⟨rfl, rfl⟩
  | true =>
    by_cases h : v.size ≤ 64
    · have q : ¬ (64 : Int) < (v.size : Int) := by omega
      go_wp2
      go_ret
      exact ⟨rfl, rfl⟩
    · have q : (64 : Int) < (v.size : Int) := by omega
      go_wp2
      go_ret
      exact ⟨rfl, rfl⟩
end Go.Proofs.YtohnkagabpefdaaDoor
/-
  Same of entries that are the same, walked (layer 16).
-/
namespace Go.Proofs.YtohnkagabpefdaaDoor
open Go.RowKit
set_option linter.unusedSimpArgs false
set_option linter.unusedVariables false

set_option maxHeartbeats 2000000 in
theorem rsame_any (A : Option Addr) (n c : Nat) (l : List En) (A2 : Option Addr) (c2 : Nat) (w : World) (hS : SK enC 6 w A n l) (hS2 : SK enC 6 w A2 n l) (hn : n ≤ maxLen) :
    Calls Tryd.prog 8 #[.slice A n c, .slice A2 n c2] w fun e w' => e = .returned (.bool true) ∧ Below w.heap.size w w' := by
  unfold maxLen at hn
  have hm : n ≤ 9223372036854775807 := by omega
  have HL := Lib.hid hS.1
  have HS := Lib.hid hS
  have HS2 := Lib.hid hS2
  have zz2 : (n != n) = false := by simp
  clear hS hS2 hn
  go_enter Tryd.func8, Tryd.ntmps8
  go_wp2
  go_loopw [5] (fun i wr => ∃ k : Nat, k ≤ n ∧ i = .int .i64 (k : Int) ∧ Hid (Below w.heap.size w wr)) (fun i _ => n - (intOf i).toNat)
  case atStart => exact ⟨0, Nat.zero_le _, rfl, Lib.hid (Below.refl _ _)⟩
  case round =>
    obtain ⟨k, hk, rfl, hb⟩ := hrel
    by_cases hlt : k < n
    · have hkl : k < l.length := by have := HL.out; omega
      obtain ⟨b, off, rfl, hbl, hit⟩ := (HS.out.below hb.out).at_ hlt hkl
      obtain ⟨b2, off2, rfl, hbl2, hit2⟩ := (HS2.out.below hb.out).at_ hlt hkl
      obtain ⟨x, hx⟩ : ∃ x, l[k] = x := ⟨_, rfl⟩
      rw [hx] at hit hit2
      obtain ⟨c0, c1, c2, c3, c4, c5⟩ := Kt.tr_cells hit
      obtain ⟨d0, d1, d2, d3, d4, d5⟩ := Kt.tr_cells hit2
      have q1 : (k : Int) < (n : Int) := by omega
      have q0 : (0 : Int) ≤ (k : Int) := by omega
      clear hx hit hit2
      have ug := en_guard
      have ue := en_eq x x
      rw [(eqE_iff x x).2 rfl] at ue
      unfold enV Kt.trV at ue
      go_wp2
      go_quiet (fail)
      go_wp2
      go_roundw
      case rel => exact ⟨k + 1, by omega, by go_num, Lib.hid (below_drewN hb.out nq)⟩
      case measure => simp [intOf]; omega
    · go_wp2
      go_ret
      exact ⟨rfl, hb.out⟩
end Go.Proofs.YtohnkagabpefdaaDoor
/-
  works (layer 16), walked.
-/
namespace Go.Proofs.YtohnkagabpefdaaDoor
open Go.RowKit
set_option linter.unusedSimpArgs false
set_option linter.unusedVariables false

theorem works_put : kSet ⟨9, [], 0⟩ ⟨#[97]⟩ ⟨#[49]⟩ 3 = (0, ⟨9, [⟨⟨#[97]⟩, ⟨⟨#[49]⟩, 0, 0⟩, 3, 3⟩], 3⟩) := by
  have h : firstE ((keyB (⟨#[97]⟩ : ByteArray).data.toList, 10) :: [shortC ⟨#[49]⟩]) = none := by
    rw [firstE_cons, show keyB (⟨#[97]⟩ : ByteArray).data.toList = true by decide, if_pos rfl, shortC, firstE_cons, decide_eq_true (by decide), if_pos rfl]
    rfl
  unfold kSet
  rw [modK_put h]
  rfl
theorem works_got : entO ⟨9, [⟨⟨#[97]⟩, ⟨⟨#[49]⟩, 0, 0⟩, 3, 3⟩], 3⟩ ⟨#[97]⟩ = ⟨⟨#[97]⟩, ⟨⟨#[49]⟩, 0, 0⟩, 3, 3⟩ ∧ isO ⟨9, [⟨⟨#[97]⟩, ⟨⟨#[49]⟩, 0, 0⟩, 3, 3⟩], 3⟩ ⟨#[97]⟩ = true := by
  unfold entO isO
  rw [getR_cons, if_pos rfl]
  exact ⟨rfl, rfl⟩
theorem works_any (w : World) (hM : MaxIs w) : Calls Tryd.prog 7 #[] w fun e w' => e = .returned (.bool true) ∧ Below w.heap.size w w' := by
  have HN := Lib.hid (knew_any 9 w (by decide))
  have HM := Lib.hid hM
  clear hM
  go_enter Tryd.func7, Tryd.ntmps7
  go_wp2_with fail
  refine HN.out.mono ?_
  rintro e w1 ⟨B, Bt, rfl, hk1, hb1⟩
  have HS := Lib.hid (kset_any ⟨#[97]⟩ ⟨#[49]⟩ 3 hk1 (HM.out.keep hb1) (by decide) (by decide) (by decide))
  rw [show mostT 9 = 9 from rfl, works_put] at HS
  have hBt := hk1.tmine.1
  have HB1 := Lib.hid hb1
  have HBt := Lib.hid hBt
  clear hk1 hb1 hBt HN
  go_wp2_with fail
  refine HS.out.mono ?_
  rintro e w2 ⟨rfl, hk2, hb2⟩
  have HG := Lib.hid (kget_any ⟨#[97]⟩ hk2)
  rw [works_got.1, works_got.2] at HG
  have HB2 : Hid (Below w.heap.size w w2) := Lib.hid (HB1.out.trans (hb2.below HB1.out.size fun k hk e => by have := HBt.out; have : k = Bt := e; omega))
  unfold enV Kt.trV at HG
  have ue := en_eq ⟨⟨#[97]⟩, ⟨⟨#[49]⟩, 0, 0⟩, 3, 3⟩ ⟨⟨#[97]⟩, ⟨⟨#[49]⟩, 0, 0⟩, 3, 3⟩
  rw [(eqE_iff _ _).2 rfl] at ue
  unfold enV Kt.trV at ue
  have ug := en_guard
  clear hk2 hb2 HS
  go_wp2_with fail
  refine HG.out.mono ?_
  rintro e w3 ⟨rfl, hb3⟩
  have HB3 := Lib.hid (HB2.out.trans (hb3.mono HB2.out.size))
  clear hb3 HG
  go_wp2
  go_ret
  exact ⟨rfl, HB3.out.alloc HB3.out.size _⟩
end Go.Proofs.YtohnkagabpefdaaDoor
