import Derived.Test.YtilkbfmaofmjoaaGreatDoorZj6
import Derived.Test.YtilkbfmaofmjoaaGreatDoorZj36
import Derived.WalkLawsBesides
import Derived.WalkSpells
import Derived.Handy
import Derived.Shelf.Vars
import Derived.Lib.Hide
import Derived.IntWalk
import Derived.Deep.QuietTactic
import Derived.BigQuiet
import Derived.LoopTactic
namespace Go.Proofs.YtilkbfmaofmjoaaGreatDoor
open Go.RowKit
set_option linter.unusedSimpArgs false
theorem byte_back (c : UInt8) : ((c.toNat : Int)).toNat.toUInt8 = c := by simp
theorem has_any (a : ByteArray) (c : UInt8) (w : World) :
    Calls Tryz.prog 130 #[.string a, .int .u8 (c.toNat : Int)] w fun e w' => e = .returned (.bool (okB a.data.toList c)) ∧ w = w' := by
  have hix := Lib.contains_iff_indexByte a.data.toList c
  have hc := Tryz.strings_IndexByte a (c.toNat : Int) w
  rw [byte_back] at hc
  have hlt := c.toNat_lt
  by_cases h1 : c.toNat < 48
  · have hp : plainB c = false := by simp [plainB]; omega
    go_enter Tryz.func130, Tryz.ntmps130
    go_wp2_with (go_at_call 147; refine hc.mono ?_; rintro e w' ⟨rfl, rfl⟩)
    go_ret
    exact ⟨ret_bool (by first | (simp only [okB, hp, hix, Bool.false_or]; done) | (simp [okB, hp, hix]; done) | (simp [okB, hp, hix]; omega)), rfl⟩
  · by_cases h2 : c.toNat ≤ 57
    · have hp : plainB c = true := by simp [plainB]; omega
      go_enter Tryz.func130, Tryz.ntmps130
      go_wp2
      go_ret
      exact ⟨ret_bool (by first | (simp only [okB, hp, Bool.true_or]; done) | (simp [okB, hp]; done) | (simp [okB, hp]; omega)), rfl⟩
    · by_cases h3 : c.toNat < 97
      · have hp : plainB c = false := by simp [plainB]; omega
        have d1 : decide ((97 : Int) ≤ (c.toNat : Int)) = false := by simp; omega
        have d2 : decide ((48 : Int) ≤ (c.toNat : Int)) = true := by simp; omega
        have d3 : decide ((c.toNat : Int) ≤ 57) = false := by simp; omega
        go_enter Tryz.func130, Tryz.ntmps130
        go_wp2_with (go_at_call 147; refine hc.mono ?_; rintro e w' ⟨rfl, rfl⟩)
        go_ret
        exact ⟨ret_bool (by first | (simp only [okB, hp, hix, Bool.false_or]; done) | (simp [okB, hp, hix]; done) | (simp [okB, hp, hix]; omega)), rfl⟩
      · by_cases h4 : c.toNat ≤ 122
        · have hp : plainB c = true := by simp [plainB]; omega
          go_enter Tryz.func130, Tryz.ntmps130
          go_wp2
          go_ret
          exact ⟨ret_bool (by first | (simp only [okB, hp, Bool.true_or]; done) | (simp [okB, hp]; done) | (simp [okB, hp]; omega)), rfl⟩
        · have hp : plainB c = false := by simp [plainB]; omega
          have d1 : decide ((97 : Int) ≤ (c.toNat : Int)) = true := by simp; omega
          have d2 : decide ((c.toNat : Int) ≤ 122) = false := by simp; omega
          have d3 : decide ((48 : Int) ≤ (c.toNat : Int)) = true := by simp; omega
          have d4 : decide ((c.toNat : Int) ≤ 57) = false := by simp; omega
          go_enter Tryz.func130, Tryz.ntmps130
          go_wp2_with (go_at_call 147; refine hc.mono ?_; rintro e w' ⟨rfl, rfl⟩)
          go_ret
          exact ⟨ret_bool (by first | (simp only [okB, hp, hix, Bool.false_or]; done) | (simp [okB, hp, hix]; done) | (simp [okB, hp, hix]; omega)), rfl⟩
theorem plain_any (c : UInt8) (w : World) :
    Calls Tryz.prog 140 #[.int .u8 (c.toNat : Int)] w fun e w' => e = .returned (.bool (plainB c)) ∧ w = w' := by
  have hlt := c.toNat_lt
  by_cases h1 : c.toNat < 48
  · have hp : plainB c = false := by simp [plainB]; omega
    go_enter Tryz.func140, Tryz.ntmps140
    go_wp2
    go_ret
    exact ⟨ret_bool (by first | rfl | (simp; done) | (simp; omega)), rfl⟩
  · by_cases h2 : c.toNat ≤ 57
    · have hp : plainB c = true := by simp [plainB]; omega
      go_enter Tryz.func140, Tryz.ntmps140
      go_wp2
      go_ret
      exact ⟨ret_bool (by first | rfl | (simp; done) | (simp; omega)), rfl⟩
    · by_cases h3 : c.toNat < 97
      · have hp : plainB c = false := by simp [plainB]; omega
        have d1 : decide ((97 : Int) ≤ (c.toNat : Int)) = false := by simp; omega
        have d2 : decide ((48 : Int) ≤ (c.toNat : Int)) = true := by simp; omega
        have d3 : decide ((c.toNat : Int) ≤ 57) = false := by simp; omega
        go_enter Tryz.func140, Tryz.ntmps140
        go_wp2
        go_ret
        exact ⟨ret_bool (by first | rfl | (simp; done) | (simp; omega)), rfl⟩
      · by_cases h4 : c.toNat ≤ 122
        · have hp : plainB c = true := by simp [plainB]; omega
          go_enter Tryz.func140, Tryz.ntmps140
          go_wp2
          go_ret
          exact ⟨ret_bool (by first | rfl | (simp; done) | (simp; omega)), rfl⟩
        · have hp : plainB c = false := by simp [plainB]; omega
          have d1 : decide ((97 : Int) ≤ (c.toNat : Int)) = true := by simp; omega
          have d2 : decide ((c.toNat : Int) ≤ 122) = false := by simp; omega
          have d3 : decide ((48 : Int) ≤ (c.toNat : Int)) = true := by simp; omega
          have d4 : decide ((c.toNat : Int) ≤ 57) = false := by simp; omega
          go_enter Tryz.func140, Tryz.ntmps140
          go_wp2
          go_ret
          exact ⟨ret_bool (by first | rfl | (simp; done) | (simp; omega)), rfl⟩
set_option maxHeartbeats 400000 in
theorem spells_any (a s : ByteArray) (w : World) (hs : s.size ≤ maxLen) :
    Calls Tryz.prog 100 #[.string a, .string s] w fun e w' => e = .returned (.bool (spellsB a.data.toList s.data.toList)) ∧ w = w' := by
  unfold maxLen at hs
  go_enter Tryz.func100, Tryz.ntmps100
  go_wp2
  go_loop [8] (fun i => ∃ k : Nat, k ≤ s.size ∧ i = .int .i64 k ∧ Spelt a.data.toList s.data.toList k) (fun i => s.size - (intOf i).toNat)
  case atStart => exact ⟨0, Nat.zero_le _, rfl, Spelt.zero _ _⟩
  case round =>
    obtain ⟨k, hk, rfl, hsp⟩ := hrel
    by_cases hlt : k < s.size
    · cases ho : okB a.data.toList s[k] with
      | true =>
        have HS := Lib.hid (hsp.next hlt ho)
        clear hsp
        go_wp2_with (go_at_call 130; refine (has_any _ _ _).mono ?_; rintro e w' ⟨rfl, rfl⟩)
        go_round
        case rel => exact ⟨k + 1, by omega, by go_num, HS.out⟩
        case measure => simp [intOf]; omega
      | false =>
        have HS := Lib.hid (Spelt.no hlt ho)
        clear hsp
        go_wp2_with (go_at_call 130; refine (has_any _ _ _).mono ?_; rintro e w' ⟨rfl, rfl⟩)
        go_ret
        exact ⟨ret_bool HS.out.symm, rfl⟩
    · obtain rfl : k = s.size := by omega
      have HS := Lib.hid hsp.yes
      clear hsp
      go_wp2
      go_ret
      exact ⟨ret_bool HS.out, rfl⟩
end Go.Proofs.YtilkbfmaofmjoaaGreatDoor
namespace Go.Proofs.YtilkbfmaofmjoaaGreatDoor
open Go.RowKit Go.ChangeShapes Go.WideShapes Go.ChangeAt
set_option linter.unusedSimpArgs false
set_option maxHeartbeats 400000 in
theorem right_any (s : ByteArray) (w : World) (hs : s.size ≤ maxLen) :
    Calls Tryz.prog 57 #[.string s] w fun e w' => e = .returned (.bool (rightB s.data.toList)) ∧ w = w' := by
  have hm : s.size ≤ 9223372036854775807 := by unfold maxLen at hs; omega
  have c1 := spells_any ⟨#[45]⟩ s w hs
  have c2 := Tryz.strings_HasPrefix s ⟨#[45]⟩ w
  have c3 := Tryz.strings_HasSuffix s ⟨#[45]⟩ w hm
  unfold maxLen at hs
  by_cases h24 : s.size ≤ 24
  · cases e1 : spellsB [45] s.data.toList with
    | false =>
      have HS : Hid (rightB s.data.toList = false) := Lib.hid (by unfold rightB; rw [e1]; simp)
      go_enter Tryz.func57, Tryz.ntmps57
      go_wp2_with (go_at_call 100; refine c1.mono ?_; rintro e w' ⟨rfl, rfl⟩)
      go_ret
      exact ⟨ret_bool HS.out.symm, rfl⟩
    | true =>
      cases e2 : Lib.hasPrefix s.data.toList [45] with
      | true =>
        have HS : Hid (rightB s.data.toList = false) := Lib.hid (by unfold rightB; rw [e2]; simp)
        go_enter Tryz.func57, Tryz.ntmps57
        go_wp2_with (first | (go_at_call 100; refine c1.mono ?_; rintro e w' ⟨rfl, rfl⟩) | (go_at_call 101; refine c2.mono ?_; rintro e w' ⟨rfl, rfl⟩))
        go_ret
        exact ⟨ret_bool HS.out.symm, rfl⟩
      | false =>
        have HS : Hid (rightB s.data.toList = !Lib.hasSuffix s.data.toList [45]) := Lib.hid (by unfold rightB; rw [e1, e2, ← Lib.size_eq]; simp [h24])
        go_enter Tryz.func57, Tryz.ntmps57
        go_wp2_with (first | (go_at_call 100; refine c1.mono ?_; rintro e w' ⟨rfl, rfl⟩) | (go_at_call 101; refine c2.mono ?_; rintro e w' ⟨rfl, rfl⟩) | (go_at_call 102; refine c3.mono ?_; rintro e w' ⟨rfl, rfl⟩))
        go_ret
        exact ⟨ret_bool HS.out.symm, rfl⟩
  · have HS : Hid (rightB s.data.toList = false) := Lib.hid (right_short (by rw [← Lib.size_eq]; omega))
    go_enter Tryz.func57, Tryz.ntmps57
    go_wp2
    go_ret
    exact ⟨ret_bool HS.out.symm, rfl⟩
def Named (l : List UInt8) (k : Nat) : Prop := ∀ j (hj : j < l.length), j < k → plainB l[j] = true ∨ (l[j] = 45 ∧ j ≠ 0 ∧ j ≠ l.length - 1)
theorem Named.zero (l : List UInt8) : Named l 0 := fun _ _ h => absurd h (by omega)
theorem Named.next {s : ByteArray} {k : Nat} (h : Named s.data.toList k) (hk : k < s.size) (ho : plainB s[k] = true ∨ (s[k] = 45 ∧ k ≠ 0 ∧ k ≠ s.size - 1)) : Named s.data.toList (k + 1) := by
  intro j hj hjk
  by_cases e : j = k
  · subst e
    rcases ho with ho | ⟨h1, h2, h3⟩
    · exact Or.inl ho
    · exact Or.inr ⟨h1, h2, by rw [← Lib.size_eq]; exact h3⟩
  · exact h j hj (by omega)
theorem Named.all {s : ByteArray} (h : Named s.data.toList s.size) (h1 : 1 ≤ s.size) (h2 : s.size ≤ 24) : rightB s.data.toList = true :=
  right_true (by rw [← Lib.size_eq]; exact h1) (by rw [← Lib.size_eq]; exact h2) (fun j hj => h j hj (by rw [Lib.size_eq]; exact hj))
theorem right_no {s : ByteArray} {k : Nat} (hk : k < s.size) (hp : plainB s[k] = false) (h : s[k] ≠ 45 ∨ k = 0 ∨ k = s.size - 1) : rightB s.data.toList = false :=
  right_false (j := k) (by rw [← Lib.size_eq]; exact hk) hp (h.imp id (Or.imp id (fun e1 => by have e := Lib.size_eq s; omega)))
set_option maxHeartbeats 1000000 in
theorem rright_any (s : ByteArray) (w : World) (hs : s.size ≤ maxLen) :
    Calls Tryz.prog 120 #[.string s] w fun e w' => e = .returned (.bool (rightB s.data.toList)) ∧ w = w' := by
  unfold maxLen at hs
  by_cases h0 : s.size < 1
  · have HS : Hid (rightB s.data.toList = false) := Lib.hid (right_short (by rw [← Lib.size_eq]; omega))
    go_enter Tryz.func120, Tryz.ntmps120
    go_wp2
    go_ret
    exact ⟨ret_bool HS.out.symm, rfl⟩
  by_cases h24 : 24 < s.size
  · have HS : Hid (rightB s.data.toList = false) := Lib.hid (right_short (by rw [← Lib.size_eq]; omega))
    go_enter Tryz.func120, Tryz.ntmps120
    go_wp2
    go_ret
    exact ⟨ret_bool HS.out.symm, rfl⟩
  go_enter Tryz.func120, Tryz.ntmps120
  go_wp2
  go_loop [3] (fun i => ∃ k : Nat, k ≤ s.size ∧ i = .int .i64 k ∧ Named s.data.toList k) (fun i => s.size - (intOf i).toNat)
  case atStart => exact ⟨0, Nat.zero_le _, rfl, Named.zero _⟩
  case round =>
    obtain ⟨k, hk, rfl, hnm⟩ := hrel
    by_cases hlt : k < s.size
    · cases hp : plainB s[k] with
      | true =>
        have HS := Lib.hid (hnm.next hlt (Or.inl hp))
        clear hnm
        go_wp2_with (go_at_call 140; refine (plain_any _ _).mono ?_; rintro e w' ⟨rfl, rfl⟩)
        go_round
        case rel => exact ⟨k + 1, by omega, by go_num, HS.out⟩
        case measure => simp [intOf]; omega
      | false =>
        by_cases h45 : s[k] = 45
        · have b1 : ((s[k].toNat : Int) == 45) = true := by rw [h45]; rfl
          have b2 : ((s[k].toNat : Int) != 45) = false := by rw [h45]; rfl
          by_cases hk0 : k = 0
          · subst hk0
            have HS := Lib.hid (right_no hlt hp (by simp))
            clear hnm h45
            go_wp2_with (go_at_call 140; refine (plain_any _ _).mono ?_; rintro e w' ⟨rfl, rfl⟩)
            go_ret
            exact ⟨ret_bool HS.out.symm, rfl⟩
          · by_cases hkl : k = s.size - 1
            · have HS := Lib.hid (right_no hlt hp (Or.inr (Or.inr hkl)))
              have f1 : ((k : Int) == (s.size : Int) - 1) = true := by simp; omega
              clear hnm h45 hkl
              go_wp2_with (go_at_call 140; refine (plain_any _ _).mono ?_; rintro e w' ⟨rfl, rfl⟩)
              go_ret
              exact ⟨ret_bool HS.out.symm, rfl⟩
            · have HS := Lib.hid (hnm.next hlt (Or.inr ⟨h45, hk0, hkl⟩))
              have f1 : ((k : Int) == (s.size : Int) - 1) = false := by simp; omega
              clear hnm h45
              go_wp2_with (go_at_call 140; refine (plain_any _ _).mono ?_; rintro e w' ⟨rfl, rfl⟩)
              go_round
              case rel => exact ⟨k + 1, by omega, by go_num, HS.out⟩
              case measure => simp [intOf]; omega
        · have b1 : ((s[k].toNat : Int) == 45) = false := byte_ne (n := 45) h45
          have b2 : ((s[k].toNat : Int) != 45) = true := by rw [bne, b1]; rfl
          have HS := Lib.hid (right_no hlt hp (Or.inl h45))
          clear hnm h45
          go_wp2_with (go_at_call 140; refine (plain_any _ _).mono ?_; rintro e w' ⟨rfl, rfl⟩)
          go_ret
          exact ⟨ret_bool HS.out.symm, rfl⟩
    · obtain rfl : k = s.size := by omega
      have HS := Lib.hid (hnm.all (by omega) (by omega))
      clear hnm
      go_wp2
      go_ret
      exact ⟨ret_bool HS.out.symm, rfl⟩
end Go.Proofs.YtilkbfmaofmjoaaGreatDoor
namespace Go.Proofs.YtilkbfmaofmjoaaGreatDoor
open Go.RowKit Go.ChangeShapes Go.WideShapes Go.ChangeAt
set_option linter.unusedSimpArgs false
set_option linter.unusedVariables false
def RS (w : World) (A : Option Addr) (n : Nat) (xs : List ByteArray) : Prop :=
  xs.length = n ∧ (0 < n → ∃ b off, A = some ⟨b, off, none⟩ ∧ b < w.heap.size ∧ ∀ j (h : j < xs.length), w.cell? ⟨b, off + j, none⟩ = some (.string xs[j]))
theorem RS.len {w : World} {A : Option Addr} {n : Nat} {xs : List ByteArray} (h : RS w A n xs) : xs.length = n := h.1
theorem RS.zero (w : World) (A : Option Addr) : RS w A 0 [] := ⟨rfl, fun h => absurd h (by omega)⟩
theorem RS.below {w w' : World} {A : Option Addr} {n : Nat} {xs : List ByteArray} (h : RS w A n xs) (hb : Below w.heap.size w w') : RS w' A n xs :=
  ⟨h.1, fun hn => by
    obtain ⟨b, off, e, hlt, hc⟩ := h.2 hn
    exact ⟨b, off, e, Nat.lt_of_lt_of_le hlt hb.size, fun j hj => (hb.cell (p := ⟨b, off + j, none⟩) hlt).trans (hc j hj)⟩⟩
def Small (l : List ByteArray) : Prop := ∀ x ∈ l, x.size ≤ maxLen
theorem below_draws {B : Nat} {a w : World} (h : Below B a w) (q : Nat) : Below B a (w.drewN q) := ⟨h.os, h.tape, h.output, h.size, h.block⟩
set_option maxHeartbeats 400000 in
theorem rrising_any (A : Option Addr) (n c : Nat) (xs : List ByteArray) (w : World) (h : RS w A n xs) (hn : n ≤ 1000) :
    Calls Tryz.prog 141 #[.slice A n c] w fun e w' => e = .returned (.bool (risingB xs)) ∧ Below w.heap.size w w' := by
  have hl := h.1
  go_enter Tryz.func141, Tryz.ntmps141
  go_wp2
  go_loopw [3] (fun i wr => ∃ k : Nat, 1 ≤ k ∧ k ≤ n + 1 ∧ i = .int .i64 k ∧ RisesTo xs k ∧ Below w.heap.size w wr) (fun i _ => n + 1 - (intOf i).toNat)
  case atStart => exact ⟨1, by omega, by omega, rfl, RisesTo.one _, Below.refl _ _⟩
  case round =>
    obtain ⟨k, hk1, hk, rfl, hr, hb⟩ := hrel
    by_cases hlt : k < n
    · obtain ⟨b, off, rfl, hb1, hc⟩ := (h.below hb).2 (by omega)
      have q1 : k - 1 < xs.length := by omega
      have q2 : k < xs.length := by omega
      have hx := hc (k - 1) q1
      have hy := hc k q2
      have ek : IntKind.i64.wrap ((k : Int) - 1) = (k : Int) - 1 := IntWalk.i64_in _ (by omega)
      have ek2 : ((k : Int) - 1).toNat = k - 1 := by omega
      have g0 : (0 : Int) ≤ (k : Int) - 1 := by omega
      have g1 : (k : Int) - 1 < (n : Int) := by omega
      have g2 : (0 : Int) ≤ (k : Int) := by omega
      have g3 : (k : Int) < (n : Int) := by omega
      cases he : ltT (xs[k - 1]'q1) (xs[k]'q2) with
      | true =>
        have HS := Lib.hid (hr.next q2 hk1 he)
        have t1 : Op.bytesLess (xs[k - 1]'q1).toList (xs[k]'q2).toList = true := he
        clear hc hr he h
        go_wp2
        go_quiet (fail)
        clear ek ek2
        go_wp2
        go_roundw
        case rel => exact ⟨k + 1, by omega, by omega, by go_num, HS.out, below_draws hb _⟩
        case measure => simp [intOf]; omega
      | false =>
        have HS := Lib.hid (rises_no q2 hk1 he)
        have t1 : Op.bytesLess (xs[k - 1]'q1).toList (xs[k]'q2).toList = false := he
        clear hc hr he h
        go_wp2
        go_quiet (fail)
        clear ek ek2
        go_wp2
        go_ret
        exact ⟨ret_bool HS.out.symm, below_draws hb _⟩
    · have HS := Lib.hid (hr.all (by omega))
      clear hr h
      go_wp2
      go_ret
      exact ⟨ret_bool HS.out.symm, hb⟩
set_option maxHeartbeats 400000 in
theorem rtags_any (A : Option Addr) (n c : Nat) (xs : List ByteArray) (w : World) (h : RS w A n xs) (hS : Small xs) (hn : n ≤ maxLen) :
    Calls Tryz.prog 121 #[.slice A n c] w fun e w' => e = .returned (.bool (tagsB xs)) ∧ Below w.heap.size w w' := by
  have hl := h.1
  unfold maxLen at hn
  by_cases h4 : 4 < n
  · have HS := Lib.hid (tags_long (l := xs) (by omega))
    clear h
    go_enter Tryz.func121, Tryz.ntmps121
    go_wp2
    go_ret
    exact ⟨ret_bool HS.out.symm, Below.refl _ _⟩
  have cr := rrising_any A n c xs w h (by omega)
  cases er : risingB xs with
  | false =>
    rw [er] at cr
    have HS := Lib.hid (tags_falls er)
    clear h er
    go_enter Tryz.func121, Tryz.ntmps121
    go_wp2_with (go_at_call 141; refine cr.mono ?_; rintro e w1 ⟨rfl, hb⟩)
    go_ret
    exact ⟨ret_bool HS.out.symm, hb⟩
  | true =>
    rw [er] at cr
    have ER := Lib.hid er
    have HL := Lib.hid hl
    have HSm := Lib.hid hS
    clear er hS
    go_enter Tryz.func121, Tryz.ntmps121
    go_wp2_with (go_at_call 141; refine cr.mono ?_; rintro e w1 ⟨rfl, hb⟩)
    have h' := h.below hb
    have HB := Lib.hid hb
    clear h hb cr
    go_loop [3] (fun i => ∃ k : Nat, k ≤ n ∧ i = .int .i64 k ∧ RightsTo xs k) (fun i => n - (intOf i).toNat)
    case atStart => exact ⟨0, Nat.zero_le _, rfl, RightsTo.zero _⟩
    case round =>
      obtain ⟨k, hk, rfl, hr⟩ := hrel
      by_cases hlt : k < n
      · obtain ⟨b, off, rfl, hb, hc⟩ := h'.2 (by omega)
        have q : k < xs.length := by omega
        have hcell := hc k q
        have hz := HSm.out xs[k] (List.getElem_mem q)
        have c1 := rright_any xs[k] w1 hz
        cases ho : rightB xs[k].data.toList with
        | true =>
          rw [ho] at c1
          have HS := Lib.hid (hr.next q ho)
          clear hc hr ho h' hz
          go_wp2_with (go_at_call 120; refine c1.mono ?_; rintro e w' ⟨rfl, rfl⟩)
          go_round
          case rel => exact ⟨k + 1, by omega, by go_num, HS.out⟩
          case measure => simp [intOf]; omega
        | false =>
          rw [ho] at c1
          have HS := Lib.hid (tags_wrong q ho)
          clear hc hr ho h' hz
          go_wp2_with (go_at_call 120; refine c1.mono ?_; rintro e w' ⟨rfl, rfl⟩)
          go_ret
          exact ⟨ret_bool HS.out.symm, HB.out⟩
      · obtain rfl : k = n := by omega
        have HS := Lib.hid (tags_all hr (by omega) (by omega) ER.out)
        clear hr h'
        go_wp2
        go_ret
        exact ⟨ret_bool HS.out.symm, HB.out⟩
theorem right_again (s : ByteArray) (w : World) (hs : s.size ≤ maxLen) :
    Calls Tryz.prog 57 #[.string s] w fun e w' => e = .returned (.bool (rightB s.data.toList)) ∧ w' = w :=
  (right_any s w hs).mono (by rintro e w' ⟨rfl, rfl⟩; exact ⟨rfl, rfl⟩)
set_option maxHeartbeats 1000000 in
theorem tags_any (A : Option Addr) (n c : Nat) (xs : List ByteArray) (w : World) (h : RS w A n xs) (hS : Small xs) (hn : n ≤ maxLen) :
    Calls Tryz.prog 74 #[.slice A n c] w fun e w' => e = .returned (.bool (tagsB xs)) ∧ Below w.heap.size w w' := by
  have hl := h.1
  unfold maxLen at hn
  by_cases h4 : 4 < n
  · have HS := Lib.hid (tags_long (l := xs) (by omega))
    clear h
    go_enter Tryz.func74, Tryz.ntmps74
    go_wp2
    go_ret
    exact ⟨ret_bool HS.out.symm, Below.refl _ _⟩
  have HSm := Lib.hid hS
  clear hS
  go_enter Tryz.func74, Tryz.ntmps74
  go_wp2
  go_loopw [9] (fun i wr => ∃ k : Nat, k ≤ n ∧ i = .int .i64 k ∧ RightsTo xs k ∧ RisesTo xs k ∧ Below w.heap.size w wr) (fun i _ => n - (intOf i).toNat)
  case atStart => exact ⟨0, Nat.zero_le _, rfl, RightsTo.zero _, fun j _ hj => absurd hj (by omega), Below.refl _ _⟩
  case round =>
    obtain ⟨k, hk, rfl, hr, hs, hb⟩ := hrel
    by_cases hlt : k < n
    · obtain ⟨b, off, rfl, hb1, hc⟩ := (h.below hb).2 (by omega)
      have q : k < xs.length := by omega
      have hy := hc k q
      have hz := HSm.out xs[k] (List.getElem_mem q)
      have c1 := fun W => right_again xs[k] W hz
      have g2 : (0 : Int) ≤ (k : Int) := by omega
      have g3 : (k : Int) < (n : Int) := by omega
      cases ho : rightB xs[k].data.toList with
      | false =>
        rw [ho] at c1
        have HS := Lib.hid (tags_wrong q ho)
        clear hc hr hs ho h hz
        go_wp2
        go_quiet ((go_at_call 57; exact Calls.quiet_of_same (c1 _)))
        go_wp2
        go_ret
        exact ⟨ret_bool HS.out.symm, below_draws hb _⟩
      | true =>
        rw [ho] at c1
        have HR := Lib.hid (hr.next q ho)
        by_cases hk0 : k = 0
        · subst hk0
          have HS : Hid (RisesTo xs (0 + 1)) := Lib.hid (RisesTo.one _)
          have d0 : decide ((0 : Int) < 0) = false := by decide
          have hy0 : wr.cell? ⟨b, off, none⟩ = some (.string xs[0]) := hy
          clear hc hr hs ho h hz hy
          go_wp2
          go_quiet ((go_at_call 57; exact Calls.quiet_of_same (c1 _)))
          go_wp2
          go_roundw
          case rel => exact ⟨0 + 1, by omega, by go_num, HR.out, HS.out, below_draws hb _⟩
          case measure => simp [intOf]; omega
        · have q1 : k - 1 < xs.length := by omega
          have hx := hc (k - 1) q1
          have hk1 : 1 ≤ k := by omega
          have d0 : decide (0 < k) = true := decide_eq_true (by omega)
          have g0 : (0 : Int) ≤ (k : Int) - 1 := by omega
          have g1 : (k : Int) - 1 < (n : Int) := by omega
          have ek : IntKind.i64.wrap ((k : Int) - 1) = (k : Int) - 1 := IntWalk.i64_in _ (by omega)
          have ek2 : ((k : Int) - 1).toNat = k - 1 := by omega
          cases he : ltT (xs[k - 1]'q1) (xs[k]'q) with
          | true =>
            have HS := Lib.hid (hs.next q hk1 he)
            have t1 : Op.bytesLess (xs[k - 1]'q1).toList (xs[k]'q).toList = true := he
            clear hc hr hs ho h hz he
            go_wp2
            go_quiet ((go_at_call 57; exact Calls.quiet_of_same (c1 _)))
            clear ek ek2
            go_wp2
            go_roundw
            case rel => exact ⟨k + 1, by omega, by go_num, HR.out, HS.out, below_draws hb _⟩
            case measure => simp [intOf]; omega
          | false =>
            have HS := Lib.hid (tags_falls (rises_no q hk1 he))
            have t1 : Op.bytesLess (xs[k - 1]'q1).toList (xs[k]'q).toList = false := he
            clear hc hr hs ho h hz he
            go_wp2
            go_quiet ((go_at_call 57; exact Calls.quiet_of_same (c1 _)))
            clear ek ek2
            go_wp2
            go_ret
            exact ⟨ret_bool HS.out.symm, below_draws hb _⟩
    · have HS := Lib.hid (tags_all hr (by omega) (by omega) (hs.all (by omega)))
      clear hr hs h
      go_wp2
      go_ret
      exact ⟨ret_bool HS.out.symm, hb⟩
end Go.Proofs.YtilkbfmaofmjoaaGreatDoor
