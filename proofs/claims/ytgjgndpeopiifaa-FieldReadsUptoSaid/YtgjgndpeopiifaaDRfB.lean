/-
  The document's Reader: Num, Text, Flag, Done (layer 4).
-/
import Derived.Test.YtgjgndpeopiifaaDRfA
import Derived.Test.YtgjgndpeopiifaaDItems
namespace Go.Proofs.Ytgjgndpeopiifaa
open Go.RowKit
set_option linter.unusedSimpArgs false

theorem RfAt.cells {w : World} {B : Nat} {A : Option Addr} {n c : Nat} {e : Int} (h : w.heap[B]? = some (.cells #[.slice A n c, .int .i64 e] 45 (0, 0))) :
    w.cell? ⟨B, 0, none⟩ = some (.slice A n c) ∧ w.cell? ⟨B, 1, none⟩ = some (.int .i64 e) ∧ w.frozen? ⟨B, 0, none⟩ = false ∧ w.frozen? ⟨B, 1, none⟩ = false := by
  refine ⟨by rw [cell_of_row _ B 0 _ _ _ h]; rfl, by rw [cell_of_row _ B 1 _ _ _ h]; rfl, ?_, ?_⟩ <;> simp [World.frozen?, h]
theorem RfAt.went {S : Nat → Prop} {w : World} {B b off n c k : Nat} {s : St} (hB : S B) (hh : w.heap[B]? = some (.cells #[.slice (some ⟨b, off, none⟩) n c, .int .i64 (s.e : Int)] 45 (0, 0))) (hr : RBn S w (some ⟨b, off, none⟩) n s.b) (hnc : n ≤ c) (hn : n ≤ 140737488355328) (he : s.e = 0) (hk : k ≤ n) (A' : Option Addr) (hA : A' = if c = k then some ⟨b, off, none⟩ else some ⟨b, off + k, none⟩) :
    RfAt S (w.setCell ⟨B, 0, none⟩ (.slice A' (n - k) (c - k))) B ⟨s.b.drop k, 0⟩ := by
  have hbut : But S w (w.setCell ⟨B, 0, none⟩ (.slice A' (n - k) (c - k))) := But.set w (p := ⟨B, 0, none⟩) hB _
  refine ⟨hB, A', n - k, c - k, ?_, ?_, by omega, ?_, by omega⟩
  · have := block_set hh 0 (.slice A' (n - k) (c - k))
    rw [he] at this
    exact this
  · by_cases hc : c = k
    · have h0 : n - k = 0 := by omega
      have hd : s.b.drop k = [] := List.drop_of_length_le (by rw [hr.1.1]; omega)
      show RBn S _ A' (n - k) (s.b.drop k)
      rw [h0, hd]
      exact ⟨RB.zero _ _, fun _ _ _ h => absurd h (by omega)⟩
    · rw [if_neg hc] at hA
      subst hA
      exact (hr.drop hk).but hbut
  · intro e
    rw [e] at hA
    split at hA <;> cases hA
theorem RfAt.failed {S : Nat → Prop} {w : World} {B n c : Nat} {A : Option Addr} {s : St} (hB : S B) (hh : w.heap[B]? = some (.cells #[.slice A n c, .int .i64 (s.e : Int)] 45 (0, 0))) (hr : RBn S w A n s.b) (hnc : n ≤ c) (hA : A = none → c = 0) (hn : n ≤ 140737488355328) (E : Nat) :
    RfAt S (w.setCell ⟨B, 1, none⟩ (.int .i64 (E : Int))) B ⟨s.b, E⟩ :=
  ⟨hB, A, n, c, block_set hh 1 (.int .i64 (E : Int)), hr.but (But.set w (p := ⟨B, 1, none⟩) hB _), hnc, hA, hn⟩
def ReadsF (S : Nat → Prop) (B : Nat) (w : World) (v : Value) (s : St) (e : Ending) (w' : World) : Prop := e = .returned v ∧ RfAt S w' B s ∧ But (fun k => k = B) w w'

set_option maxHeartbeats 1000000 in
theorem fNum_any (S : Nat → Prop) (B most : Nat) (s : St) (w : World) (h : RfAt S w B s) (hmost : most < 256 ^ 8) :
    Calls Try.prog 37 #[.pointer (some ⟨B, 0, none⟩), .int .u64 (most : Int)] w (ReadsF S B w (u64V ((itNum most).out s)) ((itNum most).next s)) := by
  obtain ⟨hB, A, n, c, hh, hr, hnc, hA, hn⟩ := h
  obtain ⟨c0, c1, f0, f1⟩ := RfAt.cells hh
  by_cases he : s.e ≠ 0
  · have ho : (itNum most).out s = (itNum most).none := (itNum most).out_err he
    have hx : (itNum most).next s = s := (itNum most).next_err he
    rw [ho, hx]
    have q1 : (((s.e : Nat) : Int) != 0) = true := by rw [bne_iff_ne]; omega
    have HH : Hid (RfAt S w B s) := Lib.hid ⟨hB, A, n, c, hh, hr, hnc, hA, hn⟩
    obtain ⟨E, hE⟩ : ∃ E, s.e = E := ⟨_, rfl⟩
    rw [hE] at q1 c1
    clear hh hr hA he ho hx hE
    go_enter Try.func37, Try.ntmps37
    go_wp2
    go_ret
    exact ⟨rfl, HH.out, But.refl _ _⟩
  have he0 : s.e = 0 := by simpa using he
  rw [he0] at c1
  have s1 := number_any A n c s.b w hr.1 hn
  have HF : Hid (∀ E : Nat, RfAt S (w.setCell ⟨B, 1, none⟩ (.int .i64 (E : Int))) B ⟨s.b, E⟩) := Lib.hid fun E => RfAt.failed hB hh hr hnc hA hn E
  have hm64 : (most : Int) ≤ 18446744073709551615 := by omega
  by_cases hN : errN s.b ≠ 0
  · have hE : errNum most s.b = errN s.b := by rw [errNum, if_pos hN]
    have ho : (itNum most).out s = (itNum most).none := by rw [It.out, if_neg he]; exact if_pos (by show errNum most s.b ≠ 0; rw [hE]; exact hN)
    have hx : (itNum most).next s = ⟨s.b, errN s.b⟩ := by
      have h2 : (itNum most).err s.b = errN s.b := hE
      rw [It.next, if_neg he, h2, if_pos hN]
    have e1 : rnOf s.b = fnAns 0 0 (errN s.b) := by rw [rnOf, if_pos hN]
    rw [ho, hx]
    rw [e1] at s1
    obtain ⟨E, hE'⟩ : ∃ E, errN s.b = E := ⟨_, rfl⟩
    rw [hE'] at s1 hN ⊢
    have q1 : (((E : Nat) : Int) != 0) = true := by rw [bne_iff_ne]; omega
    have q2 : (((E : Nat) : Int) == 0) = false := by rw [beq_eq_false_iff_ne]; omega
    have S1 := Lib.hid s1
    clear hh hr hA he ho hx hE hE' s1 hN e1 he0 hmost
    go_enter Try.func37, Try.ntmps37
    go_wp2_with fail
    refine S1.out.mono ?_
    rintro e w1 ⟨rfl, rfl⟩
    unfold fnAns
    go_wp2
    go_ret
    exact ⟨rfl, HF.out E, But.set (S := fun k => k = B) w (p := ⟨B, 1, none⟩) rfl _⟩
  have hN0 : errN s.b = 0 := by simpa using hN
  have hv64 := (num_laid hN0).2.1
  have hml := (num_laid hN0).2.2.2
  have e1 : rnOf s.b = fnAns (valN s.b) (1 + manyN s.b) 0 := by rw [rnOf, if_neg hN]
  have hE : errNum most s.b = if most < valN s.b then 3 else 0 := by rw [errNum, if_neg hN]
  have hvs : (itNum most).val s.b = valN s.b ∧ (itNum most).size s.b = 1 + manyN s.b ∧ (itNum most).err s.b = errNum most s.b := ⟨rfl, rfl, rfl⟩
  rw [e1] at s1
  by_cases h3 : most < valN s.b
  · rw [if_pos h3] at hE
    have ho : (itNum most).out s = 0 := by rw [It.out, if_neg he, hvs.2.2, hE, if_pos (by omega)]; rfl
    have hx : (itNum most).next s = ⟨s.b, 3⟩ := by rw [It.next, if_neg he, hvs.2.2, hE, if_pos (by omega)]
    rw [ho, hx]
    obtain ⟨V, hV⟩ : ∃ V, valN s.b = V := ⟨_, rfl⟩
    obtain ⟨Z, hZ⟩ : ∃ Z, 1 + manyN s.b = Z := ⟨_, rfl⟩
    rw [hV, hZ] at s1
    rw [hV] at h3 hv64
    have q1 : (most : Int) < (V : Int) := by omega
    have hv64' : (V : Int) ≤ 18446744073709551615 := by omega
    have S1 := Lib.hid s1
    clear hh hr hA he ho hx hE s1 hN e1 he0 hvs hN0 hV hZ hml hmost hv64 hv64' hm64
    go_enter Try.func37, Try.ntmps37
    go_wp2_with fail
    refine S1.out.mono ?_
    rintro e w1 ⟨rfl, rfl⟩
    unfold fnAns
    go_wp2
    go_ret
    exact ⟨rfl, HF.out 3, But.set (S := fun k => k = B) w (p := ⟨B, 1, none⟩) rfl _⟩
  · rw [if_neg h3] at hE
    have ho : (itNum most).out s = valN s.b := by rw [It.out, if_neg he, hvs.2.2, hE, if_neg (by simp)]; rfl
    have hx : (itNum most).next s = ⟨s.b.drop (1 + manyN s.b), 0⟩ := by rw [It.next, if_neg he, hvs.2.2, hE, if_neg (by simp)]; rfl
    rw [ho, hx]
    have hpos := errN_pos hN0
    rw [hr.1.1] at hml hpos
    obtain ⟨b, off, rfl, _, _⟩ := hr.1.2 hpos
    have HH : Hid (∀ k, k ≤ n → ∀ A', (A' = if c = k then some ⟨b, off, none⟩ else some ⟨b, off + k, none⟩) → RfAt S (w.setCell ⟨B, 0, none⟩ (.slice A' (n - k) (c - k))) B ⟨s.b.drop k, 0⟩) := Lib.hid fun k hk A' hA' => RfAt.went hB hh hr hnc hn he0 hk A' hA'
    obtain ⟨V, hV⟩ : ∃ V, valN s.b = V := ⟨_, rfl⟩
    obtain ⟨k, hk⟩ : ∃ Z, 1 + manyN s.b = Z := ⟨_, rfl⟩
    rw [hV, hk] at s1
    rw [hV] at h3 hv64 ⊢
    rw [hk] at hml ⊢
    have q1 : ¬ (most : Int) < (V : Int) := by omega
    have hv64' : (V : Int) ≤ 18446744073709551615 := by omega
    have q2 : (k : Int) ≤ (n : Int) := by omega
    have q3 : (k : Int) ≤ (c : Int) := by omega
    have S1 := Lib.hid s1
    clear hh hr hA he ho hx hE s1 hN e1 he0 hvs hN0 hV hk hmost HF hv64 hv64' hm64
    by_cases hc : c = k
    · subst hc
      go_enter Try.func37, Try.ntmps37
      go_wp2_with fail
      refine S1.out.mono ?_
      rintro e w1 ⟨rfl, rfl⟩
      unfold fnAns
      go_wp2
      go_ret
      have := HH.out c hml (some ⟨b, off, none⟩) (by rw [if_pos rfl])
      rw [Nat.sub_self, show n - c = 0 by omega] at this
      exact ⟨rfl, this, But.set (S := fun k => k = B) w (p := ⟨B, 0, none⟩) rfl _⟩
    · go_enter Try.func37, Try.ntmps37
      go_wp2_with fail
      refine S1.out.mono ?_
      rintro e w1 ⟨rfl, rfl⟩
      unfold fnAns
      go_wp2
      go_ret
      exact ⟨rfl, HH.out k hml _ (by rw [if_neg hc]), But.set (S := fun k => k = B) w (p := ⟨B, 0, none⟩) rfl _⟩
theorem fDone_any (S : Nat → Prop) (B : Nat) (s : St) (w : World) (h : RfAt S w B s) :
    Calls Try.prog 24 #[.pointer (some ⟨B, 0, none⟩)] w fun e w' => e = .returned (.int .i64 (doneS s : Int)) ∧ w = w' := by
  obtain ⟨hB, A, n, c, hh, hr, hnc, hA, hn⟩ := h
  obtain ⟨c0, c1, _, _⟩ := RfAt.cells hh
  by_cases he : s.e = 0
  · have hd : doneS s = if 0 < n then 41 else 0 := by
      unfold doneS
      rw [hr.1.1]
      by_cases h0 : 0 < n
      · rw [if_pos ⟨he, h0⟩, if_pos h0]
      · rw [if_neg (fun h => h0 h.2), if_neg h0, he]
    rw [he] at c1
    rw [hd]
    clear hd hh hr hA he
    by_cases h0 : 0 < n
    · rw [if_pos h0]
      have q1 : (0 : Int) < (n : Int) := by omega
      go_enter Try.func24, Try.ntmps24
      go_wp2
      go_ret
      exact ⟨rfl, rfl⟩
    · rw [if_neg h0]
      obtain rfl : n = 0 := by omega
      go_enter Try.func24, Try.ntmps24
      go_wp2
      go_ret
      exact ⟨rfl, rfl⟩
  · have hd : doneS s = s.e := by unfold doneS; rw [if_neg (fun h => he h.1)]
    rw [hd]
    obtain ⟨E, hE⟩ : ∃ E, s.e = E := ⟨_, rfl⟩
    rw [hE] at c1 he ⊢
    have q1 : (((E : Nat) : Int) == 0) = false := by rw [beq_eq_false_iff_ne]; omega
    clear hd hE hh hr hA he
    go_enter Try.func24, Try.ntmps24
    go_wp2
    go_ret
    exact ⟨rfl, rfl⟩
end Go.Proofs.Ytgjgndpeopiifaa
