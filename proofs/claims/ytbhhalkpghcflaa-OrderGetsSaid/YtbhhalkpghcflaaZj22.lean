/-
  item at its three instances; the Reader's Num, Text, Flag, Left, Wrong, Done, and Read (layer 4).
-/
import Derived.Test.YtbhhalkpghcflaaZj21
namespace Go.Proofs.Ytbhhalkpghcflaa
open Go.RowKit
set_option linter.unusedSimpArgs false

theorem RdAt.cells {w : World} {B : Nat} {A : Option Addr} {n c : Nat} {e : Int} (h : w.heap[B]? = some (.cells #[.bool true, .slice A n c, .int .i64 e] 81 (0, 0))) :
    w.cell? ⟨B, 0, none⟩ = some (.bool true) ∧ w.cell? ⟨B, 1, none⟩ = some (.slice A n c) ∧ w.cell? ⟨B, 2, none⟩ = some (.int .i64 e) ∧ w.frozen? ⟨B, 1, none⟩ = false ∧ w.frozen? ⟨B, 2, none⟩ = false := by
  refine ⟨by rw [cell_of_row _ B 0 _ _ _ h]; rfl, by rw [cell_of_row _ B 1 _ _ _ h]; rfl, by rw [cell_of_row _ B 2 _ _ _ h]; rfl, ?_, ?_⟩ <;> simp [World.frozen?, h]
theorem num_size {most : Nat} {b : List UInt8} (h : (itNum most).err b = 0) : (itNum most).size b ≤ b.length ∧ 0 < b.length := by
  obtain ⟨h1, _⟩ := errNum_zero (most := most) h
  exact ⟨(num_laid h1).2.2.2, errN_pos h1⟩
theorem flag_size {b : List UInt8} (h : itFlag.err b = 0) : itFlag.size b ≤ b.length ∧ 0 < b.length := by
  obtain ⟨h1, _⟩ := errFlag_zero h
  exact ⟨(num_laid h1).2.2.2, errN_pos h1⟩
theorem text_size {most : Nat} {b : List UInt8} (h : (itText most).err b = 0) : (itText most).size b ≤ b.length ∧ 0 < b.length := by
  obtain ⟨h1, h2⟩ := errText_zero (most := most) h
  obtain ⟨h3, _⟩ := errNum_zero h1
  have h4 := (num_laid h3).2.2.2
  refine ⟨?_, errN_pos h3⟩
  show 1 + manyN b + valN b ≤ b.length
  omega
/-- Where the reader stands behind an item that went well. -/
theorem RdAt.went {S : Nat → Prop} {w : World} {B b off n c k : Nat} {s : St} (hB : S B) (hh : w.heap[B]? = some (.cells #[.bool true, .slice (some ⟨b, off, none⟩) n c, .int .i64 (s.e : Int)] 81 (0, 0))) (hr : RBn S w (some ⟨b, off, none⟩) n s.b) (hnc : n ≤ c) (hn : n ≤ 140737488355328) (he : s.e = 0) (hk : k ≤ n) (A' : Option Addr) (hA : A' = if c = k then some ⟨b, off, none⟩ else some ⟨b, off + k, none⟩) :
    RdAt S (w.setCell ⟨B, 1, none⟩ (.slice A' (n - k) (c - k))) B ⟨s.b.drop k, 0⟩ := by
  have hbut : But S w (w.setCell ⟨B, 1, none⟩ (.slice A' (n - k) (c - k))) := But.set w (p := ⟨B, 1, none⟩) hB _
  refine ⟨hB, A', n - k, c - k, ?_, ?_, by omega, ?_, by omega⟩
  · have := block_set hh 1 (.slice A' (n - k) (c - k))
    rw [he] at this
    exact this
  · by_cases hc : c = k
    · have h0 : n - k = 0 := by omega
      have hd : s.b.drop k = [] := List.drop_of_length_le (by rw [hr.1.1]; omega)
      show RBn S _ A' (n - k) (s.b.drop k)
      rw [h0, hd]
      exact ⟨RB.zero _ _, fun _ _ _ h => absurd h (by omega)⟩
    · rw [if_neg hc] at hA
      subst hA
      exact (hr.drop hk).but hbut
  · intro e
    rw [e] at hA
    split at hA <;> cases hA
theorem RdAt.failed {S : Nat → Prop} {w : World} {B n c : Nat} {A : Option Addr} {s : St} (hB : S B) (hh : w.heap[B]? = some (.cells #[.bool true, .slice A n c, .int .i64 (s.e : Int)] 81 (0, 0))) (hr : RBn S w A n s.b) (hnc : n ≤ c) (hA : A = none → c = 0) (hn : n ≤ 140737488355328) (E : Nat) :
    RdAt S (w.setCell ⟨B, 2, none⟩ (.int .i64 (E : Int))) B ⟨s.b, E⟩ :=
  ⟨hB, A, n, c, block_set hh 2 (.int .i64 (E : Int)), hr.but (But.set w (p := ⟨B, 2, none⟩) hB _), hnc, hA, hn⟩
/-- What a reader's call does: it hands back v, the reader stands at s, nothing else that was there has changed. -/
def Reads (S : Nat → Prop) (B : Nat) (w : World) (v : Value) (s : St) (e : Ending) (w' : World) : Prop := e = .returned v ∧ RdAt S w' B s ∧ But (fun k => k = B) w w'

set_option maxHeartbeats 1000000 in
theorem item_u64 (S : Nat → Prop) (B : Nat) (s : St) (w : World) (h : RdAt S w B s) (most bm : Nat) (hmost : most < 256 ^ 8) (hm : w.cell? ⟨bm, 0, none⟩ = some (.int .u64 (most : Int))) :
    Calls Try.prog 41 #[.pointer (some ⟨B, 0, none⟩), .func (.func 42) #[] #[.pointer (some ⟨bm, 0, none⟩)]] w (Reads S B w (u64V ((itNum most).out s)) ((itNum most).next s)) := by
  obtain ⟨hB, A, n, c, hh, hr, hnc, hA, hn⟩ := h
  obtain ⟨c0, c1, c2, f1, f2⟩ := RdAt.cells hh
  by_cases he : s.e ≠ 0
  · have ho : (itNum most).out s = (itNum most).none := (itNum most).out_err he
    have hx : (itNum most).next s = s := (itNum most).next_err he
    rw [ho, hx]
    have q1 : (((s.e : Nat) : Int) != 0) = true := by rw [bne_iff_ne]; omega
    have HH : Hid (RdAt S w B s) := Lib.hid ⟨hB, A, n, c, hh, hr, hnc, hA, hn⟩
    obtain ⟨E, hE⟩ : ∃ E, s.e = E := ⟨_, rfl⟩
    rw [hE] at q1 c2
    clear hh hr hA he ho hx hE
    go_enter Try.func41, Try.ntmps41
    go_wp2
    go_ret
    exact ⟨rfl, HH.out, But.refl _ _⟩
  have he0 : s.e = 0 := by simpa using he
  rw [he0] at c2
  have s1 := Num1_any A n c most bm s.b w hr.1 hnc hn hmost hm
  unfold u64V
  by_cases hf : (itNum most).err s.b ≠ 0
  · have ho : (itNum most).out s = (itNum most).none := by rw [It.out, if_neg he, if_pos hf]
    have hx : (itNum most).next s = ⟨s.b, (itNum most).err s.b⟩ := by rw [It.next, if_neg he, if_pos hf]
    have e1 : fnOf most s.b = fnAns 0 0 ((itNum most).err s.b) := by rw [fnOf]; exact if_pos hf
    rw [ho, hx]
    rw [e1] at s1
    have HH : Hid (∀ E : Nat, RdAt S (w.setCell ⟨B, 2, none⟩ (.int .i64 (E : Int))) B ⟨s.b, E⟩) := Lib.hid fun E => RdAt.failed hB hh hr hnc hA hn E
    obtain ⟨E, hE⟩ : ∃ E, (itNum most).err s.b = E := ⟨_, rfl⟩
    rw [hE] at s1 hf ⊢
    have q1 : (((E : Nat) : Int) != 0) = true := by rw [bne_iff_ne]; omega
    have S1 := Lib.hid s1
    clear hh hr hA he ho hx hE s1 hf e1 he0 hmost
    go_enter Try.func41, Try.ntmps41
    go_wp2_with fail
    refine S1.out.mono ?_
    rintro e w1 ⟨rfl, rfl⟩
    unfold fnAns
    go_wp2
    go_ret
    exact ⟨rfl, HH.out E, But.set (S := fun k => k = B) w (p := ⟨B, 2, none⟩) rfl _⟩
  · have hf0 : (itNum most).err s.b = 0 := by simpa using hf
    have ho : (itNum most).out s = (itNum most).val s.b := by rw [It.out, if_neg he, if_neg hf]
    have hx : (itNum most).next s = ⟨s.b.drop ((itNum most).size s.b), 0⟩ := by rw [It.next, if_neg he, if_neg hf]
    have e1 : fnOf most s.b = fnAns ((itNum most).val s.b) ((itNum most).size s.b) 0 := by rw [fnOf]; exact if_neg hf
    obtain ⟨z1, z2⟩ := num_size hf0
    rw [ho, hx]
    rw [e1] at s1
    rw [hr.1.1] at z1 z2
    obtain ⟨b, off, rfl, _, _⟩ := hr.1.2 z2
    have HH : Hid (∀ k, k ≤ n → ∀ A', (A' = if c = k then some ⟨b, off, none⟩ else some ⟨b, off + k, none⟩) → RdAt S (w.setCell ⟨B, 1, none⟩ (.slice A' (n - k) (c - k))) B ⟨s.b.drop k, 0⟩) := Lib.hid fun k hk A' hA' => RdAt.went hB hh hr hnc hn he0 hk A' hA'
    obtain ⟨k, hk⟩ : ∃ k, (itNum most).size s.b = k := ⟨_, rfl⟩
    obtain ⟨v, hv⟩ : ∃ v, (itNum most).val s.b = v := ⟨_, rfl⟩
    rw [hk] at s1 z1 ⊢
    rw [hv] at s1 ⊢
    have S1 := Lib.hid s1
    have q1 : (k : Int) ≤ (n : Int) := by omega
    have q2 : (k : Int) ≤ (c : Int) := by omega
    clear hh hr hA he ho hx hk hv s1 hf e1 he0 hf0 hmost
    by_cases hc : c = k
    · subst hc
      go_enter Try.func41, Try.ntmps41
      go_wp2_with fail
      refine S1.out.mono ?_
      rintro e w1 ⟨rfl, rfl⟩
      unfold fnAns
      go_wp2
      go_ret
      have := HH.out c z1 (some ⟨b, off, none⟩) (by rw [if_pos rfl])
      rw [Nat.sub_self, show n - c = 0 by omega] at this
      exact ⟨rfl, this, But.set (S := fun k => k = B) w (p := ⟨B, 1, none⟩) rfl _⟩
    · go_enter Try.func41, Try.ntmps41
      go_wp2_with fail
      refine S1.out.mono ?_
      rintro e w1 ⟨rfl, rfl⟩
      unfold fnAns
      go_wp2
      go_ret
      exact ⟨rfl, HH.out k z1 _ (by rw [if_neg hc]), But.set (S := fun k => k = B) w (p := ⟨B, 1, none⟩) rfl _⟩

set_option maxHeartbeats 1000000 in
theorem item_str (S : Nat → Prop) (B : Nat) (s : St) (w : World) (h : RdAt S w B s) (bm : Nat) (m : Int) (hm1 : m ≤ 9223372036854775807) (hm : w.cell? ⟨bm, 0, none⟩ = some (.int .i64 m)) :
    Calls Try.prog 92 #[.pointer (some ⟨B, 0, none⟩), .func (.func 93) #[] #[.pointer (some ⟨bm, 0, none⟩)]] w (Reads S B w (strV ((itText m.toNat).out s)) ((itText m.toNat).next s)) := by
  obtain ⟨hB, A, n, c, hh, hr, hnc, hA, hn⟩ := h
  obtain ⟨c0, c1, c2, f1, f2⟩ := RdAt.cells hh
  by_cases he : s.e ≠ 0
  · have ho : (itText m.toNat).out s = (itText m.toNat).none := (itText m.toNat).out_err he
    have hx : (itText m.toNat).next s = s := (itText m.toNat).next_err he
    rw [ho, hx]
    have q1 : (((s.e : Nat) : Int) != 0) = true := by rw [bne_iff_ne]; omega
    have HH : Hid (RdAt S w B s) := Lib.hid ⟨hB, A, n, c, hh, hr, hnc, hA, hn⟩
    obtain ⟨E, hE⟩ : ∃ E, s.e = E := ⟨_, rfl⟩
    rw [hE] at q1 c2
    clear hh hr hA he ho hx hE
    go_enter Try.func92, Try.ntmps92
    go_wp2
    go_ret
    exact ⟨rfl, HH.out, But.refl _ _⟩
  have he0 : s.e = 0 := by simpa using he
  rw [he0] at c2
  have s1 := Text1_any A n c bm m s.b w hr.1 hnc hn hm1 hm
  by_cases hf : (itText m.toNat).err s.b ≠ 0
  · have ho : (itText m.toNat).out s = (itText m.toNat).none := by rw [It.out, if_neg he, if_pos hf]
    have hx : (itText m.toNat).next s = ⟨s.b, (itText m.toNat).err s.b⟩ := by rw [It.next, if_neg he, if_pos hf]
    have e1 : ftOf m.toNat s.b = ftAns [] 0 ((itText m.toNat).err s.b) := by rw [ftOf]; exact if_pos hf
    rw [ho, hx]
    rw [e1] at s1
    have HH : Hid (∀ E : Nat, RdAt S (w.setCell ⟨B, 2, none⟩ (.int .i64 (E : Int))) B ⟨s.b, E⟩) := Lib.hid fun E => RdAt.failed hB hh hr hnc hA hn E
    obtain ⟨E, hE⟩ : ∃ E, (itText m.toNat).err s.b = E := ⟨_, rfl⟩
    rw [hE] at s1 hf ⊢
    have q1 : (((E : Nat) : Int) != 0) = true := by rw [bne_iff_ne]; omega
    have S1 := Lib.hid s1
    clear hh hr hA he ho hx hE s1 hf e1 he0
    go_enter Try.func92, Try.ntmps92
    go_wp2_with fail
    refine S1.out.mono ?_
    rintro e w1 ⟨rfl, rfl⟩
    unfold ftAns
    go_wp2
    go_ret
    exact ⟨rfl, HH.out E, But.set (S := fun k => k = B) w (p := ⟨B, 2, none⟩) rfl _⟩
  · have hf0 : (itText m.toNat).err s.b = 0 := by simpa using hf
    have ho : (itText m.toNat).out s = (itText m.toNat).val s.b := by rw [It.out, if_neg he, if_neg hf]
    have hx : (itText m.toNat).next s = ⟨s.b.drop ((itText m.toNat).size s.b), 0⟩ := by rw [It.next, if_neg he, if_neg hf]
    have e1 : ftOf m.toNat s.b = ftAns ((itText m.toNat).val s.b) ((itText m.toNat).size s.b) 0 := by rw [ftOf]; exact if_neg hf
    obtain ⟨z1, z2⟩ := text_size hf0
    rw [ho, hx]
    rw [e1] at s1
    rw [hr.1.1] at z1 z2
    obtain ⟨b, off, rfl, _, _⟩ := hr.1.2 z2
    have HH : Hid (∀ k, k ≤ n → ∀ A', (A' = if c = k then some ⟨b, off, none⟩ else some ⟨b, off + k, none⟩) → RdAt S (w.setCell ⟨B, 1, none⟩ (.slice A' (n - k) (c - k))) B ⟨s.b.drop k, 0⟩) := Lib.hid fun k hk A' hA' => RdAt.went hB hh hr hnc hn he0 hk A' hA'
    obtain ⟨k, hk⟩ : ∃ k, (itText m.toNat).size s.b = k := ⟨_, rfl⟩
    obtain ⟨v, hv⟩ : ∃ v, (itText m.toNat).val s.b = v := ⟨_, rfl⟩
    rw [hk] at s1 z1 ⊢
    rw [hv] at s1 ⊢
    unfold ftAns strV at s1
    unfold strV
    obtain ⟨st, hst⟩ : ∃ st : ByteArray, (⟨v.toArray⟩ : ByteArray) = st := ⟨_, rfl⟩
    rw [hst] at s1 ⊢
    clear hst
    have S1 := Lib.hid s1
    have q1 : (k : Int) ≤ (n : Int) := by omega
    have q2 : (k : Int) ≤ (c : Int) := by omega
    clear hh hr hA he ho hx hk hv s1 hf e1 he0 hf0
    by_cases hc : c = k
    · subst hc
      go_enter Try.func92, Try.ntmps92
      go_wp2_with fail
      refine S1.out.mono ?_
      rintro e w1 ⟨rfl, rfl⟩
      go_wp2
      go_ret
      have := HH.out c z1 (some ⟨b, off, none⟩) (by rw [if_pos rfl])
      rw [Nat.sub_self, show n - c = 0 by omega] at this
      exact ⟨rfl, this, But.set (S := fun k => k = B) w (p := ⟨B, 1, none⟩) rfl _⟩
    · go_enter Try.func92, Try.ntmps92
      go_wp2_with fail
      refine S1.out.mono ?_
      rintro e w1 ⟨rfl, rfl⟩
      go_wp2
      go_ret
      exact ⟨rfl, HH.out k z1 _ (by rw [if_neg hc]), But.set (S := fun k => k = B) w (p := ⟨B, 1, none⟩) rfl _⟩

set_option maxHeartbeats 1000000 in
theorem item_bool (S : Nat → Prop) (B : Nat) (s : St) (w : World) (h : RdAt S w B s) :
    Calls Try.prog 99 #[.pointer (some ⟨B, 0, none⟩), .func (.func 100) #[] #[]] w (Reads S B w (.bool (itFlag.out s)) (itFlag.next s)) := by
  obtain ⟨hB, A, n, c, hh, hr, hnc, hA, hn⟩ := h
  obtain ⟨c0, c1, c2, f1, f2⟩ := RdAt.cells hh
  by_cases he : s.e ≠ 0
  · have ho : itFlag.out s = itFlag.none := itFlag.out_err he
    have hx : itFlag.next s = s := itFlag.next_err he
    rw [ho, hx]
    have q1 : (((s.e : Nat) : Int) != 0) = true := by rw [bne_iff_ne]; omega
    have HH : Hid (RdAt S w B s) := Lib.hid ⟨hB, A, n, c, hh, hr, hnc, hA, hn⟩
    obtain ⟨E, hE⟩ : ∃ E, s.e = E := ⟨_, rfl⟩
    rw [hE] at q1 c2
    clear hh hr hA he ho hx hE
    go_enter Try.func99, Try.ntmps99
    go_wp2
    go_ret
    exact ⟨rfl, HH.out, But.refl _ _⟩
  have he0 : s.e = 0 := by simpa using he
  rw [he0] at c2
  have s1 := firstFlag_any A n c s.b w hr.1 hnc hn
  by_cases hf : itFlag.err s.b ≠ 0
  · have ho : itFlag.out s = itFlag.none := by rw [It.out, if_neg he, if_pos hf]
    have hx : itFlag.next s = ⟨s.b, itFlag.err s.b⟩ := by rw [It.next, if_neg he, if_pos hf]
    have e1 : ffOf s.b = ffAns false 0 (itFlag.err s.b) := by rw [ffOf]; exact if_pos hf
    rw [ho, hx]
    rw [e1] at s1
    have HH : Hid (∀ E : Nat, RdAt S (w.setCell ⟨B, 2, none⟩ (.int .i64 (E : Int))) B ⟨s.b, E⟩) := Lib.hid fun E => RdAt.failed hB hh hr hnc hA hn E
    obtain ⟨E, hE⟩ : ∃ E, itFlag.err s.b = E := ⟨_, rfl⟩
    rw [hE] at s1 hf ⊢
    have q1 : (((E : Nat) : Int) != 0) = true := by rw [bne_iff_ne]; omega
    have S1 := Lib.hid s1
    clear hh hr hA he ho hx hE s1 hf e1 he0
    go_enter Try.func99, Try.ntmps99
    go_wp2_with fail
    refine S1.out.mono ?_
    rintro e w1 ⟨rfl, rfl⟩
    unfold ffAns
    go_wp2
    go_ret
    exact ⟨rfl, HH.out E, But.set (S := fun k => k = B) w (p := ⟨B, 2, none⟩) rfl _⟩
  · have hf0 : itFlag.err s.b = 0 := by simpa using hf
    have ho : itFlag.out s = itFlag.val s.b := by rw [It.out, if_neg he, if_neg hf]
    have hx : itFlag.next s = ⟨s.b.drop (itFlag.size s.b), 0⟩ := by rw [It.next, if_neg he, if_neg hf]
    have e1 : ffOf s.b = ffAns (itFlag.val s.b) (itFlag.size s.b) 0 := by rw [ffOf]; exact if_neg hf
    obtain ⟨z1, z2⟩ := flag_size hf0
    rw [ho, hx]
    rw [e1] at s1
    rw [hr.1.1] at z1 z2
    obtain ⟨b, off, rfl, _, _⟩ := hr.1.2 z2
    have HH : Hid (∀ k, k ≤ n → ∀ A', (A' = if c = k then some ⟨b, off, none⟩ else some ⟨b, off + k, none⟩) → RdAt S (w.setCell ⟨B, 1, none⟩ (.slice A' (n - k) (c - k))) B ⟨s.b.drop k, 0⟩) := Lib.hid fun k hk A' hA' => RdAt.went hB hh hr hnc hn he0 hk A' hA'
    obtain ⟨k, hk⟩ : ∃ k, itFlag.size s.b = k := ⟨_, rfl⟩
    obtain ⟨v, hv⟩ : ∃ v, itFlag.val s.b = v := ⟨_, rfl⟩
    rw [hk] at s1 z1 ⊢
    rw [hv] at s1 ⊢
    have S1 := Lib.hid s1
    have q1 : (k : Int) ≤ (n : Int) := by omega
    have q2 : (k : Int) ≤ (c : Int) := by omega
    clear hh hr hA he ho hx hk hv s1 hf e1 he0 hf0
    by_cases hc : c = k
    · subst hc
      go_enter Try.func99, Try.ntmps99
      go_wp2_with fail
      refine S1.out.mono ?_
      rintro e w1 ⟨rfl, rfl⟩
      unfold ffAns
      go_wp2
      go_ret
      have := HH.out c z1 (some ⟨b, off, none⟩) (by rw [if_pos rfl])
      rw [Nat.sub_self, show n - c = 0 by omega] at this
      exact ⟨rfl, this, But.set (S := fun k => k = B) w (p := ⟨B, 1, none⟩) rfl _⟩
    · go_enter Try.func99, Try.ntmps99
      go_wp2_with fail
      refine S1.out.mono ?_
      rintro e w1 ⟨rfl, rfl⟩
      unfold ffAns
      go_wp2
      go_ret
      exact ⟨rfl, HH.out k z1 _ (by rw [if_neg hc]), But.set (S := fun k => k = B) w (p := ⟨B, 1, none⟩) rfl _⟩
end Go.Proofs.Ytbhhalkpghcflaa
