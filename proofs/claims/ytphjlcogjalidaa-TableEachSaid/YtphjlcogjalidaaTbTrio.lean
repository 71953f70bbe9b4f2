/-
  Both tables, and a copy that goes its own way (layer 15).
-/
import Derived.Test.YtphjlcogjalidaaTbPrg
namespace Go.Proofs.Ytphjlcogjalidaa
open Go.RowKit
set_option linter.unusedSimpArgs false
set_option linter.unusedVariables false

section
variable {P : (Nat → Prop) → World → Nat → Tb Int → Prop} {O : Nat → Prop} {Bp Bd Bc : Nat} {tp td tc : Tb Int} {w w' : World}
/-- What is changed, and what is made, is none of theirs. -/
theorem Both.but_aside (C : Prg P) (h : Both P O w Bp tp Bd td) {S : Nat → Prop} (hb : But S w w') (hS : ∀ k, S k → k < w.heap.size → ¬ O k) : Both P (fun k => O k ∧ ¬ (w.heap.size ≤ k ∧ k < w'.heap.size)) w' Bp tp Bd td := by
  obtain ⟨Sp, Sd, k1, k2, k3, k4, k5⟩ := h
  have hz := hb.size
  have hb1 : But (fun k => S k ∧ k < w.heap.size) w w' := ⟨hb.os, hb.tape, hb.output, hb.size, fun k hk hn => hb.block k hk fun e => hn ⟨e, hk⟩⟩
  exact ⟨Sp, Sd, C.but k1 hb1 fun k hk hs => hS k hk.1 hk.2 (k3 k hs).1, k2.but hb1 fun k hk hs => hS k hk.1 hk.2 (k4 k hs).1,
    fun k hk => ⟨⟨(k3 k hk).1, by have := (k3 k hk).2.1; omega⟩, by have := (k3 k hk).2.1; omega, (k3 k hk).2.2⟩,
    fun k hk => ⟨⟨(k4 k hk).1, by have := (k4 k hk).2; omega⟩, by have := (k4 k hk).2; omega⟩, fun k hk => ⟨k5 k (by omega), by omega⟩⟩
/-- Both, and a third one (its rows may be the first one's: nobody writes them). -/
def Trio (P : (Nat → Prop) → World → Nat → Tb Int → Prop) (O : Nat → Prop) (w : World) (Bp : Nat) (tp : Tb Int) (Bd : Nat) (td : Tb Int) (Bc : Nat) (tc : Tb Int) : Prop :=
  ∃ O3 S3 : Nat → Prop, Both P O3 w Bp tp Bd td ∧ P S3 w Bc tc ∧ (O Bc ∧ ¬ O3 Bc) ∧ (∀ k, O3 k → O k) ∧ ∀ k, w.heap.size ≤ k → O3 k
theorem Trio.both (h : Trio P O w Bp tp Bd td Bc tc) : Both P O w Bp tp Bd td := by
  obtain ⟨O3, S3, h1, h2, h3, h4, h5⟩ := h
  exact h1.wide h4
theorem Trio.third (h : Trio P O w Bp tp Bd td Bc tc) : ∃ S, P S w Bc tc := by
  obtain ⟨O3, S3, h1, h2, _⟩ := h
  exact ⟨S3, h2⟩
theorem Trio.below (C : Prg P) (h : Trio P O w Bp tp Bd td Bc tc) (hb : Below w.heap.size w w') : Trio P O w' Bp tp Bd td Bc tc := by
  obtain ⟨O3, S3, h1, h2, h3, h4, h5⟩ := h
  have hz := hb.size
  exact ⟨O3, S3, h1.below C hb, C.below h2 hb, h3, h4, fun k hk => h5 k (by omega)⟩
theorem Trio.step (C : Prg P) (h : Trio P O w Bp tp Bd td Bc tc) : ∃ S, P S w Bc tc ∧ ∀ w' t', P (fun k => S k ∨ w.heap.size ≤ k) w' Bc t' → But (· = Bc) w w' → Trio P O w' Bp tp Bd td Bc t' ∧ But O w w' := by
  obtain ⟨O3, S3, h1, h2, h3, h4, h5⟩ := h
  refine ⟨S3, h2, fun w' t' k1 kb => ?_⟩
  have hz := kb.size
  exact ⟨⟨_, _, h1.but_aside C kb fun k hk _ => by rw [hk]; exact h3.2, k1, ⟨h3.1, fun e => h3.2 e.1⟩, fun k hk => h4 k hk.1, fun k hk => ⟨h5 k (by omega), by omega⟩⟩, kb.mono fun k hk => by rw [hk]; exact h3.1⟩
theorem both_copy (C : Prg P) (h : Both P O w Bp tp Bd td) :
    Calls Try.prog 22 #[.pointer (some ⟨Bp, 0, none⟩)] w fun e w' => ∃ Bc, e = .returned (.pointer (some ⟨Bc, 0, none⟩)) ∧ Trio P O w' Bp tp Bd td Bc tp ∧ Below w.heap.size w w' := by
  obtain ⟨S, hp⟩ := h.read
  refine (C.copy w hp).mono ?_
  rintro e w' ⟨Bc, S', rfl, hB, h2, hb⟩
  have hz := hb.size
  have h5 : ∀ k, w.heap.size ≤ k → O k := by
    obtain ⟨_, _, _, _, _, _, k5⟩ := h
    exact k5
  have hl := C.lt h2
  exact ⟨Bc, rfl, ⟨_, _, h.but_aside C (But.of_below (S := fun _ => False) hb) fun _ e => e.elim, h2, ⟨h5 _ hB, fun e => e.2 ⟨hB, hl⟩⟩, fun k hk => hk.1, fun k hk => ⟨h5 k (by omega), by omega⟩⟩, hb⟩
theorem trio_put (C : Prg P) (k : ByteArray) (v : Int) (i : Nat) (h : Trio P O w Bp tp Bd td Bc tc) (hi : i < 18446744073709551616) (hk : k.size ≤ maxLen) :
    Calls Try.prog 17 #[.pointer (some ⟨Bc, 0, none⟩), .string k, .int .i64 v, .int .u64 (i : Int)] w fun e w' => e = .returned (putV tc k v i) ∧ Trio P O w' Bp tp Bd td Bc (tc.putT k v i) ∧ But O w w' := by
  obtain ⟨S, h1, h2⟩ := h.step C
  exact (C.put k v i w h1 hi hk).mono fun e w' ⟨a, b, c⟩ => ⟨a, h2 w' _ b c⟩
theorem trio_drop (C : Prg P) (k : ByteArray) (i : Nat) (h : Trio P O w Bp tp Bd td Bc tc) (hi : i < 18446744073709551616) (hk : k.size ≤ maxLen) :
    Calls Try.prog 19 #[.pointer (some ⟨Bc, 0, none⟩), .string k, .int .u64 (i : Int)] w fun e w' => e = .returned (.bool (getR tc.l k).isSome) ∧ Trio P O w' Bp tp Bd td Bc (tc.dropT k i) ∧ But O w w' := by
  obtain ⟨S, h1, h2⟩ := h.step C
  exact (C.drop k i w h1 hi hk).mono fun e w' ⟨a, b, c⟩ => ⟨a, h2 w' _ b c⟩
theorem trio_raise (C : Prg P) (i : Nat) (h : Trio P O w Bp tp Bd td Bc tc) (hi : i < 18446744073709551616) :
    Calls Try.prog 20 #[.pointer (some ⟨Bc, 0, none⟩), .int .u64 (i : Int)] w fun e w' => e = .returned (.tuple #[]) ∧ Trio P O w' Bp tp Bd td Bc (tc.raise i) ∧ But O w w' := by
  obtain ⟨S, h1, h2⟩ := h.step C
  exact (C.raise i w h1 hi).mono fun e w' ⟨a, b, c⟩ => ⟨a, h2 w' _ (C.narrow b fun _ _ z => .inl z) c⟩
end
end Go.Proofs.Ytphjlcogjalidaa
