/-
  works() of the law of layer 2, over the contracts.
-/
import Derived.Test.YtbnlboggclholaaCon
import Derived.Lib.SlBytesConst
namespace Go.Proofs.Ytbnlboggclholaa
open Go.RowKit
set_option linter.unusedSimpArgs false
def nine : List UInt8 := [49, 50, 51, 52, 53, 54, 55, 56, 57]
set_option maxRecDepth 100000 in
theorem crc_nine : crc nine = 4236843288#32 := by
  rw [crc, crcFrom, nine]
  simp only [bitsL, byteBits]
  decide +kernel
def nineCells : Array Value := #[.int .u8 49, .int .u8 50, .int .u8 51, .int .u8 52, .int .u8 53, .int .u8 54, .int .u8 55, .int .u8 56, .int .u8 57]
theorem rb_nine (w : World) : RB (w.alloc (.cells nineCells 5 (9, 10))) (some ⟨w.heap.size, 0, none⟩) 9 nine := by
  refine ⟨rfl, fun _ => ⟨_, _, rfl, by simp, fun j hj => ?_⟩⟩
  have hj9 : j < 9 := hj
  rw [cell_of_row _ w.heap.size _ _ _ _ (heap_alloc_new w _)]
  match j, hj9 with
  | 0, _ | 1, _ | 2, _ | 3, _ | 4, _ | 5, _ | 6, _ | 7, _ | 8, _ => rfl

set_option maxHeartbeats 1000000 in
theorem works_any (C : Con) (w : World) : Calls Try.prog 11 #[] w fun e w' => e = .returned (.bool true) ∧ Below w.heap.size w w' := by
  have kc := fun (w : World) (C : Array Value) (n c : Nat) => Lib.run_convert_bytes_const (P := Try.prog) w 22 5 C n c Try.underlying22 Try.underlying5
  have hcon := C.sum (some ⟨w.heap.size + 1, 0, none⟩) 1 1 [nine] ((w.alloc (.cells nineCells 5 (9, 10))).alloc (.cells #[.slice (some ⟨w.heap.size, 0, none⟩) 9 9] 22)) (by
    have := Pieces.one (c := 9) (rb_nine w) (by unfold maxLen; omega) 22
    simpa using this) rfl (by omega)
  rw [show [nine].flatten = nine by simp, crc_nine] at hcon
  simp only [nineCells] at hcon
  go_enter Try.func11, Try.ntmps11
  go_wp2_with (go_at_call 9; refine hcon.mono ?_; rintro e w' ⟨rfl, hb⟩)
  have HB := Lib.hid hb
  clear hb hcon
  go_ret
  exact ⟨rfl, (((Below.refl _ w).alloc (Nat.le_refl _) _).alloc (by simp) _).trans (HB.out.mono (by simp; omega))⟩

/-- Sum of one piece, as a call's own block holds it. -/
theorem Con.sum_one (C : Con) (A : Option Addr) (n c : Nat) (xs : List UInt8) (w : World) (h : RB w A n xs) (hn : n ≤ maxLen) :
    Calls Try.prog 9 #[.slice (some ⟨w.heap.size, 0, none⟩) 1 1] (w.alloc (.cells #[.slice A n c] 22)) fun e w' => e = .returned (.int .u32 ((crc xs).toNat : Int)) ∧ Below w.heap.size w w' := by
  have := C.sum (some ⟨w.heap.size, 0, none⟩) 1 1 [xs] (w.alloc (.cells #[.slice A n c] 22)) (Pieces.one h hn _) rfl (by omega)
  rw [show [xs].flatten = xs by simp] at this
  exact this.mono fun e w' ⟨he, hb⟩ => ⟨he, ((Below.refl _ w).alloc (Nat.le_refl _) _).trans (hb.mono (by simp))⟩
theorem Con.sum_two (C : Con) (A B : Option Addr) (n c m d : Nat) (xs ys : List UInt8) (w : World) (h : RB w A n xs) (hn : n ≤ maxLen) (h' : RB w B m ys) (hm : m ≤ maxLen) :
    Calls Try.prog 9 #[.slice (some ⟨w.heap.size, 0, none⟩) 2 2] (w.alloc (.cells #[.slice A n c, .slice B m d] 22)) fun e w' => e = .returned (.int .u32 ((crc (xs ++ ys)).toNat : Int)) ∧ Below w.heap.size w w' := by
  have := C.sum (some ⟨w.heap.size, 0, none⟩) 2 2 [xs, ys] (w.alloc (.cells #[.slice A n c, .slice B m d] 22)) (Pieces.two h hn h' hm _) rfl (by omega)
  rw [show [xs, ys].flatten = xs ++ ys by simp] at this
  exact this.mono fun e w' ⟨he, hb⟩ => ⟨he, ((Below.refl _ w).alloc (Nat.le_refl _) _).trans (hb.mono (by simp))⟩

theorem own_made (w : World) : (w.alloc (.cells #[] 5)).ownsRow w.heap.size 5 1 (.slice (some ⟨w.heap.size, 0, none⟩) 0 0) 0 [] := by
  have := World.ownsRow_made (base := w.heap.size) (e := 5) (size := 1) w #[] 0 (by simp) (Nat.zero_le _) rfl
  simpa using this
theorem below_made (w w' : World) (h : (w.alloc (.cells #[] 5)).grownBy w' (Value.slice (some ⟨w.heap.size, 0, none⟩) 0 0).ownBlock) : Below w.heap.size w w' :=
  ((Below.refl _ w).alloc (Nat.le_refl _) _).grown h (by simp) (fun j hj => by simp [Value.ownBlock] at hj; omega)
theorem below_more {w w' : World} {base n : Nat} {v : Value} {xs : List Value} (hown : w.ownsRow base 5 1 v n xs) (hb : base ≤ w.heap.size) (h : w.grownBy w' v.ownBlock) : Below base w w' :=
  (Below.refl _ w).grown h hb (fun j hj => by
    rcases hown.2 with ⟨rfl, _⟩ | ⟨g, cap, cur, rfl, hg, _⟩
    · simp [Value.ownBlock] at hj
    · simp [Value.ownBlock] at hj; omega)
end Go.Proofs.Ytbnlboggclholaa
