/-
  works() of the law of layer 3.
-/
import Derived.Test.YtkbllhpjfgeaaaaFRefT
import Derived.Lib.SlBytesConst
namespace Go.Proofs.Ytkbllhpjfgeaaaa
open Go.RowKit
set_option linter.unusedSimpArgs false

def fAB : Fr := ⟨7, [65, 66]⟩
theorem okAB : okF fAB := ⟨by decide, by simp [fAB]⟩
theorem rb_AB (w : World) (t : TypeId) : BodyAt (w.alloc (.cells #[.int .u8 65, .int .u8 66] t (2, 3))) (some ⟨w.heap.size, 0, none⟩) 2 [65, 66] := by
  refine ⟨⟨rfl, fun _ => ⟨_, _, rfl, by simp, fun j hj => ?_⟩⟩, Nat.le_refl _, (fun e => by cases e), by simp⟩
  rw [cell_of_row _ w.heap.size _ _ _ (2, 3) (heap_alloc_new w _)]
  have hj2 : j < 2 := hj
  match j, hj2 with
  | 0, _ | 1, _ => rfl

set_option maxHeartbeats 1000000 in
theorem works_any (w : World) : Calls Try.prog 14 #[] w fun e w' => e = .returned (.bool true) ∧ Below w.heap.size w w' := by
  have kc := fun (w : World) (C : Array Value) (n c : Nat) => Lib.run_convert_bytes_const (P := Try.prog) w 22 5 C n c Try.underlying22 Try.underlying5
  have s1 := put_any none 0 0 [] fAB (some ⟨w.heap.size, 0, none⟩) 2 (w.alloc (.cells #[.int .u8 65, .int .u8 66] 5 (2, 3))) (RB.zero _ _) (Nat.le_refl _) (fun _ => rfl) (rb_AB w _) (by omega)
  have hk : ((fAB.k.toNat : Nat) : Int) = 7 := rfl
  have hl : fAB.b.length = 2 := rfl
  unfold frV at s1
  rw [hk, hl] at s1
  have hbw : Below w.heap.size w (w.alloc (.cells #[.int .u8 65, .int .u8 66] 5 (2, 3))) := (Below.refl _ w).alloc (Nat.le_refl _) _
  have HBw := Lib.hid hbw
  clear hbw hk hl
  go_enter Try.func14, Try.ntmps14
  go_wp2_with fail
  refine s1.mono ?_
  rintro e w1 ⟨hb1, hp⟩
  rcases hp with ⟨hne, _⟩ | ⟨_, A1, c1, rfl, hr1, hn1, hc1⟩
  · exact absurd ((okF_iff _).1 okAB) hne
  have hl9 : ([] : List UInt8).length + (fAB.b.length + 7) = 9 := rfl
  rw [hl9] at hr1 hc1 ⊢
  have HR1 := Lib.hid hr1
  have HB1 : Hid (Below w.heap.size w w1) := Lib.hid (HBw.out.trans (hb1.mono HBw.out.size))
  have ht := take_enc fAB okAB []
  rw [List.append_nil] at ht
  have s2 := take_ok A1 9 c1 (encF fAB) w1 hr1 hc1 ht.2.2
  rw [ht.2.1] at s2
  have hl2 : fAB.b.length = 2 := rfl
  have hk : ((fAB.k.toNat : Nat) : Int) = 7 := rfl
  unfold frV at s2
  rw [hl2, hk] at s2
  clear s1 hb1 hr1 hn1 hl9 ht hl2 hk HBw
  go_wp2_with fail
  refine s2.mono ?_
  rintro e w2 ⟨A2, c2, rfl, hbody, hb2⟩
  have HB2 : Hid (Below w.heap.size w w2) := Lib.hid (HB1.out.trans (hb2.mono HB1.out.size))
  have hr2 : RB (w2.alloc (.cells #[.int .u8 7, .slice A2 2 c2] 24)) A2 2 [65, 66] := hbody.1.alloc _
  have k1 := own_conv hr2 c2
  clear s2 hb2 hbody hr2 HB1
  go_wp2
  go_ret
  exact ⟨rfl, HB2.out.alloc HB2.out.size _⟩
end Go.Proofs.Ytkbllhpjfgeaaaa
