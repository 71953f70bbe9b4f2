/-
  The law of no table, walked (layer 15).
-/
import Derived.Test.YtphjlcogjalidaaTpNone
import Derived.Test.YtphjlcogjalidaaTbStep
import Derived.Test.YtphjlcogjalidaaRelI
import Derived.Test.YtphjlcogjalidaaRelMore
namespace Go.Proofs.Ytphjlcogjalidaa
open Go.RowKit
set_option linter.unusedSimpArgs false
set_option linter.unusedVariables false

def NoB0 : Nat → Prop := fun _ => False
theorem noRw_eq (w : World) : (Op.equalIn 10000 32 (.agg #[.string ⟨#[]⟩, .int .i64 0, .int .u64 0, .int .u64 0]) (.agg #[.string ⟨#[]⟩, .int .i64 0, .int .u64 0, .int .u64 0])).run Try.prog w = .ok true w := by
  have ue := tr_eq noRw noRw w
  rw [(eqB_iff _ _).2 rfl] at ue
  exact ue
def tbNo (_ : Nat → Prop) (X : Nat) (P7 : Nat) (P9 : Nat) (qa : Option Addr) (s : TSt) : Nat → Value → World → Prop
  | 0, v, _ => v = .int .i64 1
  | 1, v, _ => v = .bool false
  | 2, v, _ => v = .bool false
  | 3, v, _ => v = .agg #[.string ⟨#[]⟩, .int .i64 0, .int .u64 0, .int .u64 0]
  | 4, v, _ => v = .agg #[.string ⟨#[]⟩, .int .i64 0, .int .u64 0, .int .u64 0]
  | 5, v, _ => v = .bool false
  | 6, v, _ => v = .bool false
  | 7, v, _ => v = .bool false
  | 8, v, _ => v = .pointer qa
  | 9, v, _ => v = .pointer (some ⟨X, 1, none⟩)
  | 10, v, _ => v = .string s.key
  | 11, v, _ => v = .pointer (some ⟨X, 3, none⟩)
  | 12, v, _ => v = .int .u64 (s.ix : Int)
  | 13, v, _ => v = .bool false
  | 14, v, _ => v = .bool false
  | 15, v, _ => v = .bool false
  | 16, v, _ => v = .agg #[.string ⟨#[]⟩, .int .i64 0, .int .u64 0, .int .u64 0]
  | 17, v, _ => v = .agg #[.string ⟨#[]⟩, .int .i64 0, .int .u64 0, .int .u64 0]
  | 18, v, _ => v = .bool false
  | 19, v, _ => v = .bool false
  | 20, v, _ => v = .bool false
  | 21, v, _ => v = .bool false
  | 22, v, _ => v = .bool false
  | 23, v, _ => v = .bool false
  | 24, v, _ => v = .pointer qa
  | 25, v, _ => ∃ A c, v = .slice A 0 c
  | 26, v, _ => v = .int .i64 0
  | 27, v, _ => v = .pointer qa
  | 28, v, _ => v = .pointer (some ⟨X, 1, none⟩)
  | 29, v, _ => v = .string s.key
  | 30, v, _ => ∃ A c, v = .slice A 0 c
  | 31, v, _ => v = .int .i64 0
  | 32, v, _ => v = .int .i64 0
  | 33, v, _ => v = .pointer qa
  | 34, v, _ => v = .int .i64 0
  | 35, v, _ => v = .int .i64 0
  | 36, v, _ => v = .bool false
  | 37, v, _ => v = .bool false
  | 38, v, _ => v = .bool false
  | 39, v, _ => v = .pointer qa
  | 40, v, _ => v = .int .u64 0
  | 41, v, _ => v = .bool false
  | 42, v, _ => v = .bool false
  | 43, v, _ => v = .bool false
  | 44, v, _ => v = .pointer qa
  | 45, v, _ => v = .pointer none
  | 46, v, _ => v = .bool false
  | 47, v, _ => v = .bool false
  | _, _, _ => True
theorem tbNo_stable (S : Nat → Prop) (X : Nat) (P7 : Nat) (P9 : Nat) (qa : Option Addr) (s : TSt) : ∀ i v w w', tbNo S X P7 P9 qa s i v w → But S w w' → tbNo S X P7 P9 qa s i v w'
  | 0, _, _, _, h, _ | 1, _, _, _, h, _ | 2, _, _, _, h, _ | 3, _, _, _, h, _ | 4, _, _, _, h, _ | 5, _, _, _, h, _ | 6, _, _, _, h, _ | 7, _, _, _, h, _ | 8, _, _, _, h, _ | 9, _, _, _, h, _ | 10, _, _, _, h, _ | 11, _, _, _, h, _ | 12, _, _, _, h, _ | 13, _, _, _, h, _ | 14, _, _, _, h, _ | 15, _, _, _, h, _ | 16, _, _, _, h, _ | 17, _, _, _, h, _ | 18, _, _, _, h, _ | 19, _, _, _, h, _ | 20, _, _, _, h, _ | 21, _, _, _, h, _ | 22, _, _, _, h, _ | 23, _, _, _, h, _ | 24, _, _, _, h, _ | 25, _, _, _, h, _ | 26, _, _, _, h, _ | 27, _, _, _, h, _ | 28, _, _, _, h, _ | 29, _, _, _, h, _ | 30, _, _, _, h, _ | 31, _, _, _, h, _ | 32, _, _, _, h, _ | 33, _, _, _, h, _ | 34, _, _, _, h, _ | 35, _, _, _, h, _ | 36, _, _, _, h, _ | 37, _, _, _, h, _ | 38, _, _, _, h, _ | 39, _, _, _, h, _ | 40, _, _, _, h, _ | 41, _, _, _, h, _ | 42, _, _, _, h, _ | 43, _, _, _, h, _ | 44, _, _, _, h, _ | 45, _, _, _, h, _ | 46, _, _, _, h, _ | 47, _, _, _, h, _ => h
  | _ + 48, _, _, _, h, _ => h
set_option maxHeartbeats 8000000 in
set_option maxRecDepth 100000 in
theorem none_walk (s : TSt) (w : World) (hs : s.ok) : Calls Try.prog 6 #[tsV s] w fun e w' => e = .returned (.bool true) ∧ Below w.heap.size w w' := by
  obtain ⟨X, hX⟩ : ∃ X, w.heap.size = X := ⟨_, rfl⟩
  have b1 := below1 w #[.int .i64 s.kind, .string s.key, .int .i64 s.v, .int .u64 (s.ix : Int)] TS
  have k1 := heap_alloc_new w (.cells #[.int .i64 s.kind, .string s.key, .int .i64 s.v, .int .u64 (s.ix : Int)] TS)
  obtain ⟨W1, hW1⟩ : ∃ W1, w.alloc (.cells #[.int .i64 s.kind, .string s.key, .int .i64 s.v, .int .u64 (s.ix : Int)] TS) = W1 := ⟨_, rfl⟩
  have s1 : W1.heap.size = X + 1 := by rw [← hW1, ← hX]; simp
  rw [hW1] at b1 k1
  rw [hX] at k1
  have b2 := below1 W1 #[.int .i64 0, .int .u64 0, .slice none 0 0] TPT
  have k2 := heap_alloc_new W1 (.cells #[.int .i64 0, .int .u64 0, .slice none 0 0] TPT)
  obtain ⟨W2, hW2⟩ : ∃ W2, W1.alloc (.cells #[.int .i64 0, .int .u64 0, .slice none 0 0] TPT) = W2 := ⟨_, rfl⟩
  have s2 : W2.heap.size = X + 2 := by rw [← hW2]; simp [s1]
  rw [hW2] at b2 k2
  rw [s1] at k2
  have b3 := below1 W2 #[.pointer none, .pointer (some ⟨X + 1, 0, none⟩)] 23
  have k3 := heap_alloc_new W2 (.cells #[.pointer none, .pointer (some ⟨X + 1, 0, none⟩)] 23)
  obtain ⟨W3, hW3⟩ : ∃ W3, W2.alloc (.cells #[.pointer none, .pointer (some ⟨X + 1, 0, none⟩)] 23) = W3 := ⟨_, rfl⟩
  have s3 : W3.heap.size = X + 3 := by rw [← hW3]; simp [s2]
  rw [hW3] at b3 k3
  rw [s2] at k3
  have k2' := (b3.block (X + 1) (by omega)).trans k2
  have k1' := (b3.block X (by omega)).trans ((b2.block X (by omega)).trans k1)
  have HB3 : Hid (Below w.heap.size w W3) := Lib.hid (b1.trans ((b2.trans (b3.mono b2.size)).mono b1.size))
  have HK1 := Lib.hid k1'
  have HK2 := Lib.hid k2'
  have HK3 := Lib.hid k3
  have HW1 := Lib.hid hW1
  have HW2 := Lib.hid hW2
  have HW3 := Lib.hid hW3
  have HS3 := Lib.hid s3
  have HX := Lib.hid hX
  have HKy := Lib.hid hs.key
  have HIx := Lib.hid hs.ix
  have HWk := Lib.hid (fun w => works_any prg w)
  unfold tsV
  clear b1 k1 hW1 s1 b2 k2 hW2 s2 b3 k3 hW3 s3 k2' k1' hX hs
  go_enter Try.func6, Try.ntmps6
  go_wp2_with fail
  rw [HW1.out, HX.out, HW2.out, HW3.out]
  obtain ⟨Y, hY⟩ : ∃ Y, X + 1 + 1 = Y := ⟨_, rfl⟩
  obtain ⟨Zt, hZt⟩ : ∃ Zt, X + 1 = Zt := ⟨_, rfl⟩
  have HZt : Hid (W3.heap[Zt]? = some (.cells #[.int .i64 0, .int .u64 0, .slice none 0 0] TPT (0, 0))) := Lib.hid (by rw [← hZt]; exact HK2.out)
  have HY : Hid (W3.heap[Y]? = some (.cells #[.pointer none, .pointer (some ⟨Zt, 0, none⟩)] 23 (0, 0))) := Lib.hid (by rw [← hY, ← hZt]; exact HK3.out)
  rw [hY]
  clear hY hZt HW1 HW2 HW3
  go_loopw [5] (fun s5 wr => ∃ k : Nat, k ≤ 2 ∧ s5 = .int .i64 (k : Int) ∧ Hid (Below W3.heap.size W3 wr)) (fun s5 _ => 2 - (intOf s5).toNat)
  case atStart => exact ⟨0, by omega, rfl, Lib.hid (Below.refl _ _)⟩
  case round =>
    obtain ⟨k, hk, rfl, hb⟩ := hrel
    by_cases hlt : k < 2
    · obtain ⟨qa, cy, hno⟩ : ∃ qa, wr.cell? ⟨Y, k, none⟩ = some (.pointer qa) ∧ NoTp wr qa := by
        have ky := (hb.out.block Y (block_lt HY.out)).trans HY.out
        have kz := (hb.out.block Zt (block_lt HZt.out)).trans HZt.out
        rcases (show k = 0 ∨ k = 1 by omega) with rfl | rfl
        · exact ⟨none, by rw [cell_of_row _ _ _ _ _ _ ky]; rfl, ⟨.inl rfl⟩⟩
        · exact ⟨some ⟨Zt, 0, none⟩, by rw [cell_of_row _ _ _ _ _ _ ky]; rfl, ⟨.inr ⟨Zt, rfl, kz⟩⟩⟩
      have kx := (hb.out.block X (block_lt HK1.out)).trans HK1.out
      obtain ⟨d0, d1, d2, d3⟩ := blk4 kx
      have HKx := Lib.hid kx
      have HNo0 := Lib.hid hno
      have HRs := Lib.hid (raise_no s.ix hno)
      clear kx hno
      go_wp2_with fail
      refine HRs.out.mono ?_
      rintro e w' ⟨rfl, rfl⟩
      have HPt := Lib.hid (put_no s.key s.v s.ix HNo0.out)
      clear HRs
      go_wp2_with fail
      refine HPt.out.mono ?_
      rintro e w2 ⟨rfl, hb2⟩
      unfold trV noRw
      have b7 := below1 w2 #[.string ⟨#[]⟩, .int .i64 0, .int .u64 0, .int .u64 0] 32
      have k7 := heap_alloc_new w2 (.cells #[.string ⟨#[]⟩, .int .i64 0, .int .u64 0, .int .u64 0] 32)
      obtain ⟨W7, hW7⟩ : ∃ W7, w2.alloc (.cells #[.string ⟨#[]⟩, .int .i64 0, .int .u64 0, .int .u64 0] 32) = W7 := ⟨_, rfl⟩
      rw [hW7] at b7 k7
      obtain ⟨P7, hP7⟩ : ∃ P7, w2.heap.size = P7 := ⟨_, rfl⟩
      rw [hP7] at k7
      have hb7 : Below wr.heap.size wr W7 := hb2.trans (b7.mono hb2.size)
      have kx := (hb7.block X (block_lt HKx.out)).trans HKx.out
      have HB7 := Lib.hid hb7
      have HNo7 := Lib.hid (HNo0.out.below hb7)
      have HGt := Lib.hid (get_no s.key HNo7.out)
      have HKx7 := Lib.hid kx
      have HK7 := Lib.hid k7
      have HW7 := Lib.hid hW7
      have HP7 := Lib.hid hP7
      have kx2 := (hb2.block X (block_lt HKx.out)).trans HKx.out
      clear hb2 b7 k7 hW7 hP7 hb7 HPt d0 d1 d2 d3 kx
      obtain ⟨d0, d1, d2, d3⟩ := blk4 kx2
      have hxl2 := block_lt kx2
      clear kx2
      go_wp2_with fail
      rw [HW7.out, HP7.out]
      refine HGt.out.mono ?_
      rintro e w4 ⟨rfl, hb4⟩
      unfold trV noRw
      have b9 := below1 w4 #[.string ⟨#[]⟩, .int .i64 0, .int .u64 0, .int .u64 0] 32
      have k9 := heap_alloc_new w4 (.cells #[.string ⟨#[]⟩, .int .i64 0, .int .u64 0, .int .u64 0] 32)
      obtain ⟨W9, hW9⟩ : ∃ W9, w4.alloc (.cells #[.string ⟨#[]⟩, .int .i64 0, .int .u64 0, .int .u64 0] 32) = W9 := ⟨_, rfl⟩
      rw [hW9] at b9 k9
      obtain ⟨P9, hP9⟩ : ∃ P9, w4.heap.size = P9 := ⟨_, rfl⟩
      rw [hP9] at k9
      have hb9 : Below W7.heap.size W7 W9 := hb4.trans (b9.mono hb4.size)
      have HB9 : Hid (Below wr.heap.size wr W9) := Lib.hid (HB7.out.trans (hb9.mono HB7.out.size))
      have HNo := Lib.hid (fun W (hw : Below W9.heap.size W9 W) => (HNo7.out.below hb9).below hw)
      have HXb : Hid (W9.heap[X]? = _) := Lib.hid ((hb9.block X (block_lt HKx7.out)).trans HKx7.out)
      have HXl := Lib.hid (block_lt HXb.out)
      have HP7b : Hid (W9.heap[P7]? = _) := Lib.hid ((hb9.block P7 (block_lt HK7.out)).trans HK7.out)
      have HP7l := Lib.hid (block_lt HP7b.out)
      have HP9b : Hid (W9.heap[P9]? = _) := Lib.hid k9
      have HP9l := Lib.hid (block_lt k9)
      have HW9 := Lib.hid hW9
      have HP9 := Lib.hid hP9
      clear hb4 b9 k9 hW9 hP9 hb9 HGt d0 d1 d2 d3 hxl2 cy
      go_wp2_with fail
      rw [HW9.out, HP9.out]
      refine Go.Rel.wp_region_states (by kernel_rfl) (by kernel_rfl) (by kernel_rfl) (by kernel_rfl) (fun _ W => Below W9.heap.size W9 W) (But NoB0) (fun _ _ _ h k => h.trans k) ((But.refl _ _).drew) ⟨rfl, rfl, rfl, Nat.le_refl _, fun _ _ => rfl⟩ (tbNo NoB0 X P7 P9 qa s) (tbNo_stable NoB0 X P7 P9 qa s) ?hsq ?heq
      case hsq =>
        refine (.cons ?_ (.cons ?_ (.cons ?_ (.cons ?_ (.cons ?_ (.cons ?_ (.cons ?_ (.cons ?_ (.cons ?_ (.cons ?_ (.cons ?_ (.cons ?_ (.cons ?_ (.cons ?_ (.cons ?_ (.cons ?_ (.cons ?_ (.cons ?_ (.cons ?_ (.cons ?_ (.cons ?_ (.cons ?_ (.cons ?_ (.cons ?_ (.cons ?_ (.cons ?_ (.cons ?_ (.cons ?_ (.cons ?_ (.cons ?_ (.cons ?_ (.cons ?_ (.cons ?_ (.cons ?_ (.cons ?_ (.cons ?_ (.cons ?_ (.cons ?_ (.cons ?_ (.cons ?_ (.cons ?_ (.cons ?_ (.cons ?_ (.cons ?_ (.cons ?_ (.cons ?_ (.cons ?_ (.cons ?_ .nil))))))))))))))))))))))))))))))))))))))))))))))))
        · intro f a w' hI hf hanc hdesc hle hs' hd K hK
          have f8 : a.tmps[8]? = some (.int .i64 1) := hs'.2.2 8 (by kernel_rfl)
          unfold Go.Rel.stepOf
          go_simp
          exact hK _ _ (But.refl _ _) (hI) rfl
        · intro f a w' hI hf hanc hdesc hle hs' hd K hK
          obtain ⟨_, t0, rfl⟩ := hd 0 47 (by kernel_rfl)
          unfold Go.Rel.stepOf
          go_simp
          exact hK _ _ (But.refl _ _) (hI) rfl
        · intro f a w' hI hf hanc hdesc hle hs' hd K hK
          obtain ⟨_, t1, rfl⟩ := hd 1 48 (by kernel_rfl)
          unfold Go.Rel.stepOf
          go_simp
          exact hK _ _ (But.refl _ _) (hI) rfl
        · intro f a w' hI hf hanc hdesc hle hs' hd K hK
          obtain ⟨_, tg, rfl⟩ := hd 2 49 (by kernel_rfl)
          have f7 : a.tmps[7]? = some (.pointer (some ⟨P7, 0, none⟩)) := hs'.2.2 7 (by kernel_rfl)
          obtain ⟨g0, g1, g2, g3⟩ := blk4 ((hI.block P7 HP7l.out).trans HP7b.out)
          unfold Go.Rel.stepOf
          go_simp
          exact hK _ _ (But.refl _ _) (hI) rfl
        · intro f a w' hI hf hanc hdesc hle hs' hd K hK
          obtain ⟨_, tg, rfl⟩ := hd 2 49 (by kernel_rfl)
          unfold Go.Rel.stepOf
          go_simp
          exact hK _ _ (But.refl _ _) (hI) rfl
        · intro f a w' hI hf hanc hdesc hle hs' hd K hK
          obtain ⟨_, tg, rfl⟩ := hd 2 49 (by kernel_rfl)
          obtain ⟨_, t3, rfl⟩ := hd 3 50 (by kernel_rfl)
          obtain ⟨_, t4, rfl⟩ := hd 4 51 (by kernel_rfl)
          have ue := noRw_eq
          have ug := tr_guard
          unfold Go.Rel.stepOf
          go_simp
          exact hK _ _ (But.refl _ _) (hI) rfl
        · intro f a w' hI hf hanc hdesc hle hs' hd K hK
          obtain ⟨_, t2, rfl⟩ := hd 2 49 (by kernel_rfl)
          obtain ⟨_, t5, rfl⟩ := hd 5 52 (by kernel_rfl)
          unfold Go.Rel.stepOf
          go_simp
          exact hK _ _ (But.refl _ _) (hI) rfl
        · intro f a w' hI hf hanc hdesc hle hs' hd K hK
          obtain ⟨_, t6, rfl⟩ := hd 6 53 (by kernel_rfl)
          unfold Go.Rel.stepOf
          go_simp
          exact hK _ _ (But.refl _ _) (hI) rfl
        · intro f a w' hI hf hanc hdesc hle hs' hd K hK
          obtain ⟨_, tg, rfl⟩ := hd 7 54 (by kernel_rfl)
          have f6 : a.tmps[6]? = some (.pointer qa) := hs'.2.2 6 (by kernel_rfl)
          unfold Go.Rel.stepOf
          go_simp
          exact hK _ _ (But.refl _ _) (hI) rfl
        · intro f a w' hI hf hanc hdesc hle hs' hd K hK
          obtain ⟨_, tg, rfl⟩ := hd 7 54 (by kernel_rfl)
          have f1 : a.tmps[1]? = some (.pointer (some ⟨X, 0, none⟩)) := hs'.2.2 1 (by kernel_rfl)
          unfold Go.Rel.stepOf
          go_simp
          exact hK _ _ (But.refl _ _) (hI) rfl
        · intro f a w' hI hf hanc hdesc hle hs' hd K hK
          obtain ⟨_, tg, rfl⟩ := hd 7 54 (by kernel_rfl)
          obtain ⟨_, t9, rfl⟩ := hd 9 56 (by kernel_rfl)
          obtain ⟨f0, f1, f2, f3⟩ := blk4 ((hI.block X HXl.out).trans HXb.out)
          unfold Go.Rel.stepOf
          go_simp
          exact hK _ _ (But.refl _ _) (hI) rfl
        · intro f a w' hI hf hanc hdesc hle hs' hd K hK
          obtain ⟨_, tg, rfl⟩ := hd 7 54 (by kernel_rfl)
          have f1 : a.tmps[1]? = some (.pointer (some ⟨X, 0, none⟩)) := hs'.2.2 1 (by kernel_rfl)
          unfold Go.Rel.stepOf
          go_simp
          exact hK _ _ (But.refl _ _) (hI) rfl
        · intro f a w' hI hf hanc hdesc hle hs' hd K hK
          obtain ⟨_, tg, rfl⟩ := hd 7 54 (by kernel_rfl)
          obtain ⟨_, t11, rfl⟩ := hd 11 58 (by kernel_rfl)
          obtain ⟨f0, f1, f2, f3⟩ := blk4 ((hI.block X HXl.out).trans HXb.out)
          unfold Go.Rel.stepOf
          go_simp
          exact hK _ _ (But.refl _ _) (hI) rfl
        · intro f a w' hI hf hanc hdesc hle hs' hd K hK
          obtain ⟨_, tg, rfl⟩ := hd 7 54 (by kernel_rfl)
          obtain ⟨_, t8, rfl⟩ := hd 8 55 (by kernel_rfl)
          obtain ⟨_, t10, rfl⟩ := hd 10 57 (by kernel_rfl)
          obtain ⟨_, t12, rfl⟩ := hd 12 59 (by kernel_rfl)
          unfold Go.Rel.stepOf
          go_simp
          refine (drop_no s.key s.ix (HNo.out w' hI)).mono ?_
          rintro e w2 ⟨rfl, rfl⟩
          exact hK _ _ (But.refl _ _) hI rfl
        · intro f a w' hI hf hanc hdesc hle hs' hd K hK
          obtain ⟨_, t7, rfl⟩ := hd 7 54 (by kernel_rfl)
          obtain ⟨_, t13, rfl⟩ := hd 13 60 (by kernel_rfl)
          unfold Go.Rel.stepOf
          go_simp
          exact hK _ _ (But.refl _ _) (hI) rfl
        · intro f a w' hI hf hanc hdesc hle hs' hd K hK
          obtain ⟨_, t14, rfl⟩ := hd 14 61 (by kernel_rfl)
          unfold Go.Rel.stepOf
          go_simp
          exact hK _ _ (But.refl _ _) (hI) rfl
        · intro f a w' hI hf hanc hdesc hle hs' hd K hK
          obtain ⟨_, tg, rfl⟩ := hd 15 62 (by kernel_rfl)
          have f9 : a.tmps[9]? = some (.pointer (some ⟨P9, 0, none⟩)) := hs'.2.2 9 (by kernel_rfl)
          obtain ⟨g0, g1, g2, g3⟩ := blk4 ((hI.block P9 HP9l.out).trans HP9b.out)
          unfold Go.Rel.stepOf
          go_simp
          exact hK _ _ (But.refl _ _) (hI) rfl
        · intro f a w' hI hf hanc hdesc hle hs' hd K hK
          obtain ⟨_, tg, rfl⟩ := hd 15 62 (by kernel_rfl)
          unfold Go.Rel.stepOf
          go_simp
          exact hK _ _ (But.refl _ _) (hI) rfl
        · intro f a w' hI hf hanc hdesc hle hs' hd K hK
          obtain ⟨_, tg, rfl⟩ := hd 15 62 (by kernel_rfl)
          obtain ⟨_, t16, rfl⟩ := hd 16 63 (by kernel_rfl)
          obtain ⟨_, t17, rfl⟩ := hd 17 64 (by kernel_rfl)
          have ue := noRw_eq
          have ug := tr_guard
          unfold Go.Rel.stepOf
          go_simp
          exact hK _ _ (But.refl _ _) (hI) rfl
        · intro f a w' hI hf hanc hdesc hle hs' hd K hK
          obtain ⟨_, t15, rfl⟩ := hd 15 62 (by kernel_rfl)
          obtain ⟨_, t18, rfl⟩ := hd 18 65 (by kernel_rfl)
          unfold Go.Rel.stepOf
          go_simp
          exact hK _ _ (But.refl _ _) (hI) rfl
        · intro f a w' hI hf hanc hdesc hle hs' hd K hK
          obtain ⟨_, t19, rfl⟩ := hd 19 66 (by kernel_rfl)
          unfold Go.Rel.stepOf
          go_simp
          exact hK _ _ (But.refl _ _) (hI) rfl
        · intro f a w' hI hf hanc hdesc hle hs' hd K hK
          obtain ⟨_, tg, rfl⟩ := hd 20 67 (by kernel_rfl)
          have f10 : a.tmps[10]? = some (.bool false) := hs'.2.2 10 (by kernel_rfl)
          unfold Go.Rel.stepOf
          go_simp
          exact hK _ _ (But.refl _ _) (hI) rfl
        · intro f a w' hI hf hanc hdesc hle hs' hd K hK
          obtain ⟨_, t20, rfl⟩ := hd 20 67 (by kernel_rfl)
          obtain ⟨_, t21, rfl⟩ := hd 21 68 (by kernel_rfl)
          unfold Go.Rel.stepOf
          go_simp
          exact hK _ _ (But.refl _ _) (hI) rfl
        · intro f a w' hI hf hanc hdesc hle hs' hd K hK
          obtain ⟨_, t22, rfl⟩ := hd 22 69 (by kernel_rfl)
          unfold Go.Rel.stepOf
          go_simp
          exact hK _ _ (But.refl _ _) (hI) rfl
        · intro f a w' hI hf hanc hdesc hle hs' hd K hK
          obtain ⟨_, tg, rfl⟩ := hd 23 70 (by kernel_rfl)
          have f6 : a.tmps[6]? = some (.pointer qa) := hs'.2.2 6 (by kernel_rfl)
          unfold Go.Rel.stepOf
          go_simp
          exact hK _ _ (But.refl _ _) (hI) rfl
        · intro f a w' hI hf hanc hdesc hle hs' hd K hK
          obtain ⟨_, tg, rfl⟩ := hd 23 70 (by kernel_rfl)
          obtain ⟨_, t24, rfl⟩ := hd 24 71 (by kernel_rfl)
          unfold Go.Rel.stepOf
          go_simp
          refine (list_no (HNo.out w' hI)).mono ?_
          rintro e w2 hw5
          obtain ⟨A5, c5, rfl, hb5⟩ := newRows_nil hw5
          exact hK _ _ (But.of_below hb5) (hI.trans (hb5.mono hI.size)) ⟨_, _, rfl⟩
        · intro f a w' hI hf hanc hdesc hle hs' hd K hK
          obtain ⟨_, tg, rfl⟩ := hd 23 70 (by kernel_rfl)
          obtain ⟨_, t25, A25, c25, rfl⟩ := hd 25 72 (by kernel_rfl)
          unfold Go.Rel.stepOf
          go_simp
          exact hK _ _ (But.refl _ _) (hI) rfl
        · intro f a w' hI hf hanc hdesc hle hs' hd K hK
          obtain ⟨_, tg, rfl⟩ := hd 23 70 (by kernel_rfl)
          have f6 : a.tmps[6]? = some (.pointer qa) := hs'.2.2 6 (by kernel_rfl)
          unfold Go.Rel.stepOf
          go_simp
          exact hK _ _ (But.refl _ _) (hI) rfl
        · intro f a w' hI hf hanc hdesc hle hs' hd K hK
          obtain ⟨_, tg, rfl⟩ := hd 23 70 (by kernel_rfl)
          have f1 : a.tmps[1]? = some (.pointer (some ⟨X, 0, none⟩)) := hs'.2.2 1 (by kernel_rfl)
          unfold Go.Rel.stepOf
          go_simp
          exact hK _ _ (But.refl _ _) (hI) rfl
        · intro f a w' hI hf hanc hdesc hle hs' hd K hK
          obtain ⟨_, tg, rfl⟩ := hd 23 70 (by kernel_rfl)
          obtain ⟨_, t28, rfl⟩ := hd 28 75 (by kernel_rfl)
          obtain ⟨f0, f1, f2, f3⟩ := blk4 ((hI.block X HXl.out).trans HXb.out)
          unfold Go.Rel.stepOf
          go_simp
          exact hK _ _ (But.refl _ _) (hI) rfl
        · intro f a w' hI hf hanc hdesc hle hs' hd K hK
          obtain ⟨_, tg, rfl⟩ := hd 23 70 (by kernel_rfl)
          obtain ⟨_, t27, rfl⟩ := hd 27 74 (by kernel_rfl)
          obtain ⟨_, t29, rfl⟩ := hd 29 76 (by kernel_rfl)
          unfold Go.Rel.stepOf
          go_simp
          refine (under_no s.key (HNo.out w' hI) HKy.out).mono ?_
          rintro e w2 hw5
          obtain ⟨A5, c5, rfl, hb5⟩ := newRows_nil hw5
          exact hK _ _ (But.of_below hb5) (hI.trans (hb5.mono hI.size)) ⟨_, _, rfl⟩
        · intro f a w' hI hf hanc hdesc hle hs' hd K hK
          obtain ⟨_, tg, rfl⟩ := hd 23 70 (by kernel_rfl)
          obtain ⟨_, t30, A30, c30, rfl⟩ := hd 30 77 (by kernel_rfl)
          unfold Go.Rel.stepOf
          go_simp
          exact hK _ _ (But.refl _ _) (hI) rfl
        · intro f a w' hI hf hanc hdesc hle hs' hd K hK
          obtain ⟨_, tg, rfl⟩ := hd 23 70 (by kernel_rfl)
          obtain ⟨_, t26, rfl⟩ := hd 26 73 (by kernel_rfl)
          obtain ⟨_, t31, rfl⟩ := hd 31 78 (by kernel_rfl)
          unfold Go.Rel.stepOf
          go_simp
          exact hK _ _ (But.refl _ _) (hI) rfl
        · intro f a w' hI hf hanc hdesc hle hs' hd K hK
          obtain ⟨_, tg, rfl⟩ := hd 23 70 (by kernel_rfl)
          have f6 : a.tmps[6]? = some (.pointer qa) := hs'.2.2 6 (by kernel_rfl)
          unfold Go.Rel.stepOf
          go_simp
          exact hK _ _ (But.refl _ _) (hI) rfl
        · intro f a w' hI hf hanc hdesc hle hs' hd K hK
          obtain ⟨_, tg, rfl⟩ := hd 23 70 (by kernel_rfl)
          obtain ⟨_, t33, rfl⟩ := hd 33 80 (by kernel_rfl)
          unfold Go.Rel.stepOf
          go_simp
          refine (count_no (HNo.out w' hI)).mono ?_
          rintro e w2 ⟨rfl, rfl⟩
          exact hK _ _ (But.refl _ _) hI rfl
        · intro f a w' hI hf hanc hdesc hle hs' hd K hK
          obtain ⟨_, tg, rfl⟩ := hd 23 70 (by kernel_rfl)
          obtain ⟨_, t32, rfl⟩ := hd 32 79 (by kernel_rfl)
          obtain ⟨_, t34, rfl⟩ := hd 34 81 (by kernel_rfl)
          unfold Go.Rel.stepOf
          go_simp
          exact hK _ _ (But.refl _ _) (hI) rfl
        · intro f a w' hI hf hanc hdesc hle hs' hd K hK
          obtain ⟨_, tg, rfl⟩ := hd 23 70 (by kernel_rfl)
          obtain ⟨_, t35, rfl⟩ := hd 35 82 (by kernel_rfl)
          unfold Go.Rel.stepOf
          go_simp
          exact hK _ _ (But.refl _ _) (hI) rfl
        · intro f a w' hI hf hanc hdesc hle hs' hd K hK
          obtain ⟨_, t23, rfl⟩ := hd 23 70 (by kernel_rfl)
          obtain ⟨_, t36, rfl⟩ := hd 36 83 (by kernel_rfl)
          unfold Go.Rel.stepOf
          go_simp
          exact hK _ _ (But.refl _ _) (hI) rfl
        · intro f a w' hI hf hanc hdesc hle hs' hd K hK
          obtain ⟨_, t37, rfl⟩ := hd 37 84 (by kernel_rfl)
          unfold Go.Rel.stepOf
          go_simp
          exact hK _ _ (But.refl _ _) (hI) rfl
        · intro f a w' hI hf hanc hdesc hle hs' hd K hK
          obtain ⟨_, tg, rfl⟩ := hd 38 85 (by kernel_rfl)
          have f6 : a.tmps[6]? = some (.pointer qa) := hs'.2.2 6 (by kernel_rfl)
          unfold Go.Rel.stepOf
          go_simp
          exact hK _ _ (But.refl _ _) (hI) rfl
        · intro f a w' hI hf hanc hdesc hle hs' hd K hK
          obtain ⟨_, tg, rfl⟩ := hd 38 85 (by kernel_rfl)
          obtain ⟨_, t39, rfl⟩ := hd 39 86 (by kernel_rfl)
          unfold Go.Rel.stepOf
          go_simp
          refine (last_no (HNo.out w' hI)).mono ?_
          rintro e w2 ⟨rfl, rfl⟩
          exact hK _ _ (But.refl _ _) hI rfl
        · intro f a w' hI hf hanc hdesc hle hs' hd K hK
          obtain ⟨_, tg, rfl⟩ := hd 38 85 (by kernel_rfl)
          obtain ⟨_, t40, rfl⟩ := hd 40 87 (by kernel_rfl)
          unfold Go.Rel.stepOf
          go_simp
          exact hK _ _ (But.refl _ _) (hI) rfl
        · intro f a w' hI hf hanc hdesc hle hs' hd K hK
          obtain ⟨_, t38, rfl⟩ := hd 38 85 (by kernel_rfl)
          obtain ⟨_, t41, rfl⟩ := hd 41 88 (by kernel_rfl)
          unfold Go.Rel.stepOf
          go_simp
          exact hK _ _ (But.refl _ _) (hI) rfl
        · intro f a w' hI hf hanc hdesc hle hs' hd K hK
          obtain ⟨_, t42, rfl⟩ := hd 42 89 (by kernel_rfl)
          unfold Go.Rel.stepOf
          go_simp
          exact hK _ _ (But.refl _ _) (hI) rfl
        · intro f a w' hI hf hanc hdesc hle hs' hd K hK
          obtain ⟨_, tg, rfl⟩ := hd 43 90 (by kernel_rfl)
          have f6 : a.tmps[6]? = some (.pointer qa) := hs'.2.2 6 (by kernel_rfl)
          unfold Go.Rel.stepOf
          go_simp
          exact hK _ _ (But.refl _ _) (hI) rfl
        · intro f a w' hI hf hanc hdesc hle hs' hd K hK
          obtain ⟨_, tg, rfl⟩ := hd 43 90 (by kernel_rfl)
          obtain ⟨_, t44, rfl⟩ := hd 44 91 (by kernel_rfl)
          unfold Go.Rel.stepOf
          go_simp
          refine (copy_no (HNo.out w' hI)).mono ?_
          rintro e w2 ⟨rfl, rfl⟩
          exact hK _ _ (But.refl _ _) hI rfl
        · intro f a w' hI hf hanc hdesc hle hs' hd K hK
          obtain ⟨_, tg, rfl⟩ := hd 43 90 (by kernel_rfl)
          obtain ⟨_, t45, rfl⟩ := hd 45 92 (by kernel_rfl)
          unfold Go.Rel.stepOf
          go_simp
          exact hK _ _ (But.refl _ _) (hI) rfl
        · intro f a w' hI hf hanc hdesc hle hs' hd K hK
          obtain ⟨_, t43, rfl⟩ := hd 43 90 (by kernel_rfl)
          obtain ⟨_, t46, rfl⟩ := hd 46 93 (by kernel_rfl)
          unfold Go.Rel.stepOf
          go_simp
          exact hK _ _ (But.refl _ _) (hI) rfl
      case heq =>
        intro f a w5 hall hI hle hs' hR'
        have HB5 := Lib.hid (HB9.out.trans (hI.mono HB9.out.size))
        clear hI hle hall
        obtain ⟨v47, s47, _⟩ := hR' 0 47 (by kernel_rfl)
        obtain ⟨v48, s48, _⟩ := hR' 1 48 (by kernel_rfl)
        obtain ⟨v49, s49, _⟩ := hR' 2 49 (by kernel_rfl)
        obtain ⟨v50, s50, _⟩ := hR' 3 50 (by kernel_rfl)
        obtain ⟨v51, s51, _⟩ := hR' 4 51 (by kernel_rfl)
        obtain ⟨v52, s52, _⟩ := hR' 5 52 (by kernel_rfl)
        obtain ⟨v53, s53, _⟩ := hR' 6 53 (by kernel_rfl)
        obtain ⟨v54, s54, _⟩ := hR' 7 54 (by kernel_rfl)
        obtain ⟨v55, s55, _⟩ := hR' 8 55 (by kernel_rfl)
        obtain ⟨v56, s56, _⟩ := hR' 9 56 (by kernel_rfl)
        obtain ⟨v57, s57, _⟩ := hR' 10 57 (by kernel_rfl)
        obtain ⟨v58, s58, _⟩ := hR' 11 58 (by kernel_rfl)
        obtain ⟨v59, s59, _⟩ := hR' 12 59 (by kernel_rfl)
        obtain ⟨v60, s60, _⟩ := hR' 13 60 (by kernel_rfl)
        obtain ⟨v61, s61, _⟩ := hR' 14 61 (by kernel_rfl)
        obtain ⟨v62, s62, _⟩ := hR' 15 62 (by kernel_rfl)
        obtain ⟨v63, s63, _⟩ := hR' 16 63 (by kernel_rfl)
        obtain ⟨v64, s64, _⟩ := hR' 17 64 (by kernel_rfl)
        obtain ⟨v65, s65, _⟩ := hR' 18 65 (by kernel_rfl)
        obtain ⟨v66, s66, _⟩ := hR' 19 66 (by kernel_rfl)
        obtain ⟨v67, s67, _⟩ := hR' 20 67 (by kernel_rfl)
        obtain ⟨v68, s68, _⟩ := hR' 21 68 (by kernel_rfl)
        obtain ⟨v69, s69, _⟩ := hR' 22 69 (by kernel_rfl)
        obtain ⟨v70, s70, _⟩ := hR' 23 70 (by kernel_rfl)
        obtain ⟨v71, s71, _⟩ := hR' 24 71 (by kernel_rfl)
        obtain ⟨v72, s72, _⟩ := hR' 25 72 (by kernel_rfl)
        obtain ⟨v73, s73, _⟩ := hR' 26 73 (by kernel_rfl)
        obtain ⟨v74, s74, _⟩ := hR' 27 74 (by kernel_rfl)
        obtain ⟨v75, s75, _⟩ := hR' 28 75 (by kernel_rfl)
        obtain ⟨v76, s76, _⟩ := hR' 29 76 (by kernel_rfl)
        obtain ⟨v77, s77, _⟩ := hR' 30 77 (by kernel_rfl)
        obtain ⟨v78, s78, _⟩ := hR' 31 78 (by kernel_rfl)
        obtain ⟨v79, s79, _⟩ := hR' 32 79 (by kernel_rfl)
        obtain ⟨v80, s80, _⟩ := hR' 33 80 (by kernel_rfl)
        obtain ⟨v81, s81, _⟩ := hR' 34 81 (by kernel_rfl)
        obtain ⟨v82, s82, _⟩ := hR' 35 82 (by kernel_rfl)
        obtain ⟨v83, s83, _⟩ := hR' 36 83 (by kernel_rfl)
        obtain ⟨v84, s84, _⟩ := hR' 37 84 (by kernel_rfl)
        obtain ⟨v85, s85, _⟩ := hR' 38 85 (by kernel_rfl)
        obtain ⟨v86, s86, _⟩ := hR' 39 86 (by kernel_rfl)
        obtain ⟨v87, s87, _⟩ := hR' 40 87 (by kernel_rfl)
        obtain ⟨v88, s88, _⟩ := hR' 41 88 (by kernel_rfl)
        obtain ⟨v89, s89, _⟩ := hR' 42 89 (by kernel_rfl)
        obtain ⟨v90, s90, _⟩ := hR' 43 90 (by kernel_rfl)
        obtain ⟨v91, s91, _⟩ := hR' 44 91 (by kernel_rfl)
        obtain ⟨v92, s92, _⟩ := hR' 45 92 (by kernel_rfl)
        obtain ⟨v93, s93, _⟩ := hR' 46 93 (by kernel_rfl)
        obtain ⟨_, s94, rfl⟩ := hR' 47 94 (by kernel_rfl)
        have e := hs'.shape
        simp only [List.toList_toArray, List.foldl, Go.Rel.reset, Array.getD_eq_getD_getElem?, s47, s48, s49, s50, s51, s52, s53, s54, s55, s56, s57, s58, s59, s60, s61, s62, s63, s64, s65, s66, s67, s68, s69, s70, s71, s72, s73, s74, s75, s76, s77, s78, s79, s80, s81, s82, s83, s84, s85, s86, s87, s88, s89, s90, s91, s92, s93, s94, Option.getD_some] at e
        simp at e
        clear hR' hs' s47 s48 s49 s50 s51 s52 s53 s54 s55 s56 s57 s58 s59 s60 s61 s62 s63 s64 s65 s66 s67 s68 s69 s70 s71 s72 s73 s74 s75 s76 s77 s78 s79 s80 s81 s82 s83 s84 s85 s86 s87 s88 s89 s90 s91 s92 s93 s94
        subst e
        go_wp2
        go_roundw
        case rel => exact ⟨k + 1, by omega, by go_num, Lib.hid (hb.out.trans (HB5.out.mono hb.out.size))⟩
        case measure => simp [intOf]; omega
    · obtain rfl : k = 2 := by omega
      have HWr := Lib.hid (HWk.out wr)
      have HB6 : Hid (Below w.heap.size w wr) := Lib.hid (HB3.out.trans (hb.out.mono HB3.out.size))
      clear HWk
      go_wp2_with fail
      refine HWr.out.mono ?_
      rintro e w9 ⟨rfl, hb9⟩
      have HB9 := Lib.hid (HB6.out.trans (hb9.mono HB6.out.size))
      clear hb9 HWr
      go_wp2
      go_ret
      exact ⟨rfl, HB9.out⟩
end Go.Proofs.Ytphjlcogjalidaa
