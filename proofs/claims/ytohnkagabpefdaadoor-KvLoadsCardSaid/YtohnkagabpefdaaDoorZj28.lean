/-
  The program's store: whole, there, table, New, Last, Copy, Get, walked (layer 16).
-/
import Derived.Test.YtohnkagabpefdaaDoorZj27
namespace Go.Proofs.YtohnkagabpefdaaDoor
open Go.RowKit
set_option linter.unusedSimpArgs false
set_option linter.unusedVariables false

theorem below3 (w : World) (a b c : Array Value) (p q r : TypeId) : Below w.heap.size w (((w.alloc (.cells a p)).alloc (.cells b q)).alloc (.cells c r)) := ((below1 w a p).alloc (by simp) _).alloc (by simp; omega) _
theorem below2 (w : World) (a b : Array Value) (p q : TypeId) : Below w.heap.size w ((w.alloc (.cells a p)).alloc (.cells b q)) := (below1 w a p).alloc (by simp) _
theorem whole_any (r : En) (w : World) : Calls Tryd.prog 30 #[enV r] w fun e w' => e = .returned (enV r) ∧ Below w.heap.size w w' := by
  unfold enV Kt.trV
  go_enter Tryd.func30, Tryd.ntmps30
  go_wp2
  exact bodyPost_ret (v := .agg #[.string r.key, .string r.val.v, .int .u64 (r.val.ses : Int), .int .u64 (r.val.lck : Int), .int .u64 (r.made : Int), .int .u64 (r.ix : Int)]) (by simp [results, Tryd.results30, go_sem]) rfl ⟨rfl, below3 _ _ _ _ _ _ _⟩
theorem there_any (e0 : En) (w : World) : Calls Tryd.prog 37 #[enV e0] w fun e w' => e = .returned (.bool (!eqE e0 noEn)) ∧ Below w.heap.size w w' := by
  have ue : ∀ w, (Op.equalIn 10000 TEn (.agg #[.string e0.key, .string e0.val.v, .int .u64 (e0.val.ses : Int), .int .u64 (e0.val.lck : Int), .int .u64 (e0.made : Int), .int .u64 (e0.ix : Int)]) (.agg #[.string ⟨#[]⟩, .string ⟨#[]⟩, .int .u64 0, .int .u64 0, .int .u64 0, .int .u64 0])).run Tryd.prog w = .ok (eqE e0 noEn) w := en_eq e0 noEn
  have ug := en_guard
  obtain ⟨b, hb⟩ : ∃ b, eqE e0 noEn = b := ⟨_, rfl⟩
  rw [hb] at ue ⊢
  unfold enV Kt.trV
  clear hb
  go_enter Tryd.func37, Tryd.ntmps37
  go_wp2
  go_ret
  exact ⟨rfl, below1 _ _ _⟩
section
variable {S : Nat → Prop} {w : World} {B Bt : Nat} {t : Tb Kp}
theorem table_is (k : w.heap[B]? = some (.cells #[.pointer (some ⟨Bt, 0, none⟩)] 37 (0, 0))) : Calls Tryd.prog 28 #[.pointer (some ⟨B, 0, none⟩)] w fun e w' => e = .returned (.pointer (some ⟨Bt, 0, none⟩)) ∧ w = w' := by
  have c0 := cellsN k 0 _ rfl
  clear k
  go_enter Tryd.func28, Tryd.ntmps28
  go_wp2
  go_ret
  exact ⟨rfl, rfl⟩
theorem table_no {p : Option Addr} (h : NoKv w p) : Calls Tryd.prog 28 #[.pointer p] w fun e w' => e = .returned (.pointer none) ∧ w = w' := by
  rcases h.or with rfl | ⟨B, rfl, k⟩
  · clear h
    go_enter Tryd.func28, Tryd.ntmps28
    go_wp2
    go_ret
    exact ⟨rfl, rfl⟩
  · have c0 := cellsN k 0 _ rfl
    clear h k
    go_enter Tryd.func28, Tryd.ntmps28
    go_wp2
    go_ret
    exact ⟨rfl, rfl⟩
/-- A store that was just laid. -/
theorem KvAt.laid {S' : Nat → Prop} (hk : KvOk t) (h : Kt.TAt S' w Bt t) (hS : ∀ k, S' k → S k) : KvAt (fun k => S k ∨ w.heap.size ≤ k) (w.alloc (.cells #[.pointer (some ⟨Bt, 0, none⟩)] 37)) w.heap.size Bt t :=
  ⟨hk, .inr (Nat.le_refl _), heap_alloc_new w _, (h.narrow (S' := fun k => S' k ∧ k < w.heap.size) fun k hk z => ⟨z, hk⟩).below (below1 _ _ _) |>.narrow fun k _ z => ⟨.inl (hS k z.1), by omega⟩⟩
theorem knew_any (m : Int) (w : World) (hm : -9223372036854775808 ≤ m ∧ m ≤ 9223372036854775807) :
    Calls Tryd.prog 23 #[.int .i64 m] w fun e w' => ∃ B Bt, e = .returned (.pointer (some ⟨B, 0, none⟩)) ∧ KvAt (fun k => w.heap.size ≤ k) w' B Bt ⟨mostT m, [], 0⟩ ∧ Below w.heap.size w w' := by
  have HN := Lib.hid (Kt.new_any m w hm)
  clear hm
  go_enter Tryd.func23, Tryd.ntmps23
  go_wp2_with fail
  refine HN.out.mono ?_
  rintro e w1 ⟨Bt, rfl, ht, hb⟩
  have HT := Lib.hid (KvAt.laid (S := fun k => w.heap.size ≤ k) (KvOk.new m) ht fun _ z => z)
  have HB := Lib.hid (hb.alloc hb.size (.cells #[.pointer (some ⟨Bt, 0, none⟩)] 37))
  have HZ := Lib.hid hb.size
  clear ht hb HN
  go_wp2
  go_ret
  refine ⟨_, _, rfl, HT.out.narrow fun k _ z => ?_, HB.out⟩
  rcases z with z | z
  · exact z
  · exact Nat.le_trans HZ.out z
theorem klast_any (h : KvAt S w B Bt t) : Calls Tryd.prog 10 #[.pointer (some ⟨B, 0, none⟩)] w fun e w' => e = .returned (.int .u64 (t.last : Int)) ∧ w = w' := by
  obtain ⟨_, _, k, h1⟩ := h
  have HT := Lib.hid (table_is k)
  have HL := Lib.hid (Kt.last_any h1)
  clear k h1
  go_enter Tryd.func10, Tryd.ntmps10
  go_wp2_with fail
  refine HT.out.mono ?_
  rintro e w' ⟨rfl, rfl⟩
  go_wp2_with fail
  refine HL.out.mono ?_
  rintro e w' ⟨rfl, rfl⟩
  go_wp2
  go_ret
  exact ⟨rfl, rfl⟩
theorem klast_no {p : Option Addr} (h : NoKv w p) : Calls Tryd.prog 10 #[.pointer p] w fun e w' => e = .returned (.int .u64 0) ∧ w = w' := by
  have HT := Lib.hid (table_no h)
  have HL := Lib.hid (Kt.last_no (w := w) (p := none) ⟨.inl rfl⟩)
  clear h
  go_enter Tryd.func10, Tryd.ntmps10
  go_wp2_with fail
  refine HT.out.mono ?_
  rintro e w' ⟨rfl, rfl⟩
  go_wp2_with fail
  refine HL.out.mono ?_
  rintro e w' ⟨rfl, rfl⟩
  go_wp2
  go_ret
  exact ⟨rfl, rfl⟩
theorem kcopy_any (h : KvAt S w B Bt t) : Calls Tryd.prog 19 #[.pointer (some ⟨B, 0, none⟩)] w fun e w' => ∃ B' Bc, e = .returned (.pointer (some ⟨B', 0, none⟩)) ∧ w.heap.size ≤ B' ∧ w.heap.size ≤ Bc ∧ KvAt (fun k => S k ∨ w.heap.size ≤ k) w' B' Bc t ∧ Below w.heap.size w w' := by
  obtain ⟨hk, _, k, h1⟩ := h
  have HT := Lib.hid (table_is k)
  have HC := Lib.hid (Kt.copy_any h1)
  have HK := Lib.hid hk
  have c0 := cellsN k 0 _ rfl
  clear k h1 hk
  go_enter Tryd.func19, Tryd.ntmps19
  go_wp2_with fail
  refine HT.out.mono ?_
  rintro e w' ⟨rfl, rfl⟩
  go_wp2_with fail
  refine HC.out.mono ?_
  rintro e w1 ⟨Bc, rfl, hc, ht, hb⟩
  have HT2 := Lib.hid (KvAt.laid (S := fun k => S k ∨ w.heap.size ≤ k) HK.out ht fun _ z => z.imp (·.1) id)
  have HB := Lib.hid (hb.alloc hb.size (.cells #[.pointer (some ⟨Bc, 0, none⟩)] 37))
  have HZ := Lib.hid hb.size
  have HCc := Lib.hid hc
  clear ht hb HC hc
  go_wp2
  go_ret
  refine ⟨_, _, rfl, HZ.out, HCc.out, HT2.out.narrow fun k _ z => ?_, HB.out⟩
  rcases z with z | z
  · exact z
  · exact .inr (Nat.le_trans HZ.out z)
theorem kcopy_no {p : Option Addr} (h : NoKv w p) : Calls Tryd.prog 19 #[.pointer p] w fun e w' => e = .returned (.pointer none) ∧ w = w' := by
  have HT := Lib.hid (table_no h)
  clear h
  go_enter Tryd.func19, Tryd.ntmps19
  go_wp2_with fail
  refine HT.out.mono ?_
  rintro e w' ⟨rfl, rfl⟩
  go_wp2
  go_ret
  exact ⟨rfl, rfl⟩
set_option maxHeartbeats 1000000 in
theorem kget_any (key : ByteArray) (h : KvAt S w B Bt t) : Calls Tryd.prog 11 #[.pointer (some ⟨B, 0, none⟩), .string key] w fun e w' => e = .returned (.tuple #[enV ((entO t key, isO t key) : En × Bool).1, .bool ((entO t key, isO t key) : En × Bool).2]) ∧ Below w.heap.size w w' := by
  obtain ⟨X, hX⟩ : ∃ X, w.heap.size = X := ⟨_, rfl⟩
  obtain ⟨W, hW⟩ : ∃ W, w.alloc (.cells #[.string ⟨#[]⟩, .string ⟨#[]⟩, .int .u64 0, .int .u64 0, .int .u64 0, .int .u64 0] TEn) = W := ⟨_, rfl⟩
  have hb0 : Below w.heap.size w W := by rw [← hW]; exact below1 _ _ _
  have k0 : W.heap[X]? = some (.cells #[.string ⟨#[]⟩, .string ⟨#[]⟩, .int .u64 0, .int .u64 0, .int .u64 0, .int .u64 0] TEn (0, 0)) := by rw [← hW, ← hX]; exact heap_alloc_new w _
  obtain ⟨_, _, k, h1⟩ := h.below hb0
  have HT := Lib.hid (table_is k)
  have HG := Lib.hid (Kt.get_any key h1)
  clear h k h1
  have HB0 := Lib.hid hb0
  have HK0 := Lib.hid k0
  have HW := Lib.hid hW
  have HX := Lib.hid hX
  clear hX hW hb0 k0
  go_enter Tryd.func11, Tryd.ntmps11
  go_wp2_with fail
  rw [HW.out, HX.out]
  refine HT.out.mono ?_
  rintro e w' ⟨rfl, rfl⟩
  go_wp2_with fail
  refine HG.out.mono ?_
  rintro e w1 ⟨rfl, hb1⟩
  obtain ⟨r, hr⟩ : ∃ r, (getR t.l key).getD Kt.noRw = r := ⟨_, rfl⟩
  obtain ⟨b, hb⟩ : ∃ b, (getR t.l key).isSome = b := ⟨_, rfl⟩
  unfold Kt.gotR Kt.trV
  rw [hr, hb]
  have HWh := Lib.hid (fun W => whole_any r W)
  unfold enV Kt.trV at HWh
  obtain ⟨W2, hW2⟩ : ∃ W2, w1.alloc (.cells #[.string r.key, .string r.val.v, .int .u64 (r.val.ses : Int), .int .u64 (r.val.lck : Int), .int .u64 (r.made : Int), .int .u64 (r.ix : Int)] 70) = W2 := ⟨_, rfl⟩
  have hb2 : Below w1.heap.size w1 W2 := by rw [← hW2]; exact below1 _ _ _
  have kx := ((hb1.trans (hb2.mono hb1.size)).block X (block_lt HK0.out)).trans HK0.out
  have HKx := Lib.hid kx
  have HB2 : Hid (Below X w W2) := Lib.hid (by rw [← HX.out]; exact HB0.out.trans ((hb1.trans (hb2.mono hb1.size)).mono HB0.out.size))
  have HW2 := Lib.hid hW2
  have HRr := Lib.hid hr
  have HRb := Lib.hid hb
  clear hb1 hb2 kx hW2 hr hb HG HT
  go_wp2_with fail
  rw [HW2.out]
  refine (HWh.out _).mono ?_
  rintro e w3 ⟨rfl, hb3⟩
  have kx := (hb3.block X (block_lt HKx.out)).trans HKx.out
  obtain ⟨d0, d1, d2, d3, d4, d5⟩ := Kt.blk kx
  have z0 := blk_froz kx 0
  have z1 := blk_froz kx 1
  have z2 := blk_froz kx 2
  have z3 := blk_froz kx 3
  have z4 := blk_froz kx 4
  have z5 := blk_froz kx 5
  have hXl := block_lt kx
  have HQ := Lib.hid (setL_all kx [.string r.key, .string r.val.v, .int .u64 (r.val.ses : Int), .int .u64 (r.val.lck : Int), .int .u64 (r.made : Int), .int .u64 (r.ix : Int)] rfl)
  have HB3 : Hid (Below X w w3) := Lib.hid (HB2.out.trans (hb3.mono (by have := HB2.out.size; have := HX.out; omega)))
  clear kx hb3 HWh
  go_wp2
  obtain ⟨q0, q1, q2, q3, q4, q5⟩ := Kt.blk HQ.out
  simp only [setL] at q0 q1 q2 q3 q4 q5
  refine bodyPost_ret (v := .tuple #[enV r, .bool b]) (by simp [results, Tryd.results11, go_sem, q0, q1, q2, q3, q4, q5, enV, Kt.trV]) rfl ?_
  rw [HX.out]
  refine ⟨by rw [← HRr.out, ← HRb.out]; rfl, ?_⟩
  exact below_setL HB3.out (by rw [HX.out]; exact Nat.le_refl _) [.string r.key, .string r.val.v, .int .u64 (r.val.ses : Int), .int .u64 (r.val.lck : Int), .int .u64 (r.made : Int), .int .u64 (r.ix : Int)] 0
set_option maxHeartbeats 1000000 in
theorem kget_no {p : Option Addr} (key : ByteArray) (h : NoKv w p) : Calls Tryd.prog 11 #[.pointer p, .string key] w fun e w' => e = .returned (.tuple #[enV ((noEn, false) : En × Bool).1, .bool ((noEn, false) : En × Bool).2]) ∧ Below w.heap.size w w' := by
  obtain ⟨X, hX⟩ : ∃ X, w.heap.size = X := ⟨_, rfl⟩
  obtain ⟨W, hW⟩ : ∃ W, w.alloc (.cells #[.string ⟨#[]⟩, .string ⟨#[]⟩, .int .u64 0, .int .u64 0, .int .u64 0, .int .u64 0] TEn) = W := ⟨_, rfl⟩
  have hb0 : Below w.heap.size w W := by rw [← hW]; exact below1 _ _ _
  have k0 : W.heap[X]? = some (.cells #[.string ⟨#[]⟩, .string ⟨#[]⟩, .int .u64 0, .int .u64 0, .int .u64 0, .int .u64 0] TEn (0, 0)) := by rw [← hW, ← hX]; exact heap_alloc_new w _
  have HT := Lib.hid (table_no (h.below hb0))
  have HG := Lib.hid (Kt.get_no key (w := W) (q := none) ⟨.inl rfl⟩)
  clear h
  have HB0 := Lib.hid hb0
  have HK0 := Lib.hid k0
  have HW := Lib.hid hW
  have HX := Lib.hid hX
  clear hX hW hb0 k0
  go_enter Tryd.func11, Tryd.ntmps11
  go_wp2_with fail
  rw [HW.out, HX.out]
  refine HT.out.mono ?_
  rintro e w' ⟨rfl, rfl⟩
  go_wp2_with fail
  refine HG.out.mono ?_
  rintro e w1 ⟨rfl, hb1⟩
  obtain ⟨r, hr⟩ : ∃ r, (none : Option En).getD Kt.noRw = r := ⟨_, rfl⟩
  obtain ⟨b, hb⟩ : ∃ b, (none : Option En).isSome = b := ⟨_, rfl⟩
  unfold Kt.gotR Kt.trV
  rw [hr, hb]
  have HWh := Lib.hid (fun W => whole_any r W)
  unfold enV Kt.trV at HWh
  obtain ⟨W2, hW2⟩ : ∃ W2, w1.alloc (.cells #[.string r.key, .string r.val.v, .int .u64 (r.val.ses : Int), .int .u64 (r.val.lck : Int), .int .u64 (r.made : Int), .int .u64 (r.ix : Int)] 70) = W2 := ⟨_, rfl⟩
  have hb2 : Below w1.heap.size w1 W2 := by rw [← hW2]; exact below1 _ _ _
  have kx := ((hb1.trans (hb2.mono hb1.size)).block X (block_lt HK0.out)).trans HK0.out
  have HKx := Lib.hid kx
  have HB2 : Hid (Below X w W2) := Lib.hid (by rw [← HX.out]; exact HB0.out.trans ((hb1.trans (hb2.mono hb1.size)).mono HB0.out.size))
  have HW2 := Lib.hid hW2
  have HRr := Lib.hid hr
  have HRb := Lib.hid hb
  clear hb1 hb2 kx hW2 hr hb HG HT
  go_wp2_with fail
  rw [HW2.out]
  refine (HWh.out _).mono ?_
  rintro e w3 ⟨rfl, hb3⟩
  have kx := (hb3.block X (block_lt HKx.out)).trans HKx.out
  obtain ⟨d0, d1, d2, d3, d4, d5⟩ := Kt.blk kx
  have z0 := blk_froz kx 0
  have z1 := blk_froz kx 1
  have z2 := blk_froz kx 2
  have z3 := blk_froz kx 3
  have z4 := blk_froz kx 4
  have z5 := blk_froz kx 5
  have hXl := block_lt kx
  have HQ := Lib.hid (setL_all kx [.string r.key, .string r.val.v, .int .u64 (r.val.ses : Int), .int .u64 (r.val.lck : Int), .int .u64 (r.made : Int), .int .u64 (r.ix : Int)] rfl)
  have HB3 : Hid (Below X w w3) := Lib.hid (HB2.out.trans (hb3.mono (by have := HB2.out.size; have := HX.out; omega)))
  clear kx hb3 HWh
  go_wp2
  obtain ⟨q0, q1, q2, q3, q4, q5⟩ := Kt.blk HQ.out
  simp only [setL] at q0 q1 q2 q3 q4 q5
  refine bodyPost_ret (v := .tuple #[enV r, .bool b]) (by simp [results, Tryd.results11, go_sem, q0, q1, q2, q3, q4, q5, enV, Kt.trV]) rfl ?_
  rw [HX.out]
  refine ⟨by rw [← HRr.out, ← HRb.out]; rfl, ?_⟩
  exact below_setL HB3.out (by rw [HX.out]; exact Nat.le_refl _) [.string r.key, .string r.val.v, .int .u64 (r.val.ses : Int), .int .u64 (r.val.lck : Int), .int .u64 (r.made : Int), .int .u64 (r.ix : Int)] 0
end
end Go.Proofs.YtohnkagabpefdaaDoor
