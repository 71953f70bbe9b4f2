/-
  No store: Set, Cas, Del, DelCas, Lock, Unlock, Free take nothing, walked (layer 16).
-/
import Derived.Test.YtohnkagabpefdaaDoorZj42
namespace Go.Proofs.YtohnkagabpefdaaDoor
open Go.RowKit
set_option linter.unusedSimpArgs false
set_option linter.unusedVariables false

theorem modify_no {w : World} {p : Option Addr} (key : ByteArray) (i : Nat) (A : Option Addr) (n c : Nat) (tf : Value) (h : NoKv w p) :
    Calls Tryd.prog 33 #[.pointer p, .string key, .int .u64 (i : Int), .agg #[.slice A n c, tf]] w fun e w' => e = .returned (.int .i64 1) ∧ Below w.heap.size w w' := by
  have HT := Lib.hid (table_no (h.below (below1 w #[.slice A n c, tf] 82)))
  clear h
  go_enter Tryd.func33, Tryd.ntmps33
  go_wp2_with fail
  refine HT.out.mono ?_
  rintro e w' ⟨rfl, rfl⟩
  go_wp2
  go_ret
  exact ⟨rfl, below1 _ _ _⟩
set_option maxHeartbeats 2000000 in
theorem kset_no {w : World} {p : Option Addr} (key v : ByteArray) (i : Nat) (h : NoKv w p) :
    Calls Tryd.prog 12 #[.pointer p, .string key, .string v, .int .u64 (i : Int)] w fun e w' => e = .returned (.int .i64 1) ∧ Below w.heap.size w w' := by
  have HH := Lib.hid h
  clear h
  obtain ⟨P1, hP1⟩ : ∃ P1, w.heap.size = P1 := ⟨_, rfl⟩
  have C1 := Lib.hid (short_at v w)
  rw [hP1] at C1
  have QhP1 := Lib.hid hP1
  clear hP1
  go_enter Tryd.func12, Tryd.ntmps12
  go_wp2_with fail
  refine C1.out.mono ?_
  rintro e1 v1 ⟨rfl, kP1, s1⟩
  have hP1 := QhP1.out
  clear QhP1
  rw [← hP1] at s1
  obtain ⟨Z, hZ⟩ : ∃ Z, v1.heap.size = Z := ⟨_, rfl⟩
  obtain ⟨v2, hv2⟩ : ∃ v2, v1.alloc (.cells #[.func (.func 60) #[] #[.pointer (some ⟨P1, 0, none⟩)], .int .i64 3] TCk) = v2 := ⟨_, rfl⟩
  have s2 : Below v1.heap.size v1 v2 := by rw [← hv2]; exact below1 _ _ _
  have kZ : v2.heap[Z]? = some (.cells #[.func (.func 60) #[] #[.pointer (some ⟨P1, 0, none⟩)], .int .i64 3] TCk (0, 0)) := by rw [← hv2, ← hZ]; exact heap_alloc_new _ _
  obtain ⟨P3, hP3⟩ : ∃ P3, v2.heap.size = P3 := ⟨_, rfl⟩
  have C3 := Lib.hid (with_at v v2)
  rw [hP3] at C3
  have QhP1 := Lib.hid hP1
  have QkP1 := Lib.hid kP1
  have Qs1 := Lib.hid s1
  have QhZ := Lib.hid hZ
  have Qhv2 := Lib.hid hv2
  have Qs2 := Lib.hid s2
  have QkZ := Lib.hid kZ
  have QhP3 := Lib.hid hP3
  clear hP1 kP1 s1 hZ hv2 s2 kZ hP3
  go_wp2_with fail
  rw [Qhv2.out, QhZ.out]
  refine C3.out.mono ?_
  rintro e3 v3 ⟨rfl, kP3, s3⟩
  have hP1 := QhP1.out
  have kP1 := QkP1.out
  have s1 := Qs1.out
  have hZ := QhZ.out
  have hv2 := Qhv2.out
  have s2 := Qs2.out
  have kZ := QkZ.out
  have hP3 := QhP3.out
  clear QhP1 QkP1 Qs1 QhZ Qhv2 Qs2 QkZ QhP3
  rw [← hP3] at s3
  have t3 : Below v3.heap.size v3 v3 := Below.refl _ _
  have t2 : Below v2.heap.size v2 v3 := step_trans s3 t3
  have t1 : Below v1.heap.size v1 v3 := step_trans s2 t2
  have t0 : Below w.heap.size w v3 := step_trans s1 t1
  have KP1 := ((t1.block P1 (block_lt kP1)).trans kP1)
  have KZ := ((t2.block Z (block_lt kZ)).trans kZ)
  have KP3 := ((t3.block P3 (block_lt kP3)).trans kP3)
  have HMod := Lib.hid (modify_no key i (some ⟨Z, 0, none⟩) 1 1 (.func (.func 61) #[] #[.pointer (some ⟨P3, 0, none⟩)]) (HH.out.below t0))
  have HB := Lib.hid t0
  have QhP1 := Lib.hid hP1
  have QkP1 := Lib.hid kP1
  have Qs1 := Lib.hid s1
  have QhZ := Lib.hid hZ
  have Qhv2 := Lib.hid hv2
  have Qs2 := Lib.hid s2
  have QkZ := Lib.hid kZ
  have QhP3 := Lib.hid hP3
  have QkP3 := Lib.hid kP3
  have Qs3 := Lib.hid s3
  have Qt3 := Lib.hid t3
  have Qt2 := Lib.hid t2
  have Qt1 := Lib.hid t1
  have Qt0 := Lib.hid t0
  have QKP1 := Lib.hid KP1
  have QKZ := Lib.hid KZ
  have QKP3 := Lib.hid KP3
  clear hP1 kP1 s1 hZ hv2 s2 kZ hP3 kP3 s3 t3 t2 t1 t0 KP1 KZ KP3
  go_wp2_with fail
  refine HMod.out.mono ?_
  rintro e8 w8 ⟨rfl, hb8⟩
  have H8 := Lib.hid hb8
  clear hb8 HMod
  go_wp2
  go_ret
  exact ⟨rfl, step_trans HB.out H8.out⟩
set_option maxHeartbeats 2000000 in
theorem kcas_no {w : World} {p : Option Addr} (key v : ByteArray) (old : Nat) (i : Nat) (h : NoKv w p) :
    Calls Tryd.prog 13 #[.pointer p, .string key, .string v, .int .u64 (old : Int), .int .u64 (i : Int)] w fun e w' => e = .returned (.int .i64 1) ∧ Below w.heap.size w w' := by
  have HH := Lib.hid h
  clear h
  obtain ⟨X1, hX1⟩ : ∃ X1, w.heap.size = X1 := ⟨_, rfl⟩
  obtain ⟨v1, hv1⟩ : ∃ v1, w.alloc (.cells #[.int .u64 (old : Int)] 23) = v1 := ⟨_, rfl⟩
  have s1 : Below w.heap.size w v1 := by rw [← hv1]; exact below1 _ _ _
  have kX1 : v1.heap[X1]? = some (.cells #[.int .u64 (old : Int)] 23 (0, 0)) := by rw [← hv1, ← hX1]; exact heap_alloc_new _ _
  obtain ⟨P1, hP1⟩ : ∃ P1, v1.heap.size = P1 := ⟨_, rfl⟩
  have C2 := Lib.hid (short_at v v1)
  rw [hP1] at C2
  have QhX1 := Lib.hid hX1
  have Qhv1 := Lib.hid hv1
  have Qs1 := Lib.hid s1
  have QkX1 := Lib.hid kX1
  have QhP1 := Lib.hid hP1
  clear hX1 hv1 s1 kX1 hP1
  go_enter Tryd.func13, Tryd.ntmps13
  go_wp2_with fail
  rw [Qhv1.out, QhX1.out]
  refine C2.out.mono ?_
  rintro e2 v2 ⟨rfl, kP1, s2⟩
  have hX1 := QhX1.out
  have hv1 := Qhv1.out
  have s1 := Qs1.out
  have kX1 := QkX1.out
  have hP1 := QhP1.out
  clear QhX1 Qhv1 Qs1 QkX1 QhP1
  rw [← hP1] at s2
  obtain ⟨Z, hZ⟩ : ∃ Z, v2.heap.size = Z := ⟨_, rfl⟩
  obtain ⟨v3, hv3⟩ : ∃ v3, v2.alloc (.cells #[.func (.func 60) #[] #[.pointer (some ⟨P1, 0, none⟩)], .int .i64 3, .func (.func 36) #[] #[.pointer (some ⟨X1, 0, none⟩)], .int .i64 21] TCk) = v3 := ⟨_, rfl⟩
  have s3 : Below v2.heap.size v2 v3 := by rw [← hv3]; exact below1 _ _ _
  have kZ : v3.heap[Z]? = some (.cells #[.func (.func 60) #[] #[.pointer (some ⟨P1, 0, none⟩)], .int .i64 3, .func (.func 36) #[] #[.pointer (some ⟨X1, 0, none⟩)], .int .i64 21] TCk (0, 0)) := by rw [← hv3, ← hZ]; exact heap_alloc_new _ _
  obtain ⟨P3, hP3⟩ : ∃ P3, v3.heap.size = P3 := ⟨_, rfl⟩
  have C4 := Lib.hid (with_at v v3)
  rw [hP3] at C4
  have QhX1 := Lib.hid hX1
  have Qhv1 := Lib.hid hv1
  have Qs1 := Lib.hid s1
  have QkX1 := Lib.hid kX1
  have QhP1 := Lib.hid hP1
  have QkP1 := Lib.hid kP1
  have Qs2 := Lib.hid s2
  have QhZ := Lib.hid hZ
  have Qhv3 := Lib.hid hv3
  have Qs3 := Lib.hid s3
  have QkZ := Lib.hid kZ
  have QhP3 := Lib.hid hP3
  clear hX1 hv1 s1 kX1 hP1 kP1 s2 hZ hv3 s3 kZ hP3
  go_wp2_with fail
  rw [Qhv3.out, QhZ.out]
  refine C4.out.mono ?_
  rintro e4 v4 ⟨rfl, kP3, s4⟩
  have hX1 := QhX1.out
  have hv1 := Qhv1.out
  have s1 := Qs1.out
  have kX1 := QkX1.out
  have hP1 := QhP1.out
  have kP1 := QkP1.out
  have s2 := Qs2.out
  have hZ := QhZ.out
  have hv3 := Qhv3.out
  have s3 := Qs3.out
  have kZ := QkZ.out
  have hP3 := QhP3.out
  clear QhX1 Qhv1 Qs1 QkX1 QhP1 QkP1 Qs2 QhZ Qhv3 Qs3 QkZ QhP3
  rw [← hP3] at s4
  have t4 : Below v4.heap.size v4 v4 := Below.refl _ _
  have t3 : Below v3.heap.size v3 v4 := step_trans s4 t4
  have t2 : Below v2.heap.size v2 v4 := step_trans s3 t3
  have t1 : Below v1.heap.size v1 v4 := step_trans s2 t2
  have t0 : Below w.heap.size w v4 := step_trans s1 t1
  have KX1 := ((t1.block X1 (block_lt kX1)).trans kX1)
  have KP1 := ((t2.block P1 (block_lt kP1)).trans kP1)
  have KZ := ((t3.block Z (block_lt kZ)).trans kZ)
  have KP3 := ((t4.block P3 (block_lt kP3)).trans kP3)
  have HMod := Lib.hid (modify_no key i (some ⟨Z, 0, none⟩) 2 2 (.func (.func 61) #[] #[.pointer (some ⟨P3, 0, none⟩)]) (HH.out.below t0))
  have HB := Lib.hid t0
  have QhX1 := Lib.hid hX1
  have Qhv1 := Lib.hid hv1
  have Qs1 := Lib.hid s1
  have QkX1 := Lib.hid kX1
  have QhP1 := Lib.hid hP1
  have QkP1 := Lib.hid kP1
  have Qs2 := Lib.hid s2
  have QhZ := Lib.hid hZ
  have Qhv3 := Lib.hid hv3
  have Qs3 := Lib.hid s3
  have QkZ := Lib.hid kZ
  have QhP3 := Lib.hid hP3
  have QkP3 := Lib.hid kP3
  have Qs4 := Lib.hid s4
  have Qt4 := Lib.hid t4
  have Qt3 := Lib.hid t3
  have Qt2 := Lib.hid t2
  have Qt1 := Lib.hid t1
  have Qt0 := Lib.hid t0
  have QKX1 := Lib.hid KX1
  have QKP1 := Lib.hid KP1
  have QKZ := Lib.hid KZ
  have QKP3 := Lib.hid KP3
  clear hX1 hv1 s1 kX1 hP1 kP1 s2 hZ hv3 s3 kZ hP3 kP3 s4 t4 t3 t2 t1 t0 KX1 KP1 KZ KP3
  go_wp2_with fail
  refine HMod.out.mono ?_
  rintro e8 w8 ⟨rfl, hb8⟩
  have H8 := Lib.hid hb8
  clear hb8 HMod
  go_wp2
  go_ret
  exact ⟨rfl, step_trans HB.out H8.out⟩
set_option maxHeartbeats 2000000 in
theorem kdel_no {w : World} {p : Option Addr} (key : ByteArray) (i : Nat) (h : NoKv w p) :
    Calls Tryd.prog 14 #[.pointer p, .string key, .int .u64 (i : Int)] w fun e w' => e = .returned (.int .i64 1) ∧ Below w.heap.size w w' := by
  have HH := Lib.hid h
  clear h
  obtain ⟨Z, hZ⟩ : ∃ Z, w.heap.size = Z := ⟨_, rfl⟩
  obtain ⟨v1, hv1⟩ : ∃ v1, w.alloc (.cells #[.func (.func 37) #[] #[], .int .i64 4] TCk) = v1 := ⟨_, rfl⟩
  have s1 : Below w.heap.size w v1 := by rw [← hv1]; exact below1 _ _ _
  have kZ : v1.heap[Z]? = some (.cells #[.func (.func 37) #[] #[], .int .i64 4] TCk (0, 0)) := by rw [← hv1, ← hZ]; exact heap_alloc_new _ _
  have t1 : Below v1.heap.size v1 v1 := Below.refl _ _
  have t0 : Below w.heap.size w v1 := step_trans s1 t1
  have KZ := ((t1.block Z (block_lt kZ)).trans kZ)
  have HMod := Lib.hid (modify_no key i (some ⟨Z, 0, none⟩) 1 1 (.func (.func 38) #[] #[]) (HH.out.below t0))
  have HB := Lib.hid t0
  have QhZ := Lib.hid hZ
  have Qhv1 := Lib.hid hv1
  have Qs1 := Lib.hid s1
  have QkZ := Lib.hid kZ
  have Qt1 := Lib.hid t1
  have Qt0 := Lib.hid t0
  have QKZ := Lib.hid KZ
  clear hZ hv1 s1 kZ t1 t0 KZ
  go_enter Tryd.func14, Tryd.ntmps14
  go_wp2_with fail
  rw [Qhv1.out, QhZ.out]
  refine HMod.out.mono ?_
  rintro e8 w8 ⟨rfl, hb8⟩
  have H8 := Lib.hid hb8
  clear hb8 HMod
  go_wp2
  go_ret
  exact ⟨rfl, step_trans HB.out H8.out⟩
set_option maxHeartbeats 2000000 in
theorem kdelCas_no {w : World} {p : Option Addr} (key : ByteArray) (old : Nat) (i : Nat) (h : NoKv w p) :
    Calls Tryd.prog 15 #[.pointer p, .string key, .int .u64 (old : Int), .int .u64 (i : Int)] w fun e w' => e = .returned (.int .i64 1) ∧ Below w.heap.size w w' := by
  have HH := Lib.hid h
  clear h
  obtain ⟨X1, hX1⟩ : ∃ X1, w.heap.size = X1 := ⟨_, rfl⟩
  obtain ⟨v1, hv1⟩ : ∃ v1, w.alloc (.cells #[.int .u64 (old : Int)] 23) = v1 := ⟨_, rfl⟩
  have s1 : Below w.heap.size w v1 := by rw [← hv1]; exact below1 _ _ _
  have kX1 : v1.heap[X1]? = some (.cells #[.int .u64 (old : Int)] 23 (0, 0)) := by rw [← hv1, ← hX1]; exact heap_alloc_new _ _
  obtain ⟨Z, hZ⟩ : ∃ Z, v1.heap.size = Z := ⟨_, rfl⟩
  obtain ⟨v2, hv2⟩ : ∃ v2, v1.alloc (.cells #[.func (.func 37) #[] #[], .int .i64 4, .func (.func 39) #[] #[.pointer (some ⟨X1, 0, none⟩)], .int .i64 21] TCk) = v2 := ⟨_, rfl⟩
  have s2 : Below v1.heap.size v1 v2 := by rw [← hv2]; exact below1 _ _ _
  have kZ : v2.heap[Z]? = some (.cells #[.func (.func 37) #[] #[], .int .i64 4, .func (.func 39) #[] #[.pointer (some ⟨X1, 0, none⟩)], .int .i64 21] TCk (0, 0)) := by rw [← hv2, ← hZ]; exact heap_alloc_new _ _
  have gZ : X1 + 1 = Z := by rw [← hZ, ← hv1]; simp [hX1]
  have t2 : Below v2.heap.size v2 v2 := Below.refl _ _
  have t1 : Below v1.heap.size v1 v2 := step_trans s2 t2
  have t0 : Below w.heap.size w v2 := step_trans s1 t1
  have KX1 := ((t1.block X1 (block_lt kX1)).trans kX1)
  have KZ := ((t2.block Z (block_lt kZ)).trans kZ)
  have HMod := Lib.hid (modify_no key i (some ⟨Z, 0, none⟩) 2 2 (.func (.func 38) #[] #[]) (HH.out.below t0))
  have HB := Lib.hid t0
  have QhX1 := Lib.hid hX1
  have Qhv1 := Lib.hid hv1
  have Qs1 := Lib.hid s1
  have QkX1 := Lib.hid kX1
  have QhZ := Lib.hid hZ
  have Qhv2 := Lib.hid hv2
  have Qs2 := Lib.hid s2
  have QkZ := Lib.hid kZ
  have QgZ := Lib.hid gZ
  have Qt2 := Lib.hid t2
  have Qt1 := Lib.hid t1
  have Qt0 := Lib.hid t0
  have QKX1 := Lib.hid KX1
  have QKZ := Lib.hid KZ
  clear hX1 hv1 s1 kX1 hZ hv2 s2 kZ gZ t2 t1 t0 KX1 KZ
  go_enter Tryd.func15, Tryd.ntmps15
  go_wp2_with fail
  rw [Qhv1.out, QhX1.out, Qhv2.out, QgZ.out]
  refine HMod.out.mono ?_
  rintro e8 w8 ⟨rfl, hb8⟩
  have H8 := Lib.hid hb8
  clear hb8 HMod
  go_wp2
  go_ret
  exact ⟨rfl, step_trans HB.out H8.out⟩
set_option maxHeartbeats 2000000 in
theorem klock_no {w : World} {p : Option Addr} (key v : ByteArray) (s : Nat) (i : Nat) (h : NoKv w p) :
    Calls Tryd.prog 16 #[.pointer p, .string key, .string v, .int .u64 (s : Int), .int .u64 (i : Int)] w fun e w' => e = .returned (.int .i64 1) ∧ Below w.heap.size w w' := by
  have HH := Lib.hid h
  clear h
  obtain ⟨X1, hX1⟩ : ∃ X1, w.heap.size = X1 := ⟨_, rfl⟩
  obtain ⟨v1, hv1⟩ : ∃ v1, w.alloc (.cells #[.string v] 9) = v1 := ⟨_, rfl⟩
  have s1 : Below w.heap.size w v1 := by rw [← hv1]; exact below1 _ _ _
  have kX1 : v1.heap[X1]? = some (.cells #[.string v] 9 (0, 0)) := by rw [← hv1, ← hX1]; exact heap_alloc_new _ _
  obtain ⟨X2, hX2⟩ : ∃ X2, v1.heap.size = X2 := ⟨_, rfl⟩
  obtain ⟨v2, hv2⟩ : ∃ v2, v1.alloc (.cells #[.int .u64 (s : Int)] 23) = v2 := ⟨_, rfl⟩
  have s2 : Below v1.heap.size v1 v2 := by rw [← hv2]; exact below1 _ _ _
  have kX2 : v2.heap[X2]? = some (.cells #[.int .u64 (s : Int)] 23 (0, 0)) := by rw [← hv2, ← hX2]; exact heap_alloc_new _ _
  have gX2 : X1 + 1 = X2 := by rw [← hX2, ← hv1]; simp [hX1]
  obtain ⟨P1, hP1⟩ : ∃ P1, v2.heap.size = P1 := ⟨_, rfl⟩
  have C3 := Lib.hid (short_at v v2)
  rw [hP1] at C3
  have QhX1 := Lib.hid hX1
  have Qhv1 := Lib.hid hv1
  have Qs1 := Lib.hid s1
  have QkX1 := Lib.hid kX1
  have QhX2 := Lib.hid hX2
  have Qhv2 := Lib.hid hv2
  have Qs2 := Lib.hid s2
  have QkX2 := Lib.hid kX2
  have QgX2 := Lib.hid gX2
  have QhP1 := Lib.hid hP1
  clear hX1 hv1 s1 kX1 hX2 hv2 s2 kX2 gX2 hP1
  go_enter Tryd.func16, Tryd.ntmps16
  go_wp2_with fail
  rw [Qhv1.out, QhX1.out, Qhv2.out, QgX2.out]
  refine C3.out.mono ?_
  rintro e3 v3 ⟨rfl, kP1, s3⟩
  have hX1 := QhX1.out
  have hv1 := Qhv1.out
  have s1 := Qs1.out
  have kX1 := QkX1.out
  have hX2 := QhX2.out
  have hv2 := Qhv2.out
  have s2 := Qs2.out
  have kX2 := QkX2.out
  have gX2 := QgX2.out
  have hP1 := QhP1.out
  clear QhX1 Qhv1 Qs1 QkX1 QhX2 Qhv2 Qs2 QkX2 QgX2 QhP1
  rw [← hP1] at s3
  obtain ⟨Z, hZ⟩ : ∃ Z, v3.heap.size = Z := ⟨_, rfl⟩
  obtain ⟨v4, hv4⟩ : ∃ v4, v3.alloc (.cells #[.func (.func 60) #[] #[.pointer (some ⟨P1, 0, none⟩)], .int .i64 3, .func (.func 40) #[] #[.pointer (some ⟨X2, 0, none⟩)], .int .i64 2, .func (.func 41) #[] #[.pointer (some ⟨X2, 0, none⟩)], .int .i64 22] TCk) = v4 := ⟨_, rfl⟩
  have s4 : Below v3.heap.size v3 v4 := by rw [← hv4]; exact below1 _ _ _
  have kZ : v4.heap[Z]? = some (.cells #[.func (.func 60) #[] #[.pointer (some ⟨P1, 0, none⟩)], .int .i64 3, .func (.func 40) #[] #[.pointer (some ⟨X2, 0, none⟩)], .int .i64 2, .func (.func 41) #[] #[.pointer (some ⟨X2, 0, none⟩)], .int .i64 22] TCk (0, 0)) := by rw [← hv4, ← hZ]; exact heap_alloc_new _ _
  have t4 : Below v4.heap.size v4 v4 := Below.refl _ _
  have t3 : Below v3.heap.size v3 v4 := step_trans s4 t4
  have t2 : Below v2.heap.size v2 v4 := step_trans s3 t3
  have t1 : Below v1.heap.size v1 v4 := step_trans s2 t2
  have t0 : Below w.heap.size w v4 := step_trans s1 t1
  have KX1 := ((t1.block X1 (block_lt kX1)).trans kX1)
  have KX2 := ((t2.block X2 (block_lt kX2)).trans kX2)
  have KP1 := ((t3.block P1 (block_lt kP1)).trans kP1)
  have KZ := ((t4.block Z (block_lt kZ)).trans kZ)
  have HMod := Lib.hid (modify_no key i (some ⟨Z, 0, none⟩) 3 3 (.func (.func 42) #[] #[.pointer (some ⟨X2, 0, none⟩), .pointer (some ⟨X1, 0, none⟩)]) (HH.out.below t0))
  have HB := Lib.hid t0
  have QhX1 := Lib.hid hX1
  have Qhv1 := Lib.hid hv1
  have Qs1 := Lib.hid s1
  have QkX1 := Lib.hid kX1
  have QhX2 := Lib.hid hX2
  have Qhv2 := Lib.hid hv2
  have Qs2 := Lib.hid s2
  have QkX2 := Lib.hid kX2
  have QgX2 := Lib.hid gX2
  have QhP1 := Lib.hid hP1
  have QkP1 := Lib.hid kP1
  have Qs3 := Lib.hid s3
  have QhZ := Lib.hid hZ
  have Qhv4 := Lib.hid hv4
  have Qs4 := Lib.hid s4
  have QkZ := Lib.hid kZ
  have Qt4 := Lib.hid t4
  have Qt3 := Lib.hid t3
  have Qt2 := Lib.hid t2
  have Qt1 := Lib.hid t1
  have Qt0 := Lib.hid t0
  have QKX1 := Lib.hid KX1
  have QKX2 := Lib.hid KX2
  have QKP1 := Lib.hid KP1
  have QKZ := Lib.hid KZ
  clear hX1 hv1 s1 kX1 hX2 hv2 s2 kX2 gX2 hP1 kP1 s3 hZ hv4 s4 kZ t4 t3 t2 t1 t0 KX1 KX2 KP1 KZ
  go_wp2_with fail
  rw [Qhv4.out, QhZ.out]
  refine HMod.out.mono ?_
  rintro e8 w8 ⟨rfl, hb8⟩
  have H8 := Lib.hid hb8
  clear hb8 HMod
  go_wp2
  go_ret
  exact ⟨rfl, step_trans HB.out H8.out⟩
set_option maxHeartbeats 2000000 in
theorem kunlock_no {w : World} {p : Option Addr} (key v : ByteArray) (s : Nat) (i : Nat) (h : NoKv w p) :
    Calls Tryd.prog 17 #[.pointer p, .string key, .string v, .int .u64 (s : Int), .int .u64 (i : Int)] w fun e w' => e = .returned (.int .i64 1) ∧ Below w.heap.size w w' := by
  have HH := Lib.hid h
  clear h
  obtain ⟨X1, hX1⟩ : ∃ X1, w.heap.size = X1 := ⟨_, rfl⟩
  obtain ⟨v1, hv1⟩ : ∃ v1, w.alloc (.cells #[.string v] 9) = v1 := ⟨_, rfl⟩
  have s1 : Below w.heap.size w v1 := by rw [← hv1]; exact below1 _ _ _
  have kX1 : v1.heap[X1]? = some (.cells #[.string v] 9 (0, 0)) := by rw [← hv1, ← hX1]; exact heap_alloc_new _ _
  obtain ⟨X2, hX2⟩ : ∃ X2, v1.heap.size = X2 := ⟨_, rfl⟩
  obtain ⟨v2, hv2⟩ : ∃ v2, v1.alloc (.cells #[.int .u64 (s : Int)] 23) = v2 := ⟨_, rfl⟩
  have s2 : Below v1.heap.size v1 v2 := by rw [← hv2]; exact below1 _ _ _
  have kX2 : v2.heap[X2]? = some (.cells #[.int .u64 (s : Int)] 23 (0, 0)) := by rw [← hv2, ← hX2]; exact heap_alloc_new _ _
  have gX2 : X1 + 1 = X2 := by rw [← hX2, ← hv1]; simp [hX1]
  obtain ⟨P1, hP1⟩ : ∃ P1, v2.heap.size = P1 := ⟨_, rfl⟩
  have C3 := Lib.hid (short_at v v2)
  rw [hP1] at C3
  have QhX1 := Lib.hid hX1
  have Qhv1 := Lib.hid hv1
  have Qs1 := Lib.hid s1
  have QkX1 := Lib.hid kX1
  have QhX2 := Lib.hid hX2
  have Qhv2 := Lib.hid hv2
  have Qs2 := Lib.hid s2
  have QkX2 := Lib.hid kX2
  have QgX2 := Lib.hid gX2
  have QhP1 := Lib.hid hP1
  clear hX1 hv1 s1 kX1 hX2 hv2 s2 kX2 gX2 hP1
  go_enter Tryd.func17, Tryd.ntmps17
  go_wp2_with fail
  rw [Qhv1.out, QhX1.out, Qhv2.out, QgX2.out]
  refine C3.out.mono ?_
  rintro e3 v3 ⟨rfl, kP1, s3⟩
  have hX1 := QhX1.out
  have hv1 := Qhv1.out
  have s1 := Qs1.out
  have kX1 := QkX1.out
  have hX2 := QhX2.out
  have hv2 := Qhv2.out
  have s2 := Qs2.out
  have kX2 := QkX2.out
  have gX2 := QgX2.out
  have hP1 := QhP1.out
  clear QhX1 Qhv1 Qs1 QkX1 QhX2 Qhv2 Qs2 QkX2 QgX2 QhP1
  rw [← hP1] at s3
  obtain ⟨Z, hZ⟩ : ∃ Z, v3.heap.size = Z := ⟨_, rfl⟩
  obtain ⟨v4, hv4⟩ : ∃ v4, v3.alloc (.cells #[.func (.func 60) #[] #[.pointer (some ⟨P1, 0, none⟩)], .int .i64 3, .func (.func 37) #[] #[], .int .i64 4, .func (.func 43) #[] #[.pointer (some ⟨X2, 0, none⟩)], .int .i64 22] TCk) = v4 := ⟨_, rfl⟩
  have s4 : Below v3.heap.size v3 v4 := by rw [← hv4]; exact below1 _ _ _
  have kZ : v4.heap[Z]? = some (.cells #[.func (.func 60) #[] #[.pointer (some ⟨P1, 0, none⟩)], .int .i64 3, .func (.func 37) #[] #[], .int .i64 4, .func (.func 43) #[] #[.pointer (some ⟨X2, 0, none⟩)], .int .i64 22] TCk (0, 0)) := by rw [← hv4, ← hZ]; exact heap_alloc_new _ _
  have t4 : Below v4.heap.size v4 v4 := Below.refl _ _
  have t3 : Below v3.heap.size v3 v4 := step_trans s4 t4
  have t2 : Below v2.heap.size v2 v4 := step_trans s3 t3
  have t1 : Below v1.heap.size v1 v4 := step_trans s2 t2
  have t0 : Below w.heap.size w v4 := step_trans s1 t1
  have KX1 := ((t1.block X1 (block_lt kX1)).trans kX1)
  have KX2 := ((t2.block X2 (block_lt kX2)).trans kX2)
  have KP1 := ((t3.block P1 (block_lt kP1)).trans kP1)
  have KZ := ((t4.block Z (block_lt kZ)).trans kZ)
  have HMod := Lib.hid (modify_no key i (some ⟨Z, 0, none⟩) 3 3 (.func (.func 44) #[] #[.pointer (some ⟨X1, 0, none⟩)]) (HH.out.below t0))
  have HB := Lib.hid t0
  have QhX1 := Lib.hid hX1
  have Qhv1 := Lib.hid hv1
  have Qs1 := Lib.hid s1
  have QkX1 := Lib.hid kX1
  have QhX2 := Lib.hid hX2
  have Qhv2 := Lib.hid hv2
  have Qs2 := Lib.hid s2
  have QkX2 := Lib.hid kX2
  have QgX2 := Lib.hid gX2
  have QhP1 := Lib.hid hP1
  have QkP1 := Lib.hid kP1
  have Qs3 := Lib.hid s3
  have QhZ := Lib.hid hZ
  have Qhv4 := Lib.hid hv4
  have Qs4 := Lib.hid s4
  have QkZ := Lib.hid kZ
  have Qt4 := Lib.hid t4
  have Qt3 := Lib.hid t3
  have Qt2 := Lib.hid t2
  have Qt1 := Lib.hid t1
  have Qt0 := Lib.hid t0
  have QKX1 := Lib.hid KX1
  have QKX2 := Lib.hid KX2
  have QKP1 := Lib.hid KP1
  have QKZ := Lib.hid KZ
  clear hX1 hv1 s1 kX1 hX2 hv2 s2 kX2 gX2 hP1 kP1 s3 hZ hv4 s4 kZ t4 t3 t2 t1 t0 KX1 KX2 KP1 KZ
  go_wp2_with fail
  rw [Qhv4.out, QhZ.out]
  refine HMod.out.mono ?_
  rintro e8 w8 ⟨rfl, hb8⟩
  have H8 := Lib.hid hb8
  clear hb8 HMod
  go_wp2
  go_ret
  exact ⟨rfl, step_trans HB.out H8.out⟩
theorem kfree_no {w : World} {p : Option Addr} (s i : Nat) (h : NoKv w p) : Calls Tryd.prog 18 #[.pointer p, .int .u64 (s : Int), .int .u64 (i : Int)] w fun e w' => ∃ A c, e = .returned (.slice A 0 c) ∧ Below w.heap.size w w' := by
  obtain ⟨W1, hW1⟩ : ∃ W1, w.alloc (.cells #[.int .u64 (s : Int)] 23) = W1 := ⟨_, rfl⟩
  have hb1 : Below w.heap.size w W1 := by rw [← hW1]; exact below1 _ _ _
  have HL := Lib.hid (klist_no ⟨#[]⟩ (h.below hb1) (by decide))
  have HB1 := Lib.hid hb1
  have HW1 := Lib.hid hW1
  clear h hW1 hb1
  go_enter Tryd.func18, Tryd.ntmps18
  go_wp2_with fail
  rw [HW1.out]
  refine HL.out.mono ?_
  rintro e w2 ⟨A, c, rfl, -, -, -, -, hb2⟩
  have HB2 := Lib.hid (step_trans HB1.out hb2)
  clear hb2 HL
  go_wp2
  go_loopw [8, 15] (fun vv iv wr => vv = .slice none 0 0 ∧ iv = .int .i64 0 ∧ Hid (Below w.heap.size w wr)) (fun _ _ _ => 0)
  case atStart => exact ⟨rfl, rfl, HB2⟩
  case round =>
    obtain ⟨rfl, rfl, hb⟩ := hrel
    go_wp2
    go_ret
    exact ⟨_, _, rfl, hb.out⟩
end Go.Proofs.YtohnkagabpefdaaDoor
