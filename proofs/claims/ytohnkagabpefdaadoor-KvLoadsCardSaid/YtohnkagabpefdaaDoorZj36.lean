/-
  The program's store: Set, Cas, Del, DelCas, Lock, Unlock, walked (layer 16).
-/
import Derived.Test.YtohnkagabpefdaaDoorZj35
namespace Go.Proofs.YtohnkagabpefdaaDoor
open Go.RowKit
set_option linter.unusedSimpArgs false
set_option linter.unusedVariables false

theorem short_at (s : ByteArray) (w : World) :
    Calls Tryd.prog 34 #[.string s] w fun e w' => e = .returned (.agg #[.func (.func 60) #[] #[.pointer (some ⟨w.heap.size, 0, none⟩)], .int .i64 3]) ∧ w'.heap[w.heap.size]? = some (.cells #[.string s] 9 (0, 0)) ∧ Below w.heap.size w w' := by
  obtain ⟨W1, hW1⟩ : ∃ W1, (w.alloc (.cells #[.string s] 9)).alloc (.cells #[.func (.func 60) #[] #[.pointer (some ⟨w.heap.size, 0, none⟩)], .int .i64 3] TCk) = W1 := ⟨_, rfl⟩
  have HB : Hid (Below w.heap.size w W1) := Lib.hid (by rw [← hW1]; exact below2 _ _ _ _ _)
  have HK : Hid (W1.heap[w.heap.size]? = some (.cells #[.string s] 9 (0, 0))) := Lib.hid (by
    rw [← hW1]
    exact ((below1 (w.alloc (.cells #[.string s] 9)) _ _).block w.heap.size (by simp)).trans (heap_alloc_new w _))
  have HW1 := Lib.hid hW1
  clear hW1
  go_enter Tryd.func34, Tryd.ntmps34
  go_wp2
  rw [HW1.out]
  refine bodyPost_ret (v := .agg #[.func (.func 60) #[] #[.pointer (some ⟨w.heap.size, 0, none⟩)], .int .i64 3]) ?_ rfl ⟨rfl, HK.out, HB.out⟩
  rw [← HW1.out]
  simp [results, Tryd.results34, go_sem]
theorem with_at (s : ByteArray) (w : World) :
    Calls Tryd.prog 35 #[.string s] w fun e w' => e = .returned (.func (.func 61) #[] #[.pointer (some ⟨w.heap.size, 0, none⟩)]) ∧ w'.heap[w.heap.size]? = some (.cells #[.string s] 9 (0, 0)) ∧ Below w.heap.size w w' := by
  go_enter Tryd.func35, Tryd.ntmps35
  go_wp2
  go_ret
  exact ⟨rfl, heap_alloc_new w _, below1 _ _ _⟩
theorem step_trans {x y z : World} (a : Below x.heap.size x y) (b : Below y.heap.size y z) : Below x.heap.size x z := a.trans (b.mono a.size)
/-- Checks that lie in a block. -/
theorem SK.cks {w : World} {Z : Nat} {cur : Array Value} {cs : List Ck} (h : w.heap[Z]? = some (.cells cur TCk (0, 0))) (hc : cur.toList = cs.flatMap ckC) : SK ckC 2 w (some ⟨Z, 0, none⟩) cs.length cs :=
  ⟨rfl, fun _ => ⟨Z, 0, rfl, block_lt h, fun j hj k u hu => by
    rw [cell_of_row _ _ _ _ _ _ h, ← Array.getElem?_toList, hc, Nat.zero_add, flat_at ckC_len hj k (by rw [← ckC_len cs[j]]; exact (List.getElem?_eq_some_iff.1 hu).1)]
    exact hu⟩⟩
theorem isO_there {t : Tb Kp} (h : KvOk t) (k : ByteArray) : (!eqE (entO t k) noEn) = isO t k := by
  rcases h.some_key k with ⟨h1, h2⟩ | ⟨h1, h2⟩
  · rw [h1, eqE_ne fun e => by rw [e] at h2; exact absurd h2 (by decide)]
    rfl
  · rw [h1, (eqE_iff _ _).2 h2]
    rfl
set_option maxHeartbeats 2000000 in
theorem kset_any {S : Nat → Prop} {w : World} {B Bt : Nat} {t : Tb Kp} (key v : ByteArray) (i : Nat) (h : KvAt S w B Bt t) (hM : MaxIs w) (hi : i < 18446744073709551616) (hk : key.size ≤ maxLen) (hv : v.size ≤ maxLen) :
    Calls Tryd.prog 12 #[.pointer (some ⟨B, 0, none⟩), .string key, .string v, .int .u64 (i : Int)] w fun e w' => e = .returned (.int .i64 ((kSet t key v i).1 : Int)) ∧ KvAt (fun k => S k ∨ w.heap.size ≤ k) w' B Bt (kSet t key v i).2 ∧ But (· = Bt) w w' := by
  have HH := Lib.hid h
  have HM := Lib.hid hM
  have HI := Lib.hid hi
  have HK := Lib.hid hk
  have HOk : Hid (KvOk (kSet t key v i).2) := Lib.hid (h.ok.set hk hi)
  have HV := Lib.hid hv
  clear hv
  clear h hM hi hk
  obtain ⟨P1, hP1⟩ : ∃ P1, w.heap.size = P1 := ⟨_, rfl⟩
  have C1 := Lib.hid (short_at v w)
  rw [hP1] at C1
  have QhP1 := Lib.hid hP1
  clear hP1
  go_enter Tryd.func12, Tryd.ntmps12
  go_wp2_with fail
  refine C1.out.mono ?_
  rintro e1 v1 ⟨rfl, kP1, s1⟩
  have hP1 := QhP1.out
  clear QhP1
  rw [← hP1] at s1
  obtain ⟨Z, hZ⟩ : ∃ Z, v1.heap.size = Z := ⟨_, rfl⟩
  obtain ⟨v2, hv2⟩ : ∃ v2, v1.alloc (.cells #[.func (.func 60) #[] #[.pointer (some ⟨P1, 0, none⟩)], .int .i64 3] TCk) = v2 := ⟨_, rfl⟩
  have s2 : Below v1.heap.size v1 v2 := by rw [← hv2]; exact below1 _ _ _
  have kZ : v2.heap[Z]? = some (.cells #[.func (.func 60) #[] #[.pointer (some ⟨P1, 0, none⟩)], .int .i64 3] TCk (0, 0)) := by rw [← hv2, ← hZ]; exact heap_alloc_new _ _
  obtain ⟨P3, hP3⟩ : ∃ P3, v2.heap.size = P3 := ⟨_, rfl⟩
  have C3 := Lib.hid (with_at v v2)
  rw [hP3] at C3
  have QhP1 := Lib.hid hP1
  have QkP1 := Lib.hid kP1
  have Qs1 := Lib.hid s1
  have QhZ := Lib.hid hZ
  have Qhv2 := Lib.hid hv2
  have Qs2 := Lib.hid s2
  have QkZ := Lib.hid kZ
  have QhP3 := Lib.hid hP3
  clear hP1 kP1 s1 hZ hv2 s2 kZ hP3
  go_wp2_with fail
  rw [Qhv2.out, QhZ.out]
  refine C3.out.mono ?_
  rintro e3 v3 ⟨rfl, kP3, s3⟩
  have hP1 := QhP1.out
  have kP1 := QkP1.out
  have s1 := Qs1.out
  have hZ := QhZ.out
  have hv2 := Qhv2.out
  have s2 := Qs2.out
  have kZ := QkZ.out
  have hP3 := QhP3.out
  clear QhP1 QkP1 Qs1 QhZ Qhv2 Qs2 QkZ QhP3
  rw [← hP3] at s3
  have t3 : Below v3.heap.size v3 v3 := Below.refl _ _
  have t2 : Below v2.heap.size v2 v3 := step_trans s3 t3
  have t1 : Below v1.heap.size v1 v3 := step_trans s2 t2
  have t0 : Below w.heap.size w v3 := step_trans s1 t1
  have KP1 := ((t1.block P1 (block_lt kP1)).trans kP1)
  have KZ := ((t2.block Z (block_lt kZ)).trans kZ)
  have KP3 := ((t3.block P3 (block_lt kP3)).trans kP3)
  have hk0 := HH.out.ok
  have hsc : modK t key i (saidOf [⟨.func (.func 60) #[] #[.pointer (some ⟨P1, 0, none⟩)], 3, fun e => decide (v.size ≤ 64)⟩] (entO t key)) (some { (entO t key).val with v := v }) = kSet t key v i := by
    unfold kSet
    rfl
  have hokm := HOk.out
  rw [← hsc] at hokm
  have HMod := Lib.hid (modify_any key i [⟨.func (.func 60) #[] #[.pointer (some ⟨P1, 0, none⟩)], 3, fun e => decide (v.size ≤ 64)⟩] (some ⟨Z, 0, none⟩) 1 (.func (.func 61) #[] #[.pointer (some ⟨P3, 0, none⟩)]) ({ entO t key with key := key, val := { (entO t key).val with v := v } }) (some { (entO t key).val with v := v }) (HH.out.below t0) (HM.out.keep t0) HI.out HK.out (SK.cks KZ rfl) (fun e => by cases e) (fun e => by cases e) (by simp) (by
    intro ck hm
    simp only [List.mem_cons, List.not_mem_nil, or_false] at hm
    rcases hm with rfl
    · exact ⟨Does.of (enters_of Tryd.func60 (by kernel_rfl) rfl) fun W hW => short1_any v P1 _ W ((hW.block P1 (block_lt KP1)).trans KP1) HV.out, by show 0 < 3; decide, by show 3 < 100; decide, rfl⟩) (Does.of (enters_of Tryd.func61 (by kernel_rfl) rfl) fun W hW => with1_any v P3 _ W ((hW.block P3 (block_lt KP3)).trans KP3)) ⟨rfl, rfl⟩ hokm)
  rw [hsc] at HMod
  have HB := Lib.hid t0
  have QhP1 := Lib.hid hP1
  have QkP1 := Lib.hid kP1
  have Qs1 := Lib.hid s1
  have QhZ := Lib.hid hZ
  have Qhv2 := Lib.hid hv2
  have Qs2 := Lib.hid s2
  have QkZ := Lib.hid kZ
  have QhP3 := Lib.hid hP3
  have QkP3 := Lib.hid kP3
  have Qs3 := Lib.hid s3
  have Qt3 := Lib.hid t3
  have Qt2 := Lib.hid t2
  have Qt1 := Lib.hid t1
  have Qt0 := Lib.hid t0
  have QKP1 := Lib.hid KP1
  have QKZ := Lib.hid KZ
  have QKP3 := Lib.hid KP3
  have Qhk0 := Lib.hid hk0
  have Qhsc := Lib.hid hsc
  have Qhokm := Lib.hid hokm
  clear hP1 kP1 s1 hZ hv2 s2 kZ hP3 kP3 s3 t3 t2 t1 t0 KP1 KZ KP3 hk0 hsc hokm
  go_wp2_with fail
  refine HMod.out.mono ?_
  rintro e8 w8 ⟨rfl, hk8, hb8⟩
  have H8 := Lib.hid (And.intro hk8 hb8)
  clear hk8 hb8 HMod
  go_wp2
  go_ret
  refine ⟨rfl, H8.out.1.narrow fun k _ z => ?_, (But.of_below HB.out).trans H8.out.2⟩
  rcases z with z | z
  · exact .inl z
  · have h1 := HB.out.size
    exact .inr (by omega)
set_option maxHeartbeats 2000000 in
theorem kcas_any {S : Nat → Prop} {w : World} {B Bt : Nat} {t : Tb Kp} (key v : ByteArray) (old : Nat) (i : Nat) (h : KvAt S w B Bt t) (hM : MaxIs w) (hi : i < 18446744073709551616) (hk : key.size ≤ maxLen) (hv : v.size ≤ maxLen) :
    Calls Tryd.prog 13 #[.pointer (some ⟨B, 0, none⟩), .string key, .string v, .int .u64 (old : Int), .int .u64 (i : Int)] w fun e w' => e = .returned (.int .i64 ((kCas t key v old i).1 : Int)) ∧ KvAt (fun k => S k ∨ w.heap.size ≤ k) w' B Bt (kCas t key v old i).2 ∧ But (· = Bt) w w' := by
  have HH := Lib.hid h
  have HM := Lib.hid hM
  have HI := Lib.hid hi
  have HK := Lib.hid hk
  have HOk : Hid (KvOk (kCas t key v old i).2) := Lib.hid (h.ok.cas hk hi)
  have HV := Lib.hid hv
  clear hv
  clear h hM hi hk
  obtain ⟨X1, hX1⟩ : ∃ X1, w.heap.size = X1 := ⟨_, rfl⟩
  obtain ⟨v1, hv1⟩ : ∃ v1, w.alloc (.cells #[.int .u64 (old : Int)] 23) = v1 := ⟨_, rfl⟩
  have s1 : Below w.heap.size w v1 := by rw [← hv1]; exact below1 _ _ _
  have kX1 : v1.heap[X1]? = some (.cells #[.int .u64 (old : Int)] 23 (0, 0)) := by rw [← hv1, ← hX1]; exact heap_alloc_new _ _
  obtain ⟨P1, hP1⟩ : ∃ P1, v1.heap.size = P1 := ⟨_, rfl⟩
  have C2 := Lib.hid (short_at v v1)
  rw [hP1] at C2
  have QhX1 := Lib.hid hX1
  have Qhv1 := Lib.hid hv1
  have Qs1 := Lib.hid s1
  have QkX1 := Lib.hid kX1
  have QhP1 := Lib.hid hP1
  clear hX1 hv1 s1 kX1 hP1
  go_enter Tryd.func13, Tryd.ntmps13
  go_wp2_with fail
  rw [Qhv1.out, QhX1.out]
  refine C2.out.mono ?_
  rintro e2 v2 ⟨rfl, kP1, s2⟩
  have hX1 := QhX1.out
  have hv1 := Qhv1.out
  have s1 := Qs1.out
  have kX1 := QkX1.out
  have hP1 := QhP1.out
  clear QhX1 Qhv1 Qs1 QkX1 QhP1
  rw [← hP1] at s2
  obtain ⟨Z, hZ⟩ : ∃ Z, v2.heap.size = Z := ⟨_, rfl⟩
  obtain ⟨v3, hv3⟩ : ∃ v3, v2.alloc (.cells #[.func (.func 60) #[] #[.pointer (some ⟨P1, 0, none⟩)], .int .i64 3, .func (.func 36) #[] #[.pointer (some ⟨X1, 0, none⟩)], .int .i64 21] TCk) = v3 := ⟨_, rfl⟩
  have s3 : Below v2.heap.size v2 v3 := by rw [← hv3]; exact below1 _ _ _
  have kZ : v3.heap[Z]? = some (.cells #[.func (.func 60) #[] #[.pointer (some ⟨P1, 0, none⟩)], .int .i64 3, .func (.func 36) #[] #[.pointer (some ⟨X1, 0, none⟩)], .int .i64 21] TCk (0, 0)) := by rw [← hv3, ← hZ]; exact heap_alloc_new _ _
  obtain ⟨P3, hP3⟩ : ∃ P3, v3.heap.size = P3 := ⟨_, rfl⟩
  have C4 := Lib.hid (with_at v v3)
  rw [hP3] at C4
  have QhX1 := Lib.hid hX1
  have Qhv1 := Lib.hid hv1
  have Qs1 := Lib.hid s1
  have QkX1 := Lib.hid kX1
  have QhP1 := Lib.hid hP1
  have QkP1 := Lib.hid kP1
  have Qs2 := Lib.hid s2
  have QhZ := Lib.hid hZ
  have Qhv3 := Lib.hid hv3
  have Qs3 := Lib.hid s3
  have QkZ := Lib.hid kZ
  have QhP3 := Lib.hid hP3
  clear hX1 hv1 s1 kX1 hP1 kP1 s2 hZ hv3 s3 kZ hP3
  go_wp2_with fail
  rw [Qhv3.out, QhZ.out]
  refine C4.out.mono ?_
  rintro e4 v4 ⟨rfl, kP3, s4⟩
  have hX1 := QhX1.out
  have hv1 := Qhv1.out
  have s1 := Qs1.out
  have kX1 := QkX1.out
  have hP1 := QhP1.out
  have kP1 := QkP1.out
  have s2 := Qs2.out
  have hZ := QhZ.out
  have hv3 := Qhv3.out
  have s3 := Qs3.out
  have kZ := QkZ.out
  have hP3 := QhP3.out
  clear QhX1 Qhv1 Qs1 QkX1 QhP1 QkP1 Qs2 QhZ Qhv3 Qs3 QkZ QhP3
  rw [← hP3] at s4
  have t4 : Below v4.heap.size v4 v4 := Below.refl _ _
  have t3 : Below v3.heap.size v3 v4 := step_trans s4 t4
  have t2 : Below v2.heap.size v2 v4 := step_trans s3 t3
  have t1 : Below v1.heap.size v1 v4 := step_trans s2 t2
  have t0 : Below w.heap.size w v4 := step_trans s1 t1
  have KX1 := ((t1.block X1 (block_lt kX1)).trans kX1)
  have KP1 := ((t2.block P1 (block_lt kP1)).trans kP1)
  have KZ := ((t3.block Z (block_lt kZ)).trans kZ)
  have KP3 := ((t4.block P3 (block_lt kP3)).trans kP3)
  have hk0 := HH.out.ok
  have hsc : modK t key i (saidOf [⟨.func (.func 60) #[] #[.pointer (some ⟨P1, 0, none⟩)], 3, fun e => decide (v.size ≤ 64)⟩, ⟨.func (.func 36) #[] #[.pointer (some ⟨X1, 0, none⟩)], 21, fun e => (!eqE e noEn) == (old != 0) && e.ix == old⟩] (entO t key)) (some { (entO t key).val with v := v }) = kCas t key v old i := by
    unfold kCas
    rw [← isO_there hk0 key]; rfl
  have hokm := HOk.out
  rw [← hsc] at hokm
  have HMod := Lib.hid (modify_any key i [⟨.func (.func 60) #[] #[.pointer (some ⟨P1, 0, none⟩)], 3, fun e => decide (v.size ≤ 64)⟩, ⟨.func (.func 36) #[] #[.pointer (some ⟨X1, 0, none⟩)], 21, fun e => (!eqE e noEn) == (old != 0) && e.ix == old⟩] (some ⟨Z, 0, none⟩) 2 (.func (.func 61) #[] #[.pointer (some ⟨P3, 0, none⟩)]) ({ entO t key with key := key, val := { (entO t key).val with v := v } }) (some { (entO t key).val with v := v }) (HH.out.below t0) (HM.out.keep t0) HI.out HK.out (SK.cks KZ rfl) (fun e => by cases e) (fun e => by cases e) (by simp) (by
    intro ck hm
    simp only [List.mem_cons, List.not_mem_nil, or_false] at hm
    rcases hm with rfl | rfl
    · exact ⟨Does.of (enters_of Tryd.func60 (by kernel_rfl) rfl) fun W hW => short1_any v P1 _ W ((hW.block P1 (block_lt KP1)).trans KP1) HV.out, by show 0 < 3; decide, by show 3 < 100; decide, rfl⟩
    · exact ⟨Does.of (enters_of Tryd.func36 (by kernel_rfl) rfl) fun W hW => cas1_any old X1 _ W ((hW.block X1 (block_lt KX1)).trans KX1), by show 0 < 21; decide, by show 21 < 100; decide, rfl⟩) (Does.of (enters_of Tryd.func61 (by kernel_rfl) rfl) fun W hW => with1_any v P3 _ W ((hW.block P3 (block_lt KP3)).trans KP3)) ⟨rfl, rfl⟩ hokm)
  rw [hsc] at HMod
  have HB := Lib.hid t0
  have QhX1 := Lib.hid hX1
  have Qhv1 := Lib.hid hv1
  have Qs1 := Lib.hid s1
  have QkX1 := Lib.hid kX1
  have QhP1 := Lib.hid hP1
  have QkP1 := Lib.hid kP1
  have Qs2 := Lib.hid s2
  have QhZ := Lib.hid hZ
  have Qhv3 := Lib.hid hv3
  have Qs3 := Lib.hid s3
  have QkZ := Lib.hid kZ
  have QhP3 := Lib.hid hP3
  have QkP3 := Lib.hid kP3
  have Qs4 := Lib.hid s4
  have Qt4 := Lib.hid t4
  have Qt3 := Lib.hid t3
  have Qt2 := Lib.hid t2
  have Qt1 := Lib.hid t1
  have Qt0 := Lib.hid t0
  have QKX1 := Lib.hid KX1
  have QKP1 := Lib.hid KP1
  have QKZ := Lib.hid KZ
  have QKP3 := Lib.hid KP3
  have Qhk0 := Lib.hid hk0
  have Qhsc := Lib.hid hsc
  have Qhokm := Lib.hid hokm
  clear hX1 hv1 s1 kX1 hP1 kP1 s2 hZ hv3 s3 kZ hP3 kP3 s4 t4 t3 t2 t1 t0 KX1 KP1 KZ KP3 hk0 hsc hokm
  go_wp2_with fail
  refine HMod.out.mono ?_
  rintro e8 w8 ⟨rfl, hk8, hb8⟩
  have H8 := Lib.hid (And.intro hk8 hb8)
  clear hk8 hb8 HMod
  go_wp2
  go_ret
  refine ⟨rfl, H8.out.1.narrow fun k _ z => ?_, (But.of_below HB.out).trans H8.out.2⟩
  rcases z with z | z
  · exact .inl z
  · have h1 := HB.out.size
    exact .inr (by omega)
set_option maxHeartbeats 2000000 in
theorem kdel_any {S : Nat → Prop} {w : World} {B Bt : Nat} {t : Tb Kp} (key : ByteArray) (i : Nat) (h : KvAt S w B Bt t) (hM : MaxIs w) (hi : i < 18446744073709551616) (hk : key.size ≤ maxLen) :
    Calls Tryd.prog 14 #[.pointer (some ⟨B, 0, none⟩), .string key, .int .u64 (i : Int)] w fun e w' => e = .returned (.int .i64 ((kDel t key i).1 : Int)) ∧ KvAt (fun k => S k ∨ w.heap.size ≤ k) w' B Bt (kDel t key i).2 ∧ But (· = Bt) w w' := by
  have HH := Lib.hid h
  have HM := Lib.hid hM
  have HI := Lib.hid hi
  have HK := Lib.hid hk
  have HOk : Hid (KvOk (kDel t key i).2) := Lib.hid (h.ok.del hk hi)
  clear h hM hi hk
  obtain ⟨Z, hZ⟩ : ∃ Z, w.heap.size = Z := ⟨_, rfl⟩
  obtain ⟨v1, hv1⟩ : ∃ v1, w.alloc (.cells #[.func (.func 37) #[] #[], .int .i64 4] TCk) = v1 := ⟨_, rfl⟩
  have s1 : Below w.heap.size w v1 := by rw [← hv1]; exact below1 _ _ _
  have kZ : v1.heap[Z]? = some (.cells #[.func (.func 37) #[] #[], .int .i64 4] TCk (0, 0)) := by rw [← hv1, ← hZ]; exact heap_alloc_new _ _
  have t1 : Below v1.heap.size v1 v1 := Below.refl _ _
  have t0 : Below w.heap.size w v1 := step_trans s1 t1
  have KZ := ((t1.block Z (block_lt kZ)).trans kZ)
  have hk0 := HH.out.ok
  have hsc : modK t key i (saidOf [⟨.func (.func 37) #[] #[], 4, fun e => !eqE e noEn⟩] (entO t key)) (none) = kDel t key i := by
    unfold kDel
    rw [← isO_there hk0 key]; rfl
  have hokm := HOk.out
  rw [← hsc] at hokm
  have HMod := Lib.hid (modify_any key i [⟨.func (.func 37) #[] #[], 4, fun e => !eqE e noEn⟩] (some ⟨Z, 0, none⟩) 1 (.func (.func 38) #[] #[]) (noEn) (none) (HH.out.below t0) (HM.out.keep t0) HI.out HK.out (SK.cks KZ rfl) (fun e => by cases e) (fun e => by cases e) (by simp) (by
    intro ck hm
    simp only [List.mem_cons, List.not_mem_nil, or_false] at hm
    rcases hm with rfl
    · exact ⟨Does.of (enters_of Tryd.func37 (by kernel_rfl) rfl) fun W hW => there_any _ W, by show 0 < 4; decide, by show 4 < 100; decide, rfl⟩) (Does.of (enters_of Tryd.func38 (by kernel_rfl) rfl) fun W hW => gone_any _ W) rfl hokm)
  rw [hsc] at HMod
  have HB := Lib.hid t0
  have QhZ := Lib.hid hZ
  have Qhv1 := Lib.hid hv1
  have Qs1 := Lib.hid s1
  have QkZ := Lib.hid kZ
  have Qt1 := Lib.hid t1
  have Qt0 := Lib.hid t0
  have QKZ := Lib.hid KZ
  have Qhk0 := Lib.hid hk0
  have Qhsc := Lib.hid hsc
  have Qhokm := Lib.hid hokm
  clear hZ hv1 s1 kZ t1 t0 KZ hk0 hsc hokm
  go_enter Tryd.func14, Tryd.ntmps14
  go_wp2_with fail
  rw [Qhv1.out, QhZ.out]
  refine HMod.out.mono ?_
  rintro e8 w8 ⟨rfl, hk8, hb8⟩
  have H8 := Lib.hid (And.intro hk8 hb8)
  clear hk8 hb8 HMod
  go_wp2
  go_ret
  refine ⟨rfl, H8.out.1.narrow fun k _ z => ?_, (But.of_below HB.out).trans H8.out.2⟩
  rcases z with z | z
  · exact .inl z
  · have h1 := HB.out.size
    exact .inr (by omega)
set_option maxHeartbeats 2000000 in
theorem kdelCas_any {S : Nat → Prop} {w : World} {B Bt : Nat} {t : Tb Kp} (key : ByteArray) (old : Nat) (i : Nat) (h : KvAt S w B Bt t) (hM : MaxIs w) (hi : i < 18446744073709551616) (hk : key.size ≤ maxLen) :
    Calls Tryd.prog 15 #[.pointer (some ⟨B, 0, none⟩), .string key, .int .u64 (old : Int), .int .u64 (i : Int)] w fun e w' => e = .returned (.int .i64 ((kDelCas t key old i).1 : Int)) ∧ KvAt (fun k => S k ∨ w.heap.size ≤ k) w' B Bt (kDelCas t key old i).2 ∧ But (· = Bt) w w' := by
  have HH := Lib.hid h
  have HM := Lib.hid hM
  have HI := Lib.hid hi
  have HK := Lib.hid hk
  have HOk : Hid (KvOk (kDelCas t key old i).2) := Lib.hid (h.ok.delCas hk hi)
  clear h hM hi hk
  obtain ⟨X1, hX1⟩ : ∃ X1, w.heap.size = X1 := ⟨_, rfl⟩
  obtain ⟨v1, hv1⟩ : ∃ v1, w.alloc (.cells #[.int .u64 (old : Int)] 23) = v1 := ⟨_, rfl⟩
  have s1 : Below w.heap.size w v1 := by rw [← hv1]; exact below1 _ _ _
  have kX1 : v1.heap[X1]? = some (.cells #[.int .u64 (old : Int)] 23 (0, 0)) := by rw [← hv1, ← hX1]; exact heap_alloc_new _ _
  obtain ⟨Z, hZ⟩ : ∃ Z, v1.heap.size = Z := ⟨_, rfl⟩
  obtain ⟨v2, hv2⟩ : ∃ v2, v1.alloc (.cells #[.func (.func 37) #[] #[], .int .i64 4, .func (.func 39) #[] #[.pointer (some ⟨X1, 0, none⟩)], .int .i64 21] TCk) = v2 := ⟨_, rfl⟩
  have s2 : Below v1.heap.size v1 v2 := by rw [← hv2]; exact below1 _ _ _
  have kZ : v2.heap[Z]? = some (.cells #[.func (.func 37) #[] #[], .int .i64 4, .func (.func 39) #[] #[.pointer (some ⟨X1, 0, none⟩)], .int .i64 21] TCk (0, 0)) := by rw [← hv2, ← hZ]; exact heap_alloc_new _ _
  have gZ : X1 + 1 = Z := by rw [← hZ, ← hv1]; simp [hX1]
  have t2 : Below v2.heap.size v2 v2 := Below.refl _ _
  have t1 : Below v1.heap.size v1 v2 := step_trans s2 t2
  have t0 : Below w.heap.size w v2 := step_trans s1 t1
  have KX1 := ((t1.block X1 (block_lt kX1)).trans kX1)
  have KZ := ((t2.block Z (block_lt kZ)).trans kZ)
  have hk0 := HH.out.ok
  have hsc : modK t key i (saidOf [⟨.func (.func 37) #[] #[], 4, fun e => !eqE e noEn⟩, ⟨.func (.func 39) #[] #[.pointer (some ⟨X1, 0, none⟩)], 21, fun e => e.ix == old⟩] (entO t key)) (none) = kDelCas t key old i := by
    unfold kDelCas
    rw [← isO_there hk0 key]; rfl
  have hokm := HOk.out
  rw [← hsc] at hokm
  have HMod := Lib.hid (modify_any key i [⟨.func (.func 37) #[] #[], 4, fun e => !eqE e noEn⟩, ⟨.func (.func 39) #[] #[.pointer (some ⟨X1, 0, none⟩)], 21, fun e => e.ix == old⟩] (some ⟨Z, 0, none⟩) 2 (.func (.func 38) #[] #[]) (noEn) (none) (HH.out.below t0) (HM.out.keep t0) HI.out HK.out (SK.cks KZ rfl) (fun e => by cases e) (fun e => by cases e) (by simp) (by
    intro ck hm
    simp only [List.mem_cons, List.not_mem_nil, or_false] at hm
    rcases hm with rfl | rfl
    · exact ⟨Does.of (enters_of Tryd.func37 (by kernel_rfl) rfl) fun W hW => there_any _ W, by show 0 < 4; decide, by show 4 < 100; decide, rfl⟩
    · exact ⟨Does.of (enters_of Tryd.func39 (by kernel_rfl) rfl) fun W hW => dcas1_any old X1 _ W ((hW.block X1 (block_lt KX1)).trans KX1), by show 0 < 21; decide, by show 21 < 100; decide, rfl⟩) (Does.of (enters_of Tryd.func38 (by kernel_rfl) rfl) fun W hW => gone_any _ W) rfl hokm)
  rw [hsc] at HMod
  have HB := Lib.hid t0
  have QhX1 := Lib.hid hX1
  have Qhv1 := Lib.hid hv1
  have Qs1 := Lib.hid s1
  have QkX1 := Lib.hid kX1
  have QhZ := Lib.hid hZ
  have Qhv2 := Lib.hid hv2
  have Qs2 := Lib.hid s2
  have QkZ := Lib.hid kZ
  have QgZ := Lib.hid gZ
  have Qt2 := Lib.hid t2
  have Qt1 := Lib.hid t1
  have Qt0 := Lib.hid t0
  have QKX1 := Lib.hid KX1
  have QKZ := Lib.hid KZ
  have Qhk0 := Lib.hid hk0
  have Qhsc := Lib.hid hsc
  have Qhokm := Lib.hid hokm
  clear hX1 hv1 s1 kX1 hZ hv2 s2 kZ gZ t2 t1 t0 KX1 KZ hk0 hsc hokm
  go_enter Tryd.func15, Tryd.ntmps15
  go_wp2_with fail
  rw [Qhv1.out, QhX1.out, Qhv2.out, QgZ.out]
  refine HMod.out.mono ?_
  rintro e8 w8 ⟨rfl, hk8, hb8⟩
  have H8 := Lib.hid (And.intro hk8 hb8)
  clear hk8 hb8 HMod
  go_wp2
  go_ret
  refine ⟨rfl, H8.out.1.narrow fun k _ z => ?_, (But.of_below HB.out).trans H8.out.2⟩
  rcases z with z | z
  · exact .inl z
  · have h1 := HB.out.size
    exact .inr (by omega)
set_option maxHeartbeats 2000000 in
theorem klock_any {S : Nat → Prop} {w : World} {B Bt : Nat} {t : Tb Kp} (key v : ByteArray) (s : Nat) (i : Nat) (h : KvAt S w B Bt t) (hM : MaxIs w) (hi : i < 18446744073709551616) (hk : key.size ≤ maxLen) (hv : v.size ≤ maxLen) (hx : s < 18446744073709551616) :
    Calls Tryd.prog 16 #[.pointer (some ⟨B, 0, none⟩), .string key, .string v, .int .u64 (s : Int), .int .u64 (i : Int)] w fun e w' => e = .returned (.int .i64 ((kLock t key v s i).1 : Int)) ∧ KvAt (fun k => S k ∨ w.heap.size ≤ k) w' B Bt (kLock t key v s i).2 ∧ But (· = Bt) w w' := by
  have HH := Lib.hid h
  have HM := Lib.hid hM
  have HI := Lib.hid hi
  have HK := Lib.hid hk
  have HOk : Hid (KvOk (kLock t key v s i).2) := Lib.hid (h.ok.lock hk hi hx)
  have HV := Lib.hid hv
  clear hv
  clear h hM hi hk
  obtain ⟨X1, hX1⟩ : ∃ X1, w.heap.size = X1 := ⟨_, rfl⟩
  obtain ⟨v1, hv1⟩ : ∃ v1, w.alloc (.cells #[.string v] 9) = v1 := ⟨_, rfl⟩
  have s1 : Below w.heap.size w v1 := by rw [← hv1]; exact below1 _ _ _
  have kX1 : v1.heap[X1]? = some (.cells #[.string v] 9 (0, 0)) := by rw [← hv1, ← hX1]; exact heap_alloc_new _ _
  obtain ⟨X2, hX2⟩ : ∃ X2, v1.heap.size = X2 := ⟨_, rfl⟩
  obtain ⟨v2, hv2⟩ : ∃ v2, v1.alloc (.cells #[.int .u64 (s : Int)] 23) = v2 := ⟨_, rfl⟩
  have s2 : Below v1.heap.size v1 v2 := by rw [← hv2]; exact below1 _ _ _
  have kX2 : v2.heap[X2]? = some (.cells #[.int .u64 (s : Int)] 23 (0, 0)) := by rw [← hv2, ← hX2]; exact heap_alloc_new _ _
  have gX2 : X1 + 1 = X2 := by rw [← hX2, ← hv1]; simp [hX1]
  obtain ⟨P1, hP1⟩ : ∃ P1, v2.heap.size = P1 := ⟨_, rfl⟩
  have C3 := Lib.hid (short_at v v2)
  rw [hP1] at C3
  have QhX1 := Lib.hid hX1
  have Qhv1 := Lib.hid hv1
  have Qs1 := Lib.hid s1
  have QkX1 := Lib.hid kX1
  have QhX2 := Lib.hid hX2
  have Qhv2 := Lib.hid hv2
  have Qs2 := Lib.hid s2
  have QkX2 := Lib.hid kX2
  have QgX2 := Lib.hid gX2
  have QhP1 := Lib.hid hP1
  clear hX1 hv1 s1 kX1 hX2 hv2 s2 kX2 gX2 hP1
  go_enter Tryd.func16, Tryd.ntmps16
  go_wp2_with fail
  rw [Qhv1.out, QhX1.out, Qhv2.out, QgX2.out]
  refine C3.out.mono ?_
  rintro e3 v3 ⟨rfl, kP1, s3⟩
  have hX1 := QhX1.out
  have hv1 := Qhv1.out
  have s1 := Qs1.out
  have kX1 := QkX1.out
  have hX2 := QhX2.out
  have hv2 := Qhv2.out
  have s2 := Qs2.out
  have kX2 := QkX2.out
  have gX2 := QgX2.out
  have hP1 := QhP1.out
  clear QhX1 Qhv1 Qs1 QkX1 QhX2 Qhv2 Qs2 QkX2 QgX2 QhP1
  rw [← hP1] at s3
  obtain ⟨Z, hZ⟩ : ∃ Z, v3.heap.size = Z := ⟨_, rfl⟩
  obtain ⟨v4, hv4⟩ : ∃ v4, v3.alloc (.cells #[.func (.func 60) #[] #[.pointer (some ⟨P1, 0, none⟩)], .int .i64 3, .func (.func 40) #[] #[.pointer (some ⟨X2, 0, none⟩)], .int .i64 2, .func (.func 41) #[] #[.pointer (some ⟨X2, 0, none⟩)], .int .i64 22] TCk) = v4 := ⟨_, rfl⟩
  have s4 : Below v3.heap.size v3 v4 := by rw [← hv4]; exact below1 _ _ _
  have kZ : v4.heap[Z]? = some (.cells #[.func (.func 60) #[] #[.pointer (some ⟨P1, 0, none⟩)], .int .i64 3, .func (.func 40) #[] #[.pointer (some ⟨X2, 0, none⟩)], .int .i64 2, .func (.func 41) #[] #[.pointer (some ⟨X2, 0, none⟩)], .int .i64 22] TCk (0, 0)) := by rw [← hv4, ← hZ]; exact heap_alloc_new _ _
  have t4 : Below v4.heap.size v4 v4 := Below.refl _ _
  have t3 : Below v3.heap.size v3 v4 := step_trans s4 t4
  have t2 : Below v2.heap.size v2 v4 := step_trans s3 t3
  have t1 : Below v1.heap.size v1 v4 := step_trans s2 t2
  have t0 : Below w.heap.size w v4 := step_trans s1 t1
  have KX1 := ((t1.block X1 (block_lt kX1)).trans kX1)
  have KX2 := ((t2.block X2 (block_lt kX2)).trans kX2)
  have KP1 := ((t3.block P1 (block_lt kP1)).trans kP1)
  have KZ := ((t4.block Z (block_lt kZ)).trans kZ)
  have hk0 := HH.out.ok
  have hsc : modK t key i (saidOf [⟨.func (.func 60) #[] #[.pointer (some ⟨P1, 0, none⟩)], 3, fun e => decide (v.size ≤ 64)⟩, ⟨.func (.func 40) #[] #[.pointer (some ⟨X2, 0, none⟩)], 2, fun e => s != 0⟩, ⟨.func (.func 41) #[] #[.pointer (some ⟨X2, 0, none⟩)], 22, fun e => e.val.ses == 0 || e.val.ses == s⟩] (entO t key)) (some ⟨v, s, if (entO t key).val.ses == s then (entO t key).val.lck else ((entO t key).val.lck + 1) % 18446744073709551616⟩) = kLock t key v s i := by
    unfold kLock
    rfl
  have hokm := HOk.out
  rw [← hsc] at hokm
  have HMod := Lib.hid (modify_any key i [⟨.func (.func 60) #[] #[.pointer (some ⟨P1, 0, none⟩)], 3, fun e => decide (v.size ≤ 64)⟩, ⟨.func (.func 40) #[] #[.pointer (some ⟨X2, 0, none⟩)], 2, fun e => s != 0⟩, ⟨.func (.func 41) #[] #[.pointer (some ⟨X2, 0, none⟩)], 22, fun e => e.val.ses == 0 || e.val.ses == s⟩] (some ⟨Z, 0, none⟩) 3 (.func (.func 42) #[] #[.pointer (some ⟨X2, 0, none⟩), .pointer (some ⟨X1, 0, none⟩)]) ({ entO t key with key := key, val := ⟨v, s, if (entO t key).val.ses == s then (entO t key).val.lck else ((entO t key).val.lck + 1) % 18446744073709551616⟩ }) (some ⟨v, s, if (entO t key).val.ses == s then (entO t key).val.lck else ((entO t key).val.lck + 1) % 18446744073709551616⟩) (HH.out.below t0) (HM.out.keep t0) HI.out HK.out (SK.cks KZ rfl) (fun e => by cases e) (fun e => by cases e) (by simp) (by
    intro ck hm
    simp only [List.mem_cons, List.not_mem_nil, or_false] at hm
    rcases hm with rfl | rfl | rfl
    · exact ⟨Does.of (enters_of Tryd.func60 (by kernel_rfl) rfl) fun W hW => short1_any v P1 _ W ((hW.block P1 (block_lt KP1)).trans KP1) HV.out, by show 0 < 3; decide, by show 3 < 100; decide, rfl⟩
    · exact ⟨Does.of (enters_of Tryd.func40 (by kernel_rfl) rfl) fun W hW => lock1_any s X2 _ W ((hW.block X2 (block_lt KX2)).trans KX2), by show 0 < 2; decide, by show 2 < 100; decide, rfl⟩
    · exact ⟨Does.of (enters_of Tryd.func41 (by kernel_rfl) rfl) fun W hW => lock2_any s X2 _ W ((hW.block X2 (block_lt KX2)).trans KX2), by show 0 < 22; decide, by show 22 < 100; decide, rfl⟩) (Does.of (enters_of Tryd.func42 (by kernel_rfl) rfl) fun W hW => lock3_any s v X2 X1 _ W ((hW.block X2 (block_lt KX2)).trans KX2) ((hW.block X1 (block_lt KX1)).trans KX1)) ⟨rfl, rfl⟩ hokm)
  rw [hsc] at HMod
  have HB := Lib.hid t0
  have QhX1 := Lib.hid hX1
  have Qhv1 := Lib.hid hv1
  have Qs1 := Lib.hid s1
  have QkX1 := Lib.hid kX1
  have QhX2 := Lib.hid hX2
  have Qhv2 := Lib.hid hv2
  have Qs2 := Lib.hid s2
  have QkX2 := Lib.hid kX2
  have QgX2 := Lib.hid gX2
  have QhP1 := Lib.hid hP1
  have QkP1 := Lib.hid kP1
  have Qs3 := Lib.hid s3
  have QhZ := Lib.hid hZ
  have Qhv4 := Lib.hid hv4
  have Qs4 := Lib.hid s4
  have QkZ := Lib.hid kZ
  have Qt4 := Lib.hid t4
  have Qt3 := Lib.hid t3
  have Qt2 := Lib.hid t2
  have Qt1 := Lib.hid t1
  have Qt0 := Lib.hid t0
  have QKX1 := Lib.hid KX1
  have QKX2 := Lib.hid KX2
  have QKP1 := Lib.hid KP1
  have QKZ := Lib.hid KZ
  have Qhk0 := Lib.hid hk0
  have Qhsc := Lib.hid hsc
  have Qhokm := Lib.hid hokm
  clear hX1 hv1 s1 kX1 hX2 hv2 s2 kX2 gX2 hP1 kP1 s3 hZ hv4 s4 kZ t4 t3 t2 t1 t0 KX1 KX2 KP1 KZ hk0 hsc hokm
  go_wp2_with fail
  rw [Qhv4.out, QhZ.out]
  refine HMod.out.mono ?_
  rintro e8 w8 ⟨rfl, hk8, hb8⟩
  have H8 := Lib.hid (And.intro hk8 hb8)
  clear hk8 hb8 HMod
  go_wp2
  go_ret
  refine ⟨rfl, H8.out.1.narrow fun k _ z => ?_, (But.of_below HB.out).trans H8.out.2⟩
  rcases z with z | z
  · exact .inl z
  · have h1 := HB.out.size
    exact .inr (by omega)
set_option maxHeartbeats 2000000 in
theorem kunlock_any {S : Nat → Prop} {w : World} {B Bt : Nat} {t : Tb Kp} (key v : ByteArray) (s : Nat) (i : Nat) (h : KvAt S w B Bt t) (hM : MaxIs w) (hi : i < 18446744073709551616) (hk : key.size ≤ maxLen) (hv : v.size ≤ maxLen) :
    Calls Tryd.prog 17 #[.pointer (some ⟨B, 0, none⟩), .string key, .string v, .int .u64 (s : Int), .int .u64 (i : Int)] w fun e w' => e = .returned (.int .i64 ((kUnlock t key v s i).1 : Int)) ∧ KvAt (fun k => S k ∨ w.heap.size ≤ k) w' B Bt (kUnlock t key v s i).2 ∧ But (· = Bt) w w' := by
  have HH := Lib.hid h
  have HM := Lib.hid hM
  have HI := Lib.hid hi
  have HK := Lib.hid hk
  have HOk : Hid (KvOk (kUnlock t key v s i).2) := Lib.hid (h.ok.unlock hk hi)
  have HV := Lib.hid hv
  clear hv
  clear h hM hi hk
  obtain ⟨X1, hX1⟩ : ∃ X1, w.heap.size = X1 := ⟨_, rfl⟩
  obtain ⟨v1, hv1⟩ : ∃ v1, w.alloc (.cells #[.string v] 9) = v1 := ⟨_, rfl⟩
  have s1 : Below w.heap.size w v1 := by rw [← hv1]; exact below1 _ _ _
  have kX1 : v1.heap[X1]? = some (.cells #[.string v] 9 (0, 0)) := by rw [← hv1, ← hX1]; exact heap_alloc_new _ _
  obtain ⟨X2, hX2⟩ : ∃ X2, v1.heap.size = X2 := ⟨_, rfl⟩
  obtain ⟨v2, hv2⟩ : ∃ v2, v1.alloc (.cells #[.int .u64 (s : Int)] 23) = v2 := ⟨_, rfl⟩
  have s2 : Below v1.heap.size v1 v2 := by rw [← hv2]; exact below1 _ _ _
  have kX2 : v2.heap[X2]? = some (.cells #[.int .u64 (s : Int)] 23 (0, 0)) := by rw [← hv2, ← hX2]; exact heap_alloc_new _ _
  have gX2 : X1 + 1 = X2 := by rw [← hX2, ← hv1]; simp [hX1]
  obtain ⟨P1, hP1⟩ : ∃ P1, v2.heap.size = P1 := ⟨_, rfl⟩
  have C3 := Lib.hid (short_at v v2)
  rw [hP1] at C3
  have QhX1 := Lib.hid hX1
  have Qhv1 := Lib.hid hv1
  have Qs1 := Lib.hid s1
  have QkX1 := Lib.hid kX1
  have QhX2 := Lib.hid hX2
  have Qhv2 := Lib.hid hv2
  have Qs2 := Lib.hid s2
  have QkX2 := Lib.hid kX2
  have QgX2 := Lib.hid gX2
  have QhP1 := Lib.hid hP1
  clear hX1 hv1 s1 kX1 hX2 hv2 s2 kX2 gX2 hP1
  go_enter Tryd.func17, Tryd.ntmps17
  go_wp2_with fail
  rw [Qhv1.out, QhX1.out, Qhv2.out, QgX2.out]
  refine C3.out.mono ?_
  rintro e3 v3 ⟨rfl, kP1, s3⟩
  have hX1 := QhX1.out
  have hv1 := Qhv1.out
  have s1 := Qs1.out
  have kX1 := QkX1.out
  have hX2 := QhX2.out
  have hv2 := Qhv2.out
  have s2 := Qs2.out
  have kX2 := QkX2.out
  have gX2 := QgX2.out
  have hP1 := QhP1.out
  clear QhX1 Qhv1 Qs1 QkX1 QhX2 Qhv2 Qs2 QkX2 QgX2 QhP1
  rw [← hP1] at s3
  obtain ⟨Z, hZ⟩ : ∃ Z, v3.heap.size = Z := ⟨_, rfl⟩
  obtain ⟨v4, hv4⟩ : ∃ v4, v3.alloc (.cells #[.func (.func 60) #[] #[.pointer (some ⟨P1, 0, none⟩)], .int .i64 3, .func (.func 37) #[] #[], .int .i64 4, .func (.func 43) #[] #[.pointer (some ⟨X2, 0, none⟩)], .int .i64 22] TCk) = v4 := ⟨_, rfl⟩
  have s4 : Below v3.heap.size v3 v4 := by rw [← hv4]; exact below1 _ _ _
  have kZ : v4.heap[Z]? = some (.cells #[.func (.func 60) #[] #[.pointer (some ⟨P1, 0, none⟩)], .int .i64 3, .func (.func 37) #[] #[], .int .i64 4, .func (.func 43) #[] #[.pointer (some ⟨X2, 0, none⟩)], .int .i64 22] TCk (0, 0)) := by rw [← hv4, ← hZ]; exact heap_alloc_new _ _
  have t4 : Below v4.heap.size v4 v4 := Below.refl _ _
  have t3 : Below v3.heap.size v3 v4 := step_trans s4 t4
  have t2 : Below v2.heap.size v2 v4 := step_trans s3 t3
  have t1 : Below v1.heap.size v1 v4 := step_trans s2 t2
  have t0 : Below w.heap.size w v4 := step_trans s1 t1
  have KX1 := ((t1.block X1 (block_lt kX1)).trans kX1)
  have KX2 := ((t2.block X2 (block_lt kX2)).trans kX2)
  have KP1 := ((t3.block P1 (block_lt kP1)).trans kP1)
  have KZ := ((t4.block Z (block_lt kZ)).trans kZ)
  have hk0 := HH.out.ok
  have hsc : modK t key i (saidOf [⟨.func (.func 60) #[] #[.pointer (some ⟨P1, 0, none⟩)], 3, fun e => decide (v.size ≤ 64)⟩, ⟨.func (.func 37) #[] #[], 4, fun e => !eqE e noEn⟩, ⟨.func (.func 43) #[] #[.pointer (some ⟨X2, 0, none⟩)], 22, fun e => s != 0 && e.val.ses == s⟩] (entO t key)) (some ⟨v, 0, (entO t key).val.lck⟩) = kUnlock t key v s i := by
    unfold kUnlock
    rw [← isO_there hk0 key]; rfl
  have hokm := HOk.out
  rw [← hsc] at hokm
  have HMod := Lib.hid (modify_any key i [⟨.func (.func 60) #[] #[.pointer (some ⟨P1, 0, none⟩)], 3, fun e => decide (v.size ≤ 64)⟩, ⟨.func (.func 37) #[] #[], 4, fun e => !eqE e noEn⟩, ⟨.func (.func 43) #[] #[.pointer (some ⟨X2, 0, none⟩)], 22, fun e => s != 0 && e.val.ses == s⟩] (some ⟨Z, 0, none⟩) 3 (.func (.func 44) #[] #[.pointer (some ⟨X1, 0, none⟩)]) ({ entO t key with key := key, val := ⟨v, 0, (entO t key).val.lck⟩ }) (some ⟨v, 0, (entO t key).val.lck⟩) (HH.out.below t0) (HM.out.keep t0) HI.out HK.out (SK.cks KZ rfl) (fun e => by cases e) (fun e => by cases e) (by simp) (by
    intro ck hm
    simp only [List.mem_cons, List.not_mem_nil, or_false] at hm
    rcases hm with rfl | rfl | rfl
    · exact ⟨Does.of (enters_of Tryd.func60 (by kernel_rfl) rfl) fun W hW => short1_any v P1 _ W ((hW.block P1 (block_lt KP1)).trans KP1) HV.out, by show 0 < 3; decide, by show 3 < 100; decide, rfl⟩
    · exact ⟨Does.of (enters_of Tryd.func37 (by kernel_rfl) rfl) fun W hW => there_any _ W, by show 0 < 4; decide, by show 4 < 100; decide, rfl⟩
    · exact ⟨Does.of (enters_of Tryd.func43 (by kernel_rfl) rfl) fun W hW => unlock1_any s X2 _ W ((hW.block X2 (block_lt KX2)).trans KX2), by show 0 < 22; decide, by show 22 < 100; decide, rfl⟩) (Does.of (enters_of Tryd.func44 (by kernel_rfl) rfl) fun W hW => unlock2_any s v X1 _ W ((hW.block X1 (block_lt KX1)).trans KX1)) ⟨rfl, rfl⟩ hokm)
  rw [hsc] at HMod
  have HB := Lib.hid t0
  have QhX1 := Lib.hid hX1
  have Qhv1 := Lib.hid hv1
  have Qs1 := Lib.hid s1
  have QkX1 := Lib.hid kX1
  have QhX2 := Lib.hid hX2
  have Qhv2 := Lib.hid hv2
  have Qs2 := Lib.hid s2
  have QkX2 := Lib.hid kX2
  have QgX2 := Lib.hid gX2
  have QhP1 := Lib.hid hP1
  have QkP1 := Lib.hid kP1
  have Qs3 := Lib.hid s3
  have QhZ := Lib.hid hZ
  have Qhv4 := Lib.hid hv4
  have Qs4 := Lib.hid s4
  have QkZ := Lib.hid kZ
  have Qt4 := Lib.hid t4
  have Qt3 := Lib.hid t3
  have Qt2 := Lib.hid t2
  have Qt1 := Lib.hid t1
  have Qt0 := Lib.hid t0
  have QKX1 := Lib.hid KX1
  have QKX2 := Lib.hid KX2
  have QKP1 := Lib.hid KP1
  have QKZ := Lib.hid KZ
  have Qhk0 := Lib.hid hk0
  have Qhsc := Lib.hid hsc
  have Qhokm := Lib.hid hokm
  clear hX1 hv1 s1 kX1 hX2 hv2 s2 kX2 gX2 hP1 kP1 s3 hZ hv4 s4 kZ t4 t3 t2 t1 t0 KX1 KX2 KP1 KZ hk0 hsc hokm
  go_wp2_with fail
  rw [Qhv4.out, QhZ.out]
  refine HMod.out.mono ?_
  rintro e8 w8 ⟨rfl, hk8, hb8⟩
  have H8 := Lib.hid (And.intro hk8 hb8)
  clear hk8 hb8 HMod
  go_wp2
  go_ret
  refine ⟨rfl, H8.out.1.narrow fun k _ z => ?_, (But.of_below HB.out).trans H8.out.2⟩
  rcases z with z | z
  · exact .inl z
  · have h1 := HB.out.size
    exact .inr (by omega)
end Go.Proofs.YtohnkagabpefdaaDoor
