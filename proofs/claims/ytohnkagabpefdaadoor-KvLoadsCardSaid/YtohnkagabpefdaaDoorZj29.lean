/-
  The program's store: the checks' and the turns' functions, and fault, walked (layer 16).
-/
import Derived.Test.YtohnkagabpefdaaDoorZj28
namespace Go.Proofs.YtohnkagabpefdaaDoor
open Go.RowKit
set_option linter.unusedSimpArgs false
set_option linter.unusedVariables false

/-- A function's value by its closure's contract. -/
theorem Does.of {w : World} {g : Nat} {lb : Array Value} {e0 : En} {v : Value} (eg : ∀ args w, (callFunc g args).run Tryd.prog w = .ok (.enter g args) w) (h : ∀ W, Below w.heap.size w W → Calls Tryd.prog g (#[enV e0] ++ lb) W fun e w' => e = .returned v ∧ Below W.heap.size W w') : Does w (.func (.func g) #[] lb) e0 v := ⟨g, lb, rfl, eg, h⟩
theorem fits_any (v : ByteArray) (w : World) (hv : v.size ≤ maxLen) : Calls Tryd.prog 49 #[.string v] w fun e w' => e = .returned (.bool (decide (v.size ≤ 64))) ∧ w = w' := by
  unfold maxLen at hv
  by_cases h : v.size ≤ 64
  · have d : decide ((v.size : Int) ≤ 64) = true := decide_eq_true (by omega)
    have HD := Lib.hid (decide_eq_true h)
    go_enter Tryd.func49, Tryd.ntmps49
    go_wp2
    go_ret
    exact ⟨ret_bool HD.out.symm, rfl⟩
  · have d : decide ((v.size : Int) ≤ 64) = false := decide_eq_false (by omega)
    have HD := Lib.hid (decide_eq_false h)
    go_enter Tryd.func49, Tryd.ntmps49
    go_wp2
    go_ret
    exact ⟨ret_bool HD.out.symm, rfl⟩
theorem named1_any (key : ByteArray) (X : Nat) (e0 : En) (w : World) (k : w.heap[X]? = some (.cells #[.string key] 9 (0, 0))) (hM : MaxIs w) (hs : key.size ≤ maxLen) :
    Calls Tryd.prog 72 #[enV e0, .pointer (some ⟨X, 0, none⟩)] w fun e w' => e = .returned (.bool (keyB key.data.toList)) ∧ Below w.heap.size w w' := by
  obtain ⟨W1, hW1⟩ : ∃ W1, w.alloc (.cells #[.string e0.key, .string e0.val.v, .int .u64 (e0.val.ses : Int), .int .u64 (e0.val.lck : Int), .int .u64 (e0.made : Int), .int .u64 (e0.ix : Int)] TEn) = W1 := ⟨_, rfl⟩
  have hb1 : Below w.heap.size w W1 := by rw [← hW1]; exact below1 _ _ _
  have c0 : w.cell? ⟨X, 0, none⟩ = some (.string key) := cellsN k 0 _ rfl
  have hXl := block_lt k
  have HK := Lib.hid (key_any key W1 hs (hM.keep hb1))
  have HB1 := Lib.hid hb1
  have HW1 := Lib.hid hW1
  unfold enV Kt.trV
  clear k hM hs hW1 hb1
  go_enter Tryd.func72, Tryd.ntmps72
  go_wp2_with fail
  rw [HW1.out]
  refine HK.out.mono ?_
  rintro e w2 ⟨rfl, hb2⟩
  have HB2 := Lib.hid (HB1.out.trans (hb2.mono HB1.out.size))
  clear hb2
  go_wp2
  go_ret
  exact ⟨rfl, HB2.out⟩
theorem short1_any (v : ByteArray) (X : Nat) (e0 : En) (w : World) (k : w.heap[X]? = some (.cells #[.string v] 9 (0, 0))) (hs : v.size ≤ maxLen) :
    Calls Tryd.prog 60 #[enV e0, .pointer (some ⟨X, 0, none⟩)] w fun e w' => e = .returned (.bool (decide (v.size ≤ 64))) ∧ Below w.heap.size w w' := by
  have c0 : w.cell? ⟨X, 0, none⟩ = some (.string v) := cellsN k 0 _ rfl
  have hXl := block_lt k
  have HF := Lib.hid (fun W => fits_any v W hs)
  unfold enV Kt.trV
  clear k hs
  go_enter Tryd.func60, Tryd.ntmps60
  go_wp2_with fail
  refine (HF.out _).mono ?_
  rintro e w' ⟨rfl, rfl⟩
  go_wp2
  go_ret
  exact ⟨rfl, below1 _ _ _⟩
theorem with1_any (v : ByteArray) (X : Nat) (e0 : En) (w : World) (k : w.heap[X]? = some (.cells #[.string v] 9 (0, 0))) :
    Calls Tryd.prog 61 #[enV e0, .pointer (some ⟨X, 0, none⟩)] w fun e w' => e = .returned (enV { e0 with val := { e0.val with v := v } }) ∧ Below w.heap.size w w' := by
  have c0 : w.cell? ⟨X, 0, none⟩ = some (.string v) := cellsN k 0 _ rfl
  have hXl := block_lt k
  unfold enV Kt.trV
  clear k
  go_enter Tryd.func61, Tryd.ntmps61
  go_wp2
  refine bodyPost_ret (v := .agg #[.string e0.key, .string v, .int .u64 (e0.val.ses : Int), .int .u64 (e0.val.lck : Int), .int .u64 (e0.made : Int), .int .u64 (e0.ix : Int)]) (by simp [results, Tryd.results61, go_sem]) rfl ⟨rfl, below2 _ _ _ _ _⟩
theorem gone_any (e0 : En) (w : World) : Calls Tryd.prog 38 #[enV e0] w fun e w' => e = .returned (enV noEn) ∧ Below w.heap.size w w' := by
  unfold enV Kt.trV
  go_enter Tryd.func38, Tryd.ntmps38
  go_wp2
  refine bodyPost_ret (v := .agg #[.string ⟨#[]⟩, .string ⟨#[]⟩, .int .u64 0, .int .u64 0, .int .u64 0, .int .u64 0]) (by simp [results, Tryd.results38, go_sem]) rfl ⟨rfl, below2 _ _ _ _ _⟩
theorem named_any (s : ByteArray) (w : World) (hs : s.size ≤ maxLen) (hM : MaxIs w) :
    Calls Tryd.prog 58 #[.string s] w fun e w' => ∃ fv, e = .returned (.agg #[fv, .int .i64 10]) ∧ fv.oneCell' = true ∧ (∀ e0, Does w' fv e0 (.bool (keyB s.data.toList))) ∧ Below w.heap.size w w' := by
  obtain ⟨W1, hW1⟩ : ∃ W1, (w.alloc (.cells #[.string s] 9)).alloc (.cells #[.func (.func 72) #[] #[.pointer (some ⟨w.heap.size, 0, none⟩)], .int .i64 10] TCk) = W1 := ⟨_, rfl⟩
  have hb1 : Below w.heap.size w W1 := by rw [← hW1]; exact below2 _ _ _ _ _
  have k1 : W1.heap[w.heap.size]? = some (.cells #[.string s] 9 (0, 0)) := by
    rw [← hW1]
    exact ((below1 (w.alloc (.cells #[.string s] 9)) _ _).block w.heap.size (by simp)).trans (heap_alloc_new w _)
  have HD : Hid (∀ e0, Does W1 (.func (.func 72) #[] #[.pointer (some ⟨w.heap.size, 0, none⟩)]) e0 (.bool (keyB s.data.toList))) := Lib.hid fun e0 => Does.of (enters_of Tryd.func72 (by kernel_rfl) rfl) fun W hW => named1_any s w.heap.size e0 W ((hW.block _ (block_lt k1)).trans k1) (hM.keep (hb1.trans (hW.mono hb1.size))) hs
  have HB := Lib.hid hb1
  have HW1 := Lib.hid hW1
  clear hs hb1 k1 hW1 hM
  go_enter Tryd.func58, Tryd.ntmps58
  go_wp2
  rw [HW1.out]
  refine bodyPost_ret (v := .agg #[.func (.func 72) #[] #[.pointer (some ⟨w.heap.size, 0, none⟩)], .int .i64 10]) ?_ rfl ⟨_, rfl, rfl, HD.out, HB.out⟩
  rw [← HW1.out]
  simp [results, Tryd.results58, go_sem]
theorem short_any (s : ByteArray) (w : World) (hs : s.size ≤ maxLen) :
    Calls Tryd.prog 34 #[.string s] w fun e w' => ∃ fv, e = .returned (.agg #[fv, .int .i64 3]) ∧ fv.oneCell' = true ∧ (∀ e0, Does w' fv e0 (.bool (decide (s.size ≤ 64)))) ∧ Below w.heap.size w w' := by
  obtain ⟨W1, hW1⟩ : ∃ W1, (w.alloc (.cells #[.string s] 9)).alloc (.cells #[.func (.func 60) #[] #[.pointer (some ⟨w.heap.size, 0, none⟩)], .int .i64 3] TCk) = W1 := ⟨_, rfl⟩
  have hb1 : Below w.heap.size w W1 := by rw [← hW1]; exact below2 _ _ _ _ _
  have k1 : W1.heap[w.heap.size]? = some (.cells #[.string s] 9 (0, 0)) := by
    rw [← hW1]
    exact ((below1 (w.alloc (.cells #[.string s] 9)) _ _).block w.heap.size (by simp)).trans (heap_alloc_new w _)
  have HD : Hid (∀ e0, Does W1 (.func (.func 60) #[] #[.pointer (some ⟨w.heap.size, 0, none⟩)]) e0 (.bool (decide (s.size ≤ 64)))) := Lib.hid fun e0 => Does.of (enters_of Tryd.func60 (by kernel_rfl) rfl) fun W hW => short1_any s w.heap.size e0 W ((hW.block _ (block_lt k1)).trans k1) hs
  have HB := Lib.hid hb1
  have HW1 := Lib.hid hW1
  clear hs hb1 k1 hW1
  go_enter Tryd.func34, Tryd.ntmps34
  go_wp2
  rw [HW1.out]
  refine bodyPost_ret (v := .agg #[.func (.func 60) #[] #[.pointer (some ⟨w.heap.size, 0, none⟩)], .int .i64 3]) ?_ rfl ⟨_, rfl, rfl, HD.out, HB.out⟩
  rw [← HW1.out]
  simp [results, Tryd.results34, go_sem]
end Go.Proofs.YtohnkagabpefdaaDoor
