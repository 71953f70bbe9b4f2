/-
  The document's texts (layer 20).
-/
import Derived.Test.YtbhhalkpghcflaaZj15
namespace Go.Proofs.Ytbhhalkpghcflaa
open Go.RowKit
set_option linter.unusedSimpArgs false
set_option linter.unusedVariables false

theorem RV.new (w : World) (cs : Array Value) (T : TypeId) : RV (w.alloc (.cells cs T)) (some ⟨w.heap.size, 0, none⟩) cs.size cs.toList :=
  ⟨Array.length_toList, fun _ => ⟨w.heap.size, 0, rfl, by simp, fun j hj => by
    rw [Nat.zero_add, cell_of_row _ w.heap.size j cs T (0, 0) (heap_alloc_new w _)]
    simp⟩⟩
set_option maxHeartbeats 1000000 in
theorem rtexts_any (x : CmW) (w : World) : Calls Try.prog 18 #[cmV x] w fun e w' => (∃ B, e = .returned (.slice (some ⟨B, 0, none⟩) 8 8) ∧ w.heap.size ≤ B ∧ RV w' (some ⟨B, 0, none⟩) 8 (x.texts.map strV)) ∧ Below w.heap.size w w' := by
  have fin : ∀ W, Below w.heap.size w W → RV (W.alloc (.cells #[.string ⟨x.id.toArray⟩, .string ⟨x.name.toArray⟩, .string ⟨x.svc.toArray⟩, .string ⟨x.note.toArray⟩, .string ⟨x.key.toArray⟩, .string ⟨x.val.toArray⟩, .string ⟨x.src.toArray⟩, .string ⟨x.dst.toArray⟩] 9)) (some ⟨W.heap.size, 0, none⟩) 8 (x.texts.map strV) ∧ Below w.heap.size w (W.alloc (.cells #[.string ⟨x.id.toArray⟩, .string ⟨x.name.toArray⟩, .string ⟨x.svc.toArray⟩, .string ⟨x.note.toArray⟩, .string ⟨x.key.toArray⟩, .string ⟨x.val.toArray⟩, .string ⟨x.src.toArray⟩, .string ⟨x.dst.toArray⟩] 9)) := fun W hb => ⟨RV.new W _ _, hb.alloc hb.size _⟩
  have FIN := Lib.hid fin
  clear fin
  unfold cmV strV
  go_enter Try.func18, Try.ntmps18
  go_wp2
  go_ret
  refine ⟨⟨w.heap.size + 1, rfl, by omega, ?_⟩, ?_⟩
  · have h := (FIN.out (w.alloc (.cells #[.int .i64 x.kind, .int .i64 x.node, .int .i64 x.port, .int .i64 x.status, strV x.id, strV x.name, strV x.svc, strV x.note, strV x.key, strV x.val, strV x.src, strV x.dst, .slice x.tA x.tn x.tc, .bool x.allow, .int .u64 (x.old : Int), .int .u64 (x.ses : Int), .slice x.sA x.sn x.sc] TCm)) ((Below.refl _ w).alloc (Nat.le_refl _) _)).1
    rw [show (w.alloc _).heap.size = w.heap.size + 1 by simp] at h
    exact h
  · exact (FIN.out _ ((Below.refl _ w).alloc (Nat.le_refl _) _)).2
end Go.Proofs.Ytbhhalkpghcflaa
