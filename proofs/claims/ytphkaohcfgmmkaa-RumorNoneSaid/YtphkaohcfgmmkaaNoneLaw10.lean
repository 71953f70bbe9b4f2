/-
  A queue that is not there, and one that no call made, passes nothing on: the law sodalitylaw10.RumorNone over the contracts (layer 10).
-/
import Derived.Test.YtphkaohcfgmmkaaRuWorks
import Derived.Test.YtphkaohcfgmmkaaStMem
namespace Go.Proofs.Ytphkaohcfgmmkaa
open Go.RowKit Go.Maps
set_option linter.unusedSimpArgs false
set_option linter.unusedVariables false

theorem blk6 {W : World} {X : Nat} {a b c d e f : Value} {t : TypeId} (h : W.heap[X]? = some (.cells #[a, b, c, d, e, f] t (0, 0))) : W.cell? ⟨X, 0, none⟩ = some a ∧ W.cell? ⟨X, 1, none⟩ = some b ∧ W.cell? ⟨X, 2, none⟩ = some c ∧ W.cell? ⟨X, 3, none⟩ = some d ∧ W.cell? ⟨X, 4, none⟩ = some e ∧ W.cell? ⟨X, 5, none⟩ = some f := by
  refine ⟨?_, ?_, ?_, ?_, ?_, ?_⟩ <;> (rw [cell_of_row _ _ _ _ _ _ h]; rfl)
/-- The world of RumorNone: its step's variable, a queue that no call made, the queues' row. -/
structure NnIn (w W : World) (X : Nat) (x : St) : Prop where
  below : Below w.heap.size w W
  b0 : W.heap[X]? = some (.cells #[.int .i64 x.kind, .int .i64 x.u.node, .int .u32 (x.u.inc : Int), .int .i64 x.u.st, .int .i64 x.most, .int .i64 x.mem] 31)
  b1 : W.heap[X + 1]? = some (.cells #[.int .i64 0, .int .i64 0, .map none] 47)
  b2 : W.heap[X + 1 + 1]? = some (.cells #[.pointer none, .pointer (some ⟨X + 1, 0, none⟩)] 23)
theorem NnIn.then_ {w W W' : World} {X : Nat} {x : St} (h : NnIn w W X x) (hb : Below W.heap.size W W') : NnIn w W' X x :=
  ⟨h.below.trans (hb.mono h.below.size), (hb.block _ (block_lt h.b0)).trans h.b0, (hb.block _ (block_lt h.b1)).trans h.b1, (hb.block _ (block_lt h.b2)).trans h.b2⟩
theorem NnIn.at_ {w W : World} {X : Nat} {x : St} (h : NnIn w W X x) {k : Nat} (hk : k < 2) : ∃ p : Option Addr, W.cell? ⟨X + 1 + 1, k, none⟩ = some (.pointer p) ∧ (p = none ∨ p = some ⟨X + 1, 0, none⟩) := by
  have hk' : k = 0 ∨ k = 1 := by omega
  rcases hk' with rfl | rfl
  · exact ⟨none, by rw [cell_of_row _ _ _ _ _ _ h.b2]; rfl, .inl rfl⟩
  · exact ⟨some ⟨X + 1, 0, none⟩, by rw [cell_of_row _ _ _ _ _ _ h.b2]; rfl, .inr rfl⟩
theorem NnIn.no {w W : World} {X : Nat} {x : St} (h : NnIn w W X x) {p : Option Addr} (hp : p = none ∨ p = some ⟨X + 1, 0, none⟩) : NoQu W (.pointer p) := by
  rcases hp with rfl | rfl
  · exact .inl rfl
  · exact .inr ⟨X + 1, rfl, h.b1⟩
def noneR (_ : Nat → Prop) (X : Nat) (k : Nat) (p : Option Addr) (x : St) : Nat → Value → World → Prop
  | 0, v, _ => v = .slice ((some ⟨X + 1 + 1, 0, none⟩)) 2 2
  | 1, v, _ => v = .int .i64 (k : Int)
  | 2, v, _ => v = .pointer (some ⟨X + 1 + 1, k, none⟩)
  | 3, v, _ => v = .pointer p
  | 4, v, _ => v = .pointer (some ⟨X, 1, none⟩)
  | 5, v, _ => v = .agg #[.int .i64 x.u.node, .int .u32 (x.u.inc : Int), .int .i64 x.u.st]
  | 6, v, _ => v = .bool false
  | 7, v, _ => v = .bool false
  | 8, v, _ => v = .slice ((some ⟨X + 1 + 1, 0, none⟩)) 2 2
  | 9, v, _ => v = .int .i64 (k : Int)
  | 10, v, _ => v = .pointer (some ⟨X + 1 + 1, k, none⟩)
  | 11, v, _ => v = .pointer p
  | 12, v, _ => v = .pointer (some ⟨X, 4, none⟩)
  | 13, v, _ => v = .int .i64 x.most
  | 14, v, _ => v = .pointer (some ⟨X, 5, none⟩)
  | 15, v, _ => v = .int .i64 x.mem
  | 16, v, _ => v = .slice none 0 0
  | 17, v, _ => v = .int .i64 (0 : Int)
  | 18, v, _ => v = .bool false
  | 19, v, _ => v = .bool false
  | 20, v, _ => v = .bool false
  | 21, v, _ => v = .slice ((some ⟨X + 1 + 1, 0, none⟩)) 2 2
  | 22, v, _ => v = .int .i64 (k : Int)
  | 23, v, _ => v = .pointer (some ⟨X + 1 + 1, k, none⟩)
  | 24, v, _ => v = .pointer p
  | 25, v, _ => v = .pointer (some ⟨X, 5, none⟩)
  | 26, v, _ => v = .int .i64 x.mem
  | 27, v, _ => v = .int .i64 0
  | 28, v, _ => v = .bool false
  | 29, v, _ => v = .bool false
  | 30, v, _ => v = .bool false
  | 31, v, _ => v = .slice ((some ⟨X + 1 + 1, 0, none⟩)) 2 2
  | 32, v, _ => v = .int .i64 (k : Int)
  | 33, v, _ => v = .pointer (some ⟨X + 1 + 1, k, none⟩)
  | 34, v, _ => v = .pointer p
  | 35, v, _ => v = .slice none 0 0
  | 36, v, _ => v = .int .i64 (0 : Int)
  | 37, v, _ => v = .bool false
  | 38, v, _ => v = .bool false
  | 39, v, _ => v = .bool false
  | 40, v, _ => v = .slice ((some ⟨X + 1 + 1, 0, none⟩)) 2 2
  | 41, v, _ => v = .int .i64 (k : Int)
  | 42, v, _ => v = .pointer (some ⟨X + 1 + 1, k, none⟩)
  | 43, v, _ => v = .pointer p
  | 44, v, _ => v = .pointer (some ⟨X, 1, none⟩)
  | 45, v, _ => v = .agg #[.int .i64 x.u.node, .int .u32 (x.u.inc : Int), .int .i64 x.u.st]
  | 46, v, _ => v = .bool false
  | 47, v, _ => v = .bool false
  | _, _, _ => True
theorem noneR_stable (S : Nat → Prop) (X : Nat) (k : Nat) (p : Option Addr) (x : St) : ∀ i v w w', noneR S X k p x i v w → But S w w' → noneR S X k p x i v w'
  | 0, _, _, _, h, _ | 1, _, _, _, h, _ | 2, _, _, _, h, _ | 3, _, _, _, h, _ | 4, _, _, _, h, _ | 5, _, _, _, h, _ | 6, _, _, _, h, _ | 7, _, _, _, h, _ | 8, _, _, _, h, _ | 9, _, _, _, h, _ | 10, _, _, _, h, _ | 11, _, _, _, h, _ | 12, _, _, _, h, _ | 13, _, _, _, h, _ | 14, _, _, _, h, _ | 15, _, _, _, h, _ | 16, _, _, _, h, _ | 17, _, _, _, h, _ | 18, _, _, _, h, _ | 19, _, _, _, h, _ | 20, _, _, _, h, _ | 21, _, _, _, h, _ | 22, _, _, _, h, _ | 23, _, _, _, h, _ | 24, _, _, _, h, _ | 25, _, _, _, h, _ | 26, _, _, _, h, _ | 27, _, _, _, h, _ | 28, _, _, _, h, _ | 29, _, _, _, h, _ | 30, _, _, _, h, _ | 31, _, _, _, h, _ | 32, _, _, _, h, _ | 33, _, _, _, h, _ | 34, _, _, _, h, _ | 35, _, _, _, h, _ | 36, _, _, _, h, _ | 37, _, _, _, h, _ | 38, _, _, _, h, _ | 39, _, _, _, h, _ | 40, _, _, _, h, _ | 41, _, _, _, h, _ | 42, _, _, _, h, _ | 43, _, _, _, h, _ | 44, _, _, _, h, _ | 45, _, _, _, h, _ | 46, _, _, _, h, _ | 47, _, _, _, h, _ => h
  | _ + 48, _, _, _, h, _ => h

set_option maxHeartbeats 16000000 in
set_option maxRecDepth 100000 in
theorem none_walk (x : St) (w : World) :
    Calls Try.prog 5 #[.agg #[.int .i64 x.kind, .int .i64 x.u.node, .int .u32 (x.u.inc : Int), .int .i64 x.u.st, .int .i64 x.most, .int .i64 x.mem]] w fun e w' => e = .returned (.bool true) ∧ Below w.heap.size w w' := by
  obtain ⟨X, hX⟩ : ∃ X, w.heap.size = X := ⟨_, rfl⟩
  obtain ⟨W, hW⟩ : ∃ W, ((w.alloc (.cells #[.int .i64 x.kind, .int .i64 x.u.node, .int .u32 (x.u.inc : Int), .int .i64 x.u.st, .int .i64 x.most, .int .i64 x.mem] 31)).alloc (.cells #[.int .i64 0, .int .i64 0, .map none] 47)).alloc (.cells #[.pointer none, .pointer (some ⟨X + 1, 0, none⟩)] 23) = W := ⟨_, rfl⟩
  have hI : NnIn w W X x := by
    rw [← hW]
    subst hX
    refine ⟨(below2 w _ _).alloc (by simp; omega) _, ?_, ?_, ?_⟩
    · rw [Below.heap_alloc _ _ _ (by simp; omega), Below.heap_alloc _ _ _ (by simp)]
      exact heap_alloc_new w _
    · rw [Below.heap_alloc _ _ _ (by simp)]
      have := heap_alloc_new (w.alloc (.cells #[.int .i64 x.kind, .int .i64 x.u.node, .int .u32 (x.u.inc : Int), .int .i64 x.u.st, .int .i64 x.most, .int .i64 x.mem] 31)) (.cells #[.int .i64 0, .int .i64 0, .map none] 47)
      simpa using this
    · have := heap_alloc_new ((w.alloc (.cells #[.int .i64 x.kind, .int .i64 x.u.node, .int .u32 (x.u.inc : Int), .int .i64 x.u.st, .int .i64 x.most, .int .i64 x.mem] 31)).alloc (.cells #[.int .i64 0, .int .i64 0, .map none] 47)) (.cells #[.pointer none, .pointer (some ⟨w.heap.size + 1, 0, none⟩)] 23)
      simpa using this
  have HI := Lib.hid hI
  have HX := Lib.hid hX
  have HW := Lib.hid hW
  have HWk := Lib.hid (fun w => works_any w)
  clear hI hX hW
  go_enter Try.func5, Try.ntmps5
  go_wp2
  rw [HX.out, HW.out]
  go_loopw [5] (fun i wr => ∃ k : Nat, k ≤ 2 ∧ i = .int .i64 (k : Int) ∧ Hid (NnIn w wr X x)) (fun i _ => 2 - (intOf i).toNat)
  case atStart => exact ⟨0, Nat.zero_le _, rfl, HI⟩
  case round =>
    obtain ⟨k, hk, rfl, H_wr⟩ := hrel
    by_cases hlt : k < 2
    · have HK := Lib.hid (show (0 : Int) ≤ (k : Int) ∧ (k : Int) < 2 by omega)
      obtain ⟨p, hp, hno⟩ := H_wr.out.at_ hlt
      have hin : ∀ w', But (fun _ => False) wr w' → NnIn w w' X x := fun w' hb => H_wr.out.then_ (hb.below (Nat.le_refl _) (fun _ _ h => h))
      have HNo : Hid (∀ w', But (fun _ => False) wr w' → NoQu w' (.pointer p)) := Lib.hid (fun w' hb => (hin w' hb).no hno)
      have HC : Hid (∀ w', But (fun _ => False) wr w' → (w'.cell? ⟨X, 0, none⟩ = some (.int .i64 x.kind) ∧ w'.cell? ⟨X, 1, none⟩ = some (.int .i64 x.u.node) ∧ w'.cell? ⟨X, 2, none⟩ = some (.int .u32 (x.u.inc : Int)) ∧ w'.cell? ⟨X, 3, none⟩ = some (.int .i64 x.u.st) ∧ w'.cell? ⟨X, 4, none⟩ = some (.int .i64 x.most) ∧ w'.cell? ⟨X, 5, none⟩ = some (.int .i64 x.mem)) ∧ w'.cell? ⟨X + 1 + 1, k, none⟩ = some (.pointer p)) := Lib.hid (fun w' hb => by
        have h1 := hin w' hb
        refine ⟨blk6 h1.b0, ?_⟩
        rw [World.cell?_of_block (w := wr) (a := ⟨X + 1 + 1, k, none⟩) (h1.b2.trans H_wr.out.b2.symm)]
        exact hp)
      have HIn := Lib.hid hin
      clear hp hno hin
      go_wp2
      refine Go.Rel.wp_region_states (by kernel_rfl) (by kernel_rfl) (by kernel_rfl) (by kernel_rfl) (fun _ _ => True) (But (fun _ => False)) (fun _ _ _ => But.trans) (But.refl _ _).drew trivial (noneR (fun _ => False) X k p x) (noneR_stable (fun _ => False) X k p x) ?hs ?he
      case hs =>
        refine (.cons ?_ (.cons ?_ (.cons ?_ (.cons ?_ (.cons ?_ (.cons ?_ (.cons ?_ (.cons ?_ (.cons ?_ (.cons ?_ (.cons ?_ (.cons ?_ (.cons ?_ (.cons ?_ (.cons ?_ (.cons ?_ (.cons ?_ (.cons ?_ (.cons ?_ (.cons ?_ (.cons ?_ (.cons ?_ (.cons ?_ (.cons ?_ (.cons ?_ (.cons ?_ (.cons ?_ (.cons ?_ (.cons ?_ (.cons ?_ (.cons ?_ (.cons ?_ (.cons ?_ (.cons ?_ (.cons ?_ (.cons ?_ (.cons ?_ (.cons ?_ (.cons ?_ (.cons ?_ (.cons ?_ (.cons ?_ (.cons ?_ (.cons ?_ (.cons ?_ (.cons ?_ (.cons ?_ (.cons ?_ .nil))))))))))))))))))))))))))))))))))))))))))))))))
        · intro f a w' hI hf hanc hdesc hle hs' hd K hK
          have f4 : a.tmps[4]? = some (.slice ((some ⟨X + 1 + 1, 0, none⟩)) 2 2) := hs'.2.2 4 (by kernel_rfl)
          unfold Go.Rel.stepOf
          go_simp
          exact hK _ _ (But.refl _ _) (trivial) rfl
        · intro f a w' hI hf hanc hdesc hle hs' hd K hK
          have f5 : a.tmps[5]? = some (.int .i64 (k : Int)) := hs'.2.2 5 (by kernel_rfl)
          unfold Go.Rel.stepOf
          go_simp
          exact hK _ _ (But.refl _ _) (trivial) rfl
        · intro f a w' hI hf hanc hdesc hle hs' hd K hK
          obtain ⟨_, t0, rfl⟩ := hd 0 16 (by kernel_rfl)
          obtain ⟨_, t1, rfl⟩ := hd 1 17 (by kernel_rfl)
          have q1 := HK.out.1
          have q2 := HK.out.2
          unfold Go.Rel.stepOf
          go_simp
          exact hK _ _ (But.refl _ _) (trivial) rfl
        · intro f a w' hI hf hanc hdesc hle hs' hd K hK
          obtain ⟨_, t2, rfl⟩ := hd 2 18 (by kernel_rfl)
          have cc := (HC.out w' hle).2
          unfold Go.Rel.stepOf
          go_simp
          exact hK _ _ (But.refl _ _) (trivial) rfl
        · intro f a w' hI hf hanc hdesc hle hs' hd K hK
          have f1 : a.tmps[1]? = some (.pointer (some ⟨X, 0, none⟩)) := hs'.2.2 1 (by kernel_rfl)
          unfold Go.Rel.stepOf
          go_simp
          exact hK _ _ (But.refl _ _) (trivial) rfl
        · intro f a w' hI hf hanc hdesc hle hs' hd K hK
          obtain ⟨_, t4, rfl⟩ := hd 4 20 (by kernel_rfl)
          obtain ⟨⟨d0, d1, d2, d3, d4, d5⟩, _⟩ := HC.out w' hle
          unfold Go.Rel.stepOf
          go_simp
          exact hK _ _ (But.refl _ _) (trivial) rfl
        · intro f a w' hI hf hanc hdesc hle hs' hd K hK
          obtain ⟨_, t3, rfl⟩ := hd 3 19 (by kernel_rfl)
          obtain ⟨_, t5, rfl⟩ := hd 5 21 (by kernel_rfl)
          unfold Go.Rel.stepOf
          go_simp
          refine (push_no (.pointer p) x.u w' (HNo.out w' hle)).mono ?_
          rintro e w2 ⟨rfl, hb5⟩
          exact hK _ _ (But.of_below hb5) trivial rfl
        · intro f a w' hI hf hanc hdesc hle hs' hd K hK
          obtain ⟨_, t6, rfl⟩ := hd 6 22 (by kernel_rfl)
          unfold Go.Rel.stepOf
          go_simp
          exact hK _ _ (But.refl _ _) (trivial) rfl
        · intro f a w' hI hf hanc hdesc hle hs' hd K hK
          obtain ⟨_, tg, rfl⟩ := hd 7 23 (by kernel_rfl)
          have f4 : a.tmps[4]? = some (.slice ((some ⟨X + 1 + 1, 0, none⟩)) 2 2) := hs'.2.2 4 (by kernel_rfl)
          unfold Go.Rel.stepOf
          go_simp
          exact hK _ _ (But.refl _ _) (trivial) rfl
        · intro f a w' hI hf hanc hdesc hle hs' hd K hK
          obtain ⟨_, tg, rfl⟩ := hd 7 23 (by kernel_rfl)
          have f5 : a.tmps[5]? = some (.int .i64 (k : Int)) := hs'.2.2 5 (by kernel_rfl)
          unfold Go.Rel.stepOf
          go_simp
          exact hK _ _ (But.refl _ _) (trivial) rfl
        · intro f a w' hI hf hanc hdesc hle hs' hd K hK
          obtain ⟨_, tg, rfl⟩ := hd 7 23 (by kernel_rfl)
          obtain ⟨_, t8, rfl⟩ := hd 8 24 (by kernel_rfl)
          obtain ⟨_, t9, rfl⟩ := hd 9 25 (by kernel_rfl)
          have q1 := HK.out.1
          have q2 := HK.out.2
          unfold Go.Rel.stepOf
          go_simp
          exact hK _ _ (But.refl _ _) (trivial) rfl
        · intro f a w' hI hf hanc hdesc hle hs' hd K hK
          obtain ⟨_, tg, rfl⟩ := hd 7 23 (by kernel_rfl)
          obtain ⟨_, t10, rfl⟩ := hd 10 26 (by kernel_rfl)
          have cc := (HC.out w' hle).2
          unfold Go.Rel.stepOf
          go_simp
          exact hK _ _ (But.refl _ _) (trivial) rfl
        · intro f a w' hI hf hanc hdesc hle hs' hd K hK
          obtain ⟨_, tg, rfl⟩ := hd 7 23 (by kernel_rfl)
          have f1 : a.tmps[1]? = some (.pointer (some ⟨X, 0, none⟩)) := hs'.2.2 1 (by kernel_rfl)
          unfold Go.Rel.stepOf
          go_simp
          exact hK _ _ (But.refl _ _) (trivial) rfl
        · intro f a w' hI hf hanc hdesc hle hs' hd K hK
          obtain ⟨_, tg, rfl⟩ := hd 7 23 (by kernel_rfl)
          obtain ⟨_, t12, rfl⟩ := hd 12 28 (by kernel_rfl)
          obtain ⟨⟨d0, d1, d2, d3, d4, d5⟩, _⟩ := HC.out w' hle
          unfold Go.Rel.stepOf
          go_simp
          exact hK _ _ (But.refl _ _) (trivial) rfl
        · intro f a w' hI hf hanc hdesc hle hs' hd K hK
          obtain ⟨_, tg, rfl⟩ := hd 7 23 (by kernel_rfl)
          have f1 : a.tmps[1]? = some (.pointer (some ⟨X, 0, none⟩)) := hs'.2.2 1 (by kernel_rfl)
          unfold Go.Rel.stepOf
          go_simp
          exact hK _ _ (But.refl _ _) (trivial) rfl
        · intro f a w' hI hf hanc hdesc hle hs' hd K hK
          obtain ⟨_, tg, rfl⟩ := hd 7 23 (by kernel_rfl)
          obtain ⟨_, t14, rfl⟩ := hd 14 30 (by kernel_rfl)
          obtain ⟨⟨d0, d1, d2, d3, d4, d5⟩, _⟩ := HC.out w' hle
          unfold Go.Rel.stepOf
          go_simp
          exact hK _ _ (But.refl _ _) (trivial) rfl
        · intro f a w' hI hf hanc hdesc hle hs' hd K hK
          obtain ⟨_, tg, rfl⟩ := hd 7 23 (by kernel_rfl)
          obtain ⟨_, t11, rfl⟩ := hd 11 27 (by kernel_rfl)
          obtain ⟨_, t13, rfl⟩ := hd 13 29 (by kernel_rfl)
          obtain ⟨_, t15, rfl⟩ := hd 15 31 (by kernel_rfl)
          unfold Go.Rel.stepOf
          go_simp
          refine (take_no (.pointer p) x.most x.mem w' (HNo.out w' hle)).mono ?_
          rintro e w2 ⟨rfl, rfl⟩
          exact hK _ _ (But.refl _ _) trivial rfl
        · intro f a w' hI hf hanc hdesc hle hs' hd K hK
          obtain ⟨_, tg, rfl⟩ := hd 7 23 (by kernel_rfl)
          obtain ⟨_, t16, rfl⟩ := hd 16 32 (by kernel_rfl)
          unfold Go.Rel.stepOf
          go_simp
          exact hK _ _ (But.refl _ _) (trivial) rfl
        · intro f a w' hI hf hanc hdesc hle hs' hd K hK
          obtain ⟨_, tg, rfl⟩ := hd 7 23 (by kernel_rfl)
          obtain ⟨_, t17, rfl⟩ := hd 17 33 (by kernel_rfl)
          unfold Go.Rel.stepOf
          go_simp
          exact hK _ _ (But.refl _ _) (trivial) rfl
        · intro f a w' hI hf hanc hdesc hle hs' hd K hK
          obtain ⟨_, t7, rfl⟩ := hd 7 23 (by kernel_rfl)
          obtain ⟨_, t18, rfl⟩ := hd 18 34 (by kernel_rfl)
          unfold Go.Rel.stepOf
          go_simp
          exact hK _ _ (But.refl _ _) (trivial) rfl
        · intro f a w' hI hf hanc hdesc hle hs' hd K hK
          obtain ⟨_, t19, rfl⟩ := hd 19 35 (by kernel_rfl)
          unfold Go.Rel.stepOf
          go_simp
          exact hK _ _ (But.refl _ _) (trivial) rfl
        · intro f a w' hI hf hanc hdesc hle hs' hd K hK
          obtain ⟨_, tg, rfl⟩ := hd 20 36 (by kernel_rfl)
          have f4 : a.tmps[4]? = some (.slice ((some ⟨X + 1 + 1, 0, none⟩)) 2 2) := hs'.2.2 4 (by kernel_rfl)
          unfold Go.Rel.stepOf
          go_simp
          exact hK _ _ (But.refl _ _) (trivial) rfl
        · intro f a w' hI hf hanc hdesc hle hs' hd K hK
          obtain ⟨_, tg, rfl⟩ := hd 20 36 (by kernel_rfl)
          have f5 : a.tmps[5]? = some (.int .i64 (k : Int)) := hs'.2.2 5 (by kernel_rfl)
          unfold Go.Rel.stepOf
          go_simp
          exact hK _ _ (But.refl _ _) (trivial) rfl
        · intro f a w' hI hf hanc hdesc hle hs' hd K hK
          obtain ⟨_, tg, rfl⟩ := hd 20 36 (by kernel_rfl)
          obtain ⟨_, t21, rfl⟩ := hd 21 37 (by kernel_rfl)
          obtain ⟨_, t22, rfl⟩ := hd 22 38 (by kernel_rfl)
          have q1 := HK.out.1
          have q2 := HK.out.2
          unfold Go.Rel.stepOf
          go_simp
          exact hK _ _ (But.refl _ _) (trivial) rfl
        · intro f a w' hI hf hanc hdesc hle hs' hd K hK
          obtain ⟨_, tg, rfl⟩ := hd 20 36 (by kernel_rfl)
          obtain ⟨_, t23, rfl⟩ := hd 23 39 (by kernel_rfl)
          have cc := (HC.out w' hle).2
          unfold Go.Rel.stepOf
          go_simp
          exact hK _ _ (But.refl _ _) (trivial) rfl
        · intro f a w' hI hf hanc hdesc hle hs' hd K hK
          obtain ⟨_, tg, rfl⟩ := hd 20 36 (by kernel_rfl)
          have f1 : a.tmps[1]? = some (.pointer (some ⟨X, 0, none⟩)) := hs'.2.2 1 (by kernel_rfl)
          unfold Go.Rel.stepOf
          go_simp
          exact hK _ _ (But.refl _ _) (trivial) rfl
        · intro f a w' hI hf hanc hdesc hle hs' hd K hK
          obtain ⟨_, tg, rfl⟩ := hd 20 36 (by kernel_rfl)
          obtain ⟨_, t25, rfl⟩ := hd 25 41 (by kernel_rfl)
          obtain ⟨⟨d0, d1, d2, d3, d4, d5⟩, _⟩ := HC.out w' hle
          unfold Go.Rel.stepOf
          go_simp
          exact hK _ _ (But.refl _ _) (trivial) rfl
        · intro f a w' hI hf hanc hdesc hle hs' hd K hK
          obtain ⟨_, tg, rfl⟩ := hd 20 36 (by kernel_rfl)
          obtain ⟨_, t24, rfl⟩ := hd 24 40 (by kernel_rfl)
          obtain ⟨_, t26, rfl⟩ := hd 26 42 (by kernel_rfl)
          unfold Go.Rel.stepOf
          go_simp
          refine (limit_no (.pointer p) x.mem w' (HNo.out w' hle)).mono ?_
          rintro e w2 ⟨rfl, rfl⟩
          exact hK _ _ (But.refl _ _) trivial rfl
        · intro f a w' hI hf hanc hdesc hle hs' hd K hK
          obtain ⟨_, tg, rfl⟩ := hd 20 36 (by kernel_rfl)
          obtain ⟨_, t27, rfl⟩ := hd 27 43 (by kernel_rfl)
          unfold Go.Rel.stepOf
          go_simp
          exact hK _ _ (But.refl _ _) (trivial) rfl
        · intro f a w' hI hf hanc hdesc hle hs' hd K hK
          obtain ⟨_, t20, rfl⟩ := hd 20 36 (by kernel_rfl)
          obtain ⟨_, t28, rfl⟩ := hd 28 44 (by kernel_rfl)
          unfold Go.Rel.stepOf
          go_simp
          exact hK _ _ (But.refl _ _) (trivial) rfl
        · intro f a w' hI hf hanc hdesc hle hs' hd K hK
          obtain ⟨_, t29, rfl⟩ := hd 29 45 (by kernel_rfl)
          unfold Go.Rel.stepOf
          go_simp
          exact hK _ _ (But.refl _ _) (trivial) rfl
        · intro f a w' hI hf hanc hdesc hle hs' hd K hK
          obtain ⟨_, tg, rfl⟩ := hd 30 46 (by kernel_rfl)
          have f4 : a.tmps[4]? = some (.slice ((some ⟨X + 1 + 1, 0, none⟩)) 2 2) := hs'.2.2 4 (by kernel_rfl)
          unfold Go.Rel.stepOf
          go_simp
          exact hK _ _ (But.refl _ _) (trivial) rfl
        · intro f a w' hI hf hanc hdesc hle hs' hd K hK
          obtain ⟨_, tg, rfl⟩ := hd 30 46 (by kernel_rfl)
          have f5 : a.tmps[5]? = some (.int .i64 (k : Int)) := hs'.2.2 5 (by kernel_rfl)
          unfold Go.Rel.stepOf
          go_simp
          exact hK _ _ (But.refl _ _) (trivial) rfl
        · intro f a w' hI hf hanc hdesc hle hs' hd K hK
          obtain ⟨_, tg, rfl⟩ := hd 30 46 (by kernel_rfl)
          obtain ⟨_, t31, rfl⟩ := hd 31 47 (by kernel_rfl)
          obtain ⟨_, t32, rfl⟩ := hd 32 48 (by kernel_rfl)
          have q1 := HK.out.1
          have q2 := HK.out.2
          unfold Go.Rel.stepOf
          go_simp
          exact hK _ _ (But.refl _ _) (trivial) rfl
        · intro f a w' hI hf hanc hdesc hle hs' hd K hK
          obtain ⟨_, tg, rfl⟩ := hd 30 46 (by kernel_rfl)
          obtain ⟨_, t33, rfl⟩ := hd 33 49 (by kernel_rfl)
          have cc := (HC.out w' hle).2
          unfold Go.Rel.stepOf
          go_simp
          exact hK _ _ (But.refl _ _) (trivial) rfl
        · intro f a w' hI hf hanc hdesc hle hs' hd K hK
          obtain ⟨_, tg, rfl⟩ := hd 30 46 (by kernel_rfl)
          obtain ⟨_, t34, rfl⟩ := hd 34 50 (by kernel_rfl)
          unfold Go.Rel.stepOf
          go_simp
          refine (list_no (.pointer p) w' (HNo.out w' hle)).mono ?_
          rintro e w2 ⟨rfl, rfl⟩
          exact hK _ _ (But.refl _ _) trivial rfl
        · intro f a w' hI hf hanc hdesc hle hs' hd K hK
          obtain ⟨_, tg, rfl⟩ := hd 30 46 (by kernel_rfl)
          obtain ⟨_, t35, rfl⟩ := hd 35 51 (by kernel_rfl)
          unfold Go.Rel.stepOf
          go_simp
          exact hK _ _ (But.refl _ _) (trivial) rfl
        · intro f a w' hI hf hanc hdesc hle hs' hd K hK
          obtain ⟨_, tg, rfl⟩ := hd 30 46 (by kernel_rfl)
          obtain ⟨_, t36, rfl⟩ := hd 36 52 (by kernel_rfl)
          unfold Go.Rel.stepOf
          go_simp
          exact hK _ _ (But.refl _ _) (trivial) rfl
        · intro f a w' hI hf hanc hdesc hle hs' hd K hK
          obtain ⟨_, t30, rfl⟩ := hd 30 46 (by kernel_rfl)
          obtain ⟨_, t37, rfl⟩ := hd 37 53 (by kernel_rfl)
          unfold Go.Rel.stepOf
          go_simp
          exact hK _ _ (But.refl _ _) (trivial) rfl
        · intro f a w' hI hf hanc hdesc hle hs' hd K hK
          obtain ⟨_, t38, rfl⟩ := hd 38 54 (by kernel_rfl)
          unfold Go.Rel.stepOf
          go_simp
          exact hK _ _ (But.refl _ _) (trivial) rfl
        · intro f a w' hI hf hanc hdesc hle hs' hd K hK
          obtain ⟨_, tg, rfl⟩ := hd 39 55 (by kernel_rfl)
          have f4 : a.tmps[4]? = some (.slice ((some ⟨X + 1 + 1, 0, none⟩)) 2 2) := hs'.2.2 4 (by kernel_rfl)
          unfold Go.Rel.stepOf
          go_simp
          exact hK _ _ (But.refl _ _) (trivial) rfl
        · intro f a w' hI hf hanc hdesc hle hs' hd K hK
          obtain ⟨_, tg, rfl⟩ := hd 39 55 (by kernel_rfl)
          have f5 : a.tmps[5]? = some (.int .i64 (k : Int)) := hs'.2.2 5 (by kernel_rfl)
          unfold Go.Rel.stepOf
          go_simp
          exact hK _ _ (But.refl _ _) (trivial) rfl
        · intro f a w' hI hf hanc hdesc hle hs' hd K hK
          obtain ⟨_, tg, rfl⟩ := hd 39 55 (by kernel_rfl)
          obtain ⟨_, t40, rfl⟩ := hd 40 56 (by kernel_rfl)
          obtain ⟨_, t41, rfl⟩ := hd 41 57 (by kernel_rfl)
          have q1 := HK.out.1
          have q2 := HK.out.2
          unfold Go.Rel.stepOf
          go_simp
          exact hK _ _ (But.refl _ _) (trivial) rfl
        · intro f a w' hI hf hanc hdesc hle hs' hd K hK
          obtain ⟨_, tg, rfl⟩ := hd 39 55 (by kernel_rfl)
          obtain ⟨_, t42, rfl⟩ := hd 42 58 (by kernel_rfl)
          have cc := (HC.out w' hle).2
          unfold Go.Rel.stepOf
          go_simp
          exact hK _ _ (But.refl _ _) (trivial) rfl
        · intro f a w' hI hf hanc hdesc hle hs' hd K hK
          obtain ⟨_, tg, rfl⟩ := hd 39 55 (by kernel_rfl)
          have f1 : a.tmps[1]? = some (.pointer (some ⟨X, 0, none⟩)) := hs'.2.2 1 (by kernel_rfl)
          unfold Go.Rel.stepOf
          go_simp
          exact hK _ _ (But.refl _ _) (trivial) rfl
        · intro f a w' hI hf hanc hdesc hle hs' hd K hK
          obtain ⟨_, tg, rfl⟩ := hd 39 55 (by kernel_rfl)
          obtain ⟨_, t44, rfl⟩ := hd 44 60 (by kernel_rfl)
          obtain ⟨⟨d0, d1, d2, d3, d4, d5⟩, _⟩ := HC.out w' hle
          unfold Go.Rel.stepOf
          go_simp
          exact hK _ _ (But.refl _ _) (trivial) rfl
        · intro f a w' hI hf hanc hdesc hle hs' hd K hK
          obtain ⟨_, tg, rfl⟩ := hd 39 55 (by kernel_rfl)
          obtain ⟨_, t43, rfl⟩ := hd 43 59 (by kernel_rfl)
          obtain ⟨_, t45, rfl⟩ := hd 45 61 (by kernel_rfl)
          unfold Go.Rel.stepOf
          go_simp
          refine (has_no (.pointer p) x.u w' (HNo.out w' hle)).mono ?_
          rintro e w2 ⟨rfl, hb5⟩
          exact hK _ _ (But.of_below hb5) trivial rfl
        · intro f a w' hI hf hanc hdesc hle hs' hd K hK
          obtain ⟨_, t39, rfl⟩ := hd 39 55 (by kernel_rfl)
          obtain ⟨_, t46, rfl⟩ := hd 46 62 (by kernel_rfl)
          unfold Go.Rel.stepOf
          go_simp
          exact hK _ _ (But.refl _ _) (trivial) rfl

      case he =>
        intro f a w7 hall hI hle hs' hR'
        obtain ⟨v16, s16, _⟩ := hR' 0 16 (by kernel_rfl)
        obtain ⟨v17, s17, _⟩ := hR' 1 17 (by kernel_rfl)
        obtain ⟨v18, s18, _⟩ := hR' 2 18 (by kernel_rfl)
        obtain ⟨v19, s19, _⟩ := hR' 3 19 (by kernel_rfl)
        obtain ⟨v20, s20, _⟩ := hR' 4 20 (by kernel_rfl)
        obtain ⟨v21, s21, _⟩ := hR' 5 21 (by kernel_rfl)
        obtain ⟨v22, s22, _⟩ := hR' 6 22 (by kernel_rfl)
        obtain ⟨v23, s23, _⟩ := hR' 7 23 (by kernel_rfl)
        obtain ⟨v24, s24, _⟩ := hR' 8 24 (by kernel_rfl)
        obtain ⟨v25, s25, _⟩ := hR' 9 25 (by kernel_rfl)
        obtain ⟨v26, s26, _⟩ := hR' 10 26 (by kernel_rfl)
        obtain ⟨v27, s27, _⟩ := hR' 11 27 (by kernel_rfl)
        obtain ⟨v28, s28, _⟩ := hR' 12 28 (by kernel_rfl)
        obtain ⟨v29, s29, _⟩ := hR' 13 29 (by kernel_rfl)
        obtain ⟨v30, s30, _⟩ := hR' 14 30 (by kernel_rfl)
        obtain ⟨v31, s31, _⟩ := hR' 15 31 (by kernel_rfl)
        obtain ⟨v32, s32, _⟩ := hR' 16 32 (by kernel_rfl)
        obtain ⟨v33, s33, _⟩ := hR' 17 33 (by kernel_rfl)
        obtain ⟨v34, s34, _⟩ := hR' 18 34 (by kernel_rfl)
        obtain ⟨v35, s35, _⟩ := hR' 19 35 (by kernel_rfl)
        obtain ⟨v36, s36, _⟩ := hR' 20 36 (by kernel_rfl)
        obtain ⟨v37, s37, _⟩ := hR' 21 37 (by kernel_rfl)
        obtain ⟨v38, s38, _⟩ := hR' 22 38 (by kernel_rfl)
        obtain ⟨v39, s39, _⟩ := hR' 23 39 (by kernel_rfl)
        obtain ⟨v40, s40, _⟩ := hR' 24 40 (by kernel_rfl)
        obtain ⟨v41, s41, _⟩ := hR' 25 41 (by kernel_rfl)
        obtain ⟨v42, s42, _⟩ := hR' 26 42 (by kernel_rfl)
        obtain ⟨v43, s43, _⟩ := hR' 27 43 (by kernel_rfl)
        obtain ⟨v44, s44, _⟩ := hR' 28 44 (by kernel_rfl)
        obtain ⟨v45, s45, _⟩ := hR' 29 45 (by kernel_rfl)
        obtain ⟨v46, s46, _⟩ := hR' 30 46 (by kernel_rfl)
        obtain ⟨v47, s47, _⟩ := hR' 31 47 (by kernel_rfl)
        obtain ⟨v48, s48, _⟩ := hR' 32 48 (by kernel_rfl)
        obtain ⟨v49, s49, _⟩ := hR' 33 49 (by kernel_rfl)
        obtain ⟨v50, s50, _⟩ := hR' 34 50 (by kernel_rfl)
        obtain ⟨v51, s51, _⟩ := hR' 35 51 (by kernel_rfl)
        obtain ⟨v52, s52, _⟩ := hR' 36 52 (by kernel_rfl)
        obtain ⟨v53, s53, _⟩ := hR' 37 53 (by kernel_rfl)
        obtain ⟨v54, s54, _⟩ := hR' 38 54 (by kernel_rfl)
        obtain ⟨v55, s55, _⟩ := hR' 39 55 (by kernel_rfl)
        obtain ⟨v56, s56, _⟩ := hR' 40 56 (by kernel_rfl)
        obtain ⟨v57, s57, _⟩ := hR' 41 57 (by kernel_rfl)
        obtain ⟨v58, s58, _⟩ := hR' 42 58 (by kernel_rfl)
        obtain ⟨v59, s59, _⟩ := hR' 43 59 (by kernel_rfl)
        obtain ⟨v60, s60, _⟩ := hR' 44 60 (by kernel_rfl)
        obtain ⟨v61, s61, _⟩ := hR' 45 61 (by kernel_rfl)
        obtain ⟨v62, s62, _⟩ := hR' 46 62 (by kernel_rfl)
        obtain ⟨_, s63, rfl⟩ := hR' 47 63 (by kernel_rfl)
        have e := hs'.shape
        simp only [List.toList_toArray, List.foldl, Go.Rel.reset, Array.getD_eq_getD_getElem?, s16, s17, s18, s19, s20, s21, s22, s23, s24, s25, s26, s27, s28, s29, s30, s31, s32, s33, s34, s35, s36, s37, s38, s39, s40, s41, s42, s43, s44, s45, s46, s47, s48, s49, s50, s51, s52, s53, s54, s55, s56, s57, s58, s59, s60, s61, s62, s63, Option.getD_some] at e
        simp at e
        clear hR' hs' s16 s17 s18 s19 s20 s21 s22 s23 s24 s25 s26 s27 s28 s29 s30 s31 s32 s33 s34 s35 s36 s37 s38 s39 s40 s41 s42 s43 s44 s45 s46 s47 s48 s49 s50 s51 s52 s53 s54 s55 s56 s57 s58 s59 s60 s61 s62 s63
        subst e

        have H_w7 := Lib.hid (HIn.out w7 hle)
        clear hall hI hle
        go_wp2
        go_roundw
        case rel => exact ⟨k + 1, by omega, by go_num, H_w7⟩
        case measure => simp [intOf]; omega
    · obtain rfl : k = 2 := by omega
      go_wp2_with fail
      refine (HWk.out _).mono ?_
      rintro e w9 ⟨rfl, hb⟩
      have HB := Lib.hid (H_wr.out.then_ hb).below
      clear hb
      go_wp2
      go_ret
      exact ⟨rfl, HB.out⟩
end Go.Proofs.Ytphkaohcfgmmkaa
