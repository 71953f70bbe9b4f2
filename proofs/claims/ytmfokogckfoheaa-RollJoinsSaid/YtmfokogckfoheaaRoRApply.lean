/-
  Leave and Apply of the document's roll, walked (layer 9).
-/
import Derived.Test.YtmfokogckfoheaaRoRef
namespace Go.Proofs.Ytmfokogckfoheaa
open Go.RowKit Go.Maps
set_option linter.unusedSimpArgs false
set_option linter.unusedVariables false

/-- What they leave. -/
def RLvPost (w : World) (base B : Nat) (u : Up) (is : Bool) (r : Ro) (e : Ending) (w' : World) : Prop := e = .returned (.tuple #[.agg #[.int .i64 u.node, .int .u32 (u.inc : Int), .int .i64 u.st], .bool is]) ∧ (∃ v, RrAt w' base B v r) ∧ But (· = B) w w'
def RApPost (w : World) (base B : Nat) (k : Nat) (a b : Up) (r : Ro) (e : Ending) (w' : World) : Prop := e = .returned (.tuple #[.int .i64 (k : Int), .agg #[.int .i64 a.node, .int .u32 (a.inc : Int), .int .i64 a.st], .agg #[.int .i64 b.node, .int .u32 (b.inc : Int), .int .i64 b.st]]) ∧ (∃ v, RrAt w' base B v r) ∧ But (· = B) w w'
/-- The world in which Apply has laid its variables. -/
structure RaIn (w W : World) (B X : Nat) (u : Up) : Prop where
  base : w.heap.size = X
  lt : B < X
  but : But (· = B) w W
  b0 : W.heap[X]? = some (.cells #[.int .i64 u.node, .int .u32 (u.inc : Int), .int .i64 u.st] 32)
  b1 : W.heap[X + 1]? = some (.cells #[.int .i64 0, .int .u32 0, .int .i64 0] 32)
  b2 : W.heap[X + 1 + 1]? = some (.cells #[.int .i64 0, .int .u32 0, .int .i64 0] 32)
theorem RaIn.mk_ (w : World) (B : Nat) (u : Up) (h : B < w.heap.size) : RaIn w (((w.alloc (.cells #[.int .i64 u.node, .int .u32 (u.inc : Int), .int .i64 u.st] 32)).alloc (.cells #[.int .i64 0, .int .u32 0, .int .i64 0] 32)).alloc (.cells #[.int .i64 0, .int .u32 0, .int .i64 0] 32)) B w.heap.size u := by
  refine ⟨rfl, h, But.of_below ((below2 w _ _).alloc (by simp; omega) _), ?_, ?_, ?_⟩
  · rw [Below.heap_alloc _ _ _ (by simp; omega), Below.heap_alloc _ _ _ (by simp)]
    exact heap_alloc_new w _
  · rw [Below.heap_alloc _ _ _ (by simp)]
    have := heap_alloc_new (w.alloc (.cells #[.int .i64 u.node, .int .u32 (u.inc : Int), .int .i64 u.st] 32)) (.cells #[.int .i64 0, .int .u32 0, .int .i64 0] 32)
    simpa using this
  · have := heap_alloc_new ((w.alloc (.cells #[.int .i64 u.node, .int .u32 (u.inc : Int), .int .i64 u.st] 32)).alloc (.cells #[.int .i64 0, .int .u32 0, .int .i64 0] 32)) (.cells #[.int .i64 0, .int .u32 0, .int .i64 0] 32)
    simpa using this
theorem RaIn.then_ {w W W' : World} {B X : Nat} {u : Up} (h : RaIn w W B X u) (hb : But (· = B) W W') : RaIn w W' B X u := by
  have hl := h.lt
  exact ⟨h.base, h.lt, h.but.trans hb, (hb.block _ (block_lt h.b0) (by omega)).trans h.b0, (hb.block _ (block_lt h.b1) (by omega)).trans h.b1, (hb.block _ (block_lt h.b2) (by omega)).trans h.b2⟩
theorem RaIn.below {w W W' : World} {B X : Nat} {u : Up} (h : RaIn w W B X u) (hb : Below W.heap.size W W') : RaIn w W' B X u := h.then_ (But.of_below hb)
/-- Block X + 1 has a, X + 2 has b, as soon as operations 3 and 4 have been done. -/
structure TwoI (X : Nat) (a b : Up) (f : Nat → Bool) (w : World) : Prop where
  z3 : f 3 = false → w.heap[X + 1]? = some (.cells #[.int .i64 0, .int .u32 0, .int .i64 0] 32)
  a3 : f 3 = true → w.heap[X + 1]? = some (.cells #[.int .i64 a.node, .int .u32 (a.inc : Int), .int .i64 a.st] 32)
  z4 : f 4 = false → w.heap[X + 1 + 1]? = some (.cells #[.int .i64 0, .int .u32 0, .int .i64 0] 32)
  b4 : f 4 = true → w.heap[X + 1 + 1]? = some (.cells #[.int .i64 b.node, .int .u32 (b.inc : Int), .int .i64 b.st] 32)
theorem TwoI.keep {X : Nat} {a b : Up} {f : Nat → Bool} {w : World} (h : TwoI X a b f w) {i : Nat} (h3 : 3 ≠ i) (h4 : 4 ≠ i) : TwoI X a b (Go.Rel.upd f i) w := by
  have e3 : Go.Rel.upd f i 3 = f 3 := by unfold Go.Rel.upd; simp [h3]
  have e4 : Go.Rel.upd f i 4 = f 4 := by unfold Go.Rel.upd; simp [h4]
  exact ⟨fun k => h.z3 (e3 ▸ k), fun k => h.a3 (e3 ▸ k), fun k => h.z4 (e4 ▸ k), fun k => h.b4 (e4 ▸ k)⟩
theorem TwoI.st3 {X : Nat} {a b : Up} {f : Nat → Bool} {w : World} (h : TwoI X a b f w) (hf : f 3 = false) : TwoI X a b (Go.Rel.upd f 3) (((w.setCell ⟨X + 1, 0, none⟩ (.int .i64 a.node)).setCell ⟨X + 1, 1, none⟩ (.int .u32 (a.inc : Int))).setCell ⟨X + 1, 2, none⟩ (.int .i64 a.st)) := by
  have e3 : Go.Rel.upd f 3 3 = true := by simp [Go.Rel.upd]
  have e4 : Go.Rel.upd f 3 4 = f 4 := by simp [Go.Rel.upd]
  have hb := set3_but w (X + 1) (.int .i64 a.node) (.int .u32 (a.inc : Int)) (.int .i64 a.st)
  refine ⟨(fun k => by rw [e3] at k; cases k), fun _ => set3_blk (h.z3 hf) _ _ _, fun k => ?_, fun k => ?_⟩
  · have := h.z4 (e4 ▸ k)
    exact (hb.block _ (block_lt this) (by omega)).trans this
  · have := h.b4 (e4 ▸ k)
    exact (hb.block _ (block_lt this) (by omega)).trans this
theorem TwoI.st4 {X : Nat} {a b : Up} {f : Nat → Bool} {w : World} (h : TwoI X a b f w) (hf : f 4 = false) : TwoI X a b (Go.Rel.upd f 4) (((w.setCell ⟨X + 1 + 1, 0, none⟩ (.int .i64 b.node)).setCell ⟨X + 1 + 1, 1, none⟩ (.int .u32 (b.inc : Int))).setCell ⟨X + 1 + 1, 2, none⟩ (.int .i64 b.st)) := by
  have e3 : Go.Rel.upd f 4 3 = f 3 := by simp [Go.Rel.upd]
  have e4 : Go.Rel.upd f 4 4 = true := by simp [Go.Rel.upd]
  have hb := set3_but w (X + 1 + 1) (.int .i64 b.node) (.int .u32 (b.inc : Int)) (.int .i64 b.st)
  refine ⟨fun k => ?_, fun k => ?_, (fun k => by rw [e4] at k; cases k), fun _ => set3_blk (h.z4 hf) _ _ _⟩
  · have := h.z3 (e3 ▸ k)
    exact (hb.block _ (block_lt this) (by omega)).trans this
  · have := h.a3 (e3 ▸ k)
    exact (hb.block _ (block_lt this) (by omega)).trans this
def twoV (a b c : Value) : Nat → Value → World → Prop
  | 0, v, _ => v = a
  | 1, v, _ => v = b
  | 2, v, _ => v = c
  | _, _, _ => True
theorem twoV_stable (X : Nat) (a b c : Value) : ∀ i v w w', twoV a b c i v w → But (fun k => k = X + 1 ∨ k = X + 1 + 1) w w' → twoV a b c i v w'
  | 0, _, _, _, h, _ | 1, _, _, _, h, _ | 2, _, _, _, h, _ | _ + 3, _, _, _, h, _ => h
theorem RrAt.set3 {w : World} {base B : Nat} {v : Value} {r : Ro} (h : RrAt w base B v r) {Y : Nat} (hY : B < Y) (hv : ∀ b, v.ownBlock = some b → b ≠ Y) (a b c : Value) : RrAt (((w.setCell ⟨Y, 0, none⟩ a).setCell ⟨Y, 1, none⟩ b).setCell ⟨Y, 2, none⟩ c) base B v r :=
  h.but (set3_but w Y a b c) (by omega) (fun b hb e => hv b hb e)
theorem RrAt.drew_ {w : World} {base B : Nat} {v : Value} {r : Ro} (h : RrAt w base B v r) : RrAt w.drew base B v r := ⟨h.blk, own_but h.row (But.refl (fun _ => False) _).drew (fun _ _ h => h), h.ok⟩
def rapR (G : Nat) (B : Nat) (X : Nat) (u : Up) (A : Option Addr) (n : Nat) (c : Nat) (old : Up) (is : Bool) : Nat → Value → World → Prop
  | 0, v, _ => v = .pointer (some ⟨B, 0, none⟩)
  | 1, v, _ => v = .pointer (some ⟨B, 0, none⟩)
  | 2, v, _ => v = .pointer (some ⟨B, 1, none⟩)
  | 3, v, _ => v = .slice A n c
  | 4, v, _ => v = .pointer (some ⟨X, 0, none⟩)
  | 5, v, _ => v = .int .i64 u.node
  | 6, v, _ => v = .tuple #[.agg #[.int .i64 old.node, .int .u32 (old.inc : Int), .int .i64 old.st], .bool is]
  | 7, v, _ => v = .tuple #[.agg #[.int .i64 old.node, .int .u32 (old.inc : Int), .int .i64 old.st], .bool is]
  | 8, v, _ => v = .agg #[.int .i64 old.node, .int .u32 (old.inc : Int), .int .i64 old.st]
  | 9, v, _ => v = .bool is
  | 10, v, w => ∃ B, v = .pointer (some ⟨B, 0, none⟩) ∧ G ≤ B ∧ ∃ u0 u1 u2, w.heap[B]? = some (.cells #[u0, u1, u2] TU (0, 0))
  | 12, v, _ => v = .bool is
  | _, _, _ => True
theorem rapR_stable (G : Nat) (B : Nat) (X : Nat) (u : Up) (A : Option Addr) (n : Nat) (c : Nat) (old : Up) (is : Bool) : ∀ i v w w', rapR G B X u A n c old is i v w → LeT G w w' → rapR G B X u A n c old is i v w'
  | 0, _, _, _, h, _ | 1, _, _, _, h, _ | 2, _, _, _, h, _ | 3, _, _, _, h, _ | 4, _, _, _, h, _ | 5, _, _, _, h, _ | 6, _, _, _, h, _ | 7, _, _, _, h, _ | 8, _, _, _, h, _ | 9, _, _, _, h, _ | 11, _, _, _, h, _ | 12, _, _, _, h, _ => h
  | 10, _, _, _, ⟨B, e, hB, u0, u1, u2, h⟩, g => ⟨B, e, hB, g.var B u0 u1 u2 hB h⟩
  | _ + 13, _, _, _, h, _ => h
theorem row_old {w wz : World} {base B X : Nat} {v : Value} {r r2 : Ro} (h : RrAt w base B v r) {b : Nat} (hb : v.ownBlock = some b) (hX : w.heap.size = X) : b ≠ X + 1 ∧ b ≠ X + 1 + 1 := by
  obtain ⟨cur, hc⟩ := row_cells h.row hb
  have := block_lt hc
  omega
set_option maxHeartbeats 16000000 in
set_option maxRecDepth 100000 in
theorem rapply_wrong {base B : Nat} {v0 : Value} {r : Ro} (u old : Up) (w : World) (hR : RrAt w base B v0 r) (hbase : base ≤ w.heap.size) (hr : u.right = false) :
    Calls Try.prog 14 #[.pointer (some ⟨B, 0, none⟩), .agg #[.int .i64 u.node, .int .u32 (u.inc : Int), .int .i64 u.st]] w (RApPost w base B 0 zU zU r) := by
  have HPr := Lib.hid (fun w => rright_any u w false hr)
  clear hr
  have hlB := hR.lt
  have HR := Lib.hid hR
  have HBs := Lib.hid hbase
  have hA := RaIn.mk_ w B u hlB
  obtain ⟨X, hX⟩ : ∃ X, w.heap.size = X := ⟨_, rfl⟩
  obtain ⟨W, hW⟩ : ∃ W, ((w.alloc (.cells #[.int .i64 u.node, .int .u32 (u.inc : Int), .int .i64 u.st] 32)).alloc (.cells #[.int .i64 0, .int .u32 0, .int .i64 0] 32)).alloc (.cells #[.int .i64 0, .int .u32 0, .int .i64 0] 32) = W := ⟨_, rfl⟩
  have hb0 : Below w.heap.size w W := by rw [← hW]; exact (below2 w _ _).alloc (by simp; omega) _
  rw [hX, hW] at hA
  obtain ⟨c0, c1, c2⟩ := blk3 hA.b0
  have HA := Lib.hid hA
  have HB0 := Lib.hid hb0
  have HX := Lib.hid hX
  have HW := Lib.hid hW
  clear hR hA hX hW hlB hb0 hbase
  go_enter Try.func14, Try.ntmps14
  go_wp2_with fail
  rw [HW.out, HX.out]
  refine (HPr.out _).mono ?_
  rintro e w1 ⟨rfl, hb1⟩
  have hA1 := HA.out.below hb1
  have hR1 := (HR.out.below HB0.out).below hb1
  have HB1 := Lib.hid (HB0.out.trans (hb1.mono HB0.out.size))
  clear c0 c1 c2 hb1
  have HA_w1 := Lib.hid hA1
  have HR_w1 := Lib.hid hR1
  clear hA1 hR1
  obtain ⟨e0, e1, e2⟩ := blk3 HA_w1.out.b1
  obtain ⟨e3, e4, e5⟩ := blk3 HA_w1.out.b2
  have f0 := blk_froz HA_w1.out.b1 0
  have f1 := blk_froz HA_w1.out.b1 1
  have f2 := blk_froz HA_w1.out.b1 2
  have f3 := blk_froz HA_w1.out.b2 0
  have f4 := blk_froz HA_w1.out.b2 1
  have f5 := blk_froz HA_w1.out.b2 2
  have hA1q := set3_blk HA_w1.out.b1 (.int .i64 0) (.int .u32 0) (.int .i64 0)
  have hB1q := ((set3_but (((w1.setCell ⟨(X + 1), 0, none⟩ (.int .i64 0)).setCell ⟨(X + 1), 1, none⟩ (.int .u32 0)).setCell ⟨(X + 1), 2, none⟩ (.int .i64 0)) (X + 1 + 1) (.int .i64 0) (.int .u32 0) (.int .i64 0)).block (X + 1) (block_lt hA1q) (by omega)).trans hA1q
  have hA2q := set3_blk (((set3_but w1 (X + 1) (.int .i64 0) (.int .u32 0) (.int .i64 0)).block (X + 1 + 1) (block_lt HA_w1.out.b2) (by omega)).trans HA_w1.out.b2) (.int .i64 0) (.int .u32 0) (.int .i64 0)
  have HQ := Lib.hid (And.intro hB1q hA2q)
  have hC1q := set3_blk HA_w1.out.b2 (.int .i64 0) (.int .u32 0) (.int .i64 0)
  have hD1q := ((set3_but (((w1.setCell ⟨(X + 1 + 1), 0, none⟩ (.int .i64 0)).setCell ⟨(X + 1 + 1), 1, none⟩ (.int .u32 0)).setCell ⟨(X + 1 + 1), 2, none⟩ (.int .i64 0)) (X + 1) (.int .i64 0) (.int .u32 0) (.int .i64 0)).block (X + 1 + 1) (block_lt hC1q) (by omega)).trans hC1q
  have hC2q := set3_blk (((set3_but w1 (X + 1 + 1) (.int .i64 0) (.int .u32 0) (.int .i64 0)).block (X + 1) (block_lt HA_w1.out.b1) (by omega)).trans HA_w1.out.b1) (.int .i64 0) (.int .u32 0) (.int .i64 0)
  have HP := Lib.hid (And.intro hC2q hD1q)
  clear hA1q hB1q hA2q hC1q hD1q hC2q
  go_wp2
  have hsz := HX.out
  have hlt := HA_w1.out.lt
  obtain ⟨vq, hRq, hvq⟩ := (show ∃ v, RrAt _ base B v r ∧ ∀ b, v.ownBlock = some b → b ≠ X + 1 ∧ b ≠ X + 1 + 1 from ⟨_, HR_w1.out, fun b hb => row_old (wz := w) (r2 := r) HR.out hb HX.out⟩)
  first
    | (obtain ⟨g0, g1, g2⟩ := blk3 HQ.out.1
       obtain ⟨g3, g4, g5⟩ := blk3 HQ.out.2
       refine bodyPost_ret (v := .tuple #[.int .i64 0, .agg #[.int .i64 0, .int .u32 0, .int .i64 0], .agg #[.int .i64 0, .int .u32 0, .int .i64 0]]) (by simp [results, Try.results14, go_sem, g0, g1, g2, g3, g4, g5]) rfl ⟨rfl, ⟨vq, ?_⟩, ?_⟩
       · first
           | exact (hRq.set3 (by omega) (fun b hb => (hvq b hb).1) _ _ _).set3 (by omega) (fun b hb => (hvq b hb).2) _ _ _
           | exact RrAt.drew_ ((hRq.set3 (by omega) (fun b hb => (hvq b hb).1) _ _ _).set3 (by omega) (fun b hb => (hvq b hb).2) _ _ _)
       · first
           | exact ((HA_w1.out.but.then_ (set3_but _ (X + 1) _ _ _) (fun i e hi => by omega)).then_ (set3_but _ (X + 1 + 1) _ _ _) (fun i e hi => by omega))
           | exact ((HA_w1.out.but.then_ (set3_but _ (X + 1) _ _ _) (fun i e hi => by omega)).then_ (set3_but _ (X + 1 + 1) _ _ _) (fun i e hi => by omega)).drew)
    | (obtain ⟨g0, g1, g2⟩ := blk3 HP.out.1
       obtain ⟨g3, g4, g5⟩ := blk3 HP.out.2
       refine bodyPost_ret (v := .tuple #[.int .i64 0, .agg #[.int .i64 0, .int .u32 0, .int .i64 0], .agg #[.int .i64 0, .int .u32 0, .int .i64 0]]) (by simp [results, Try.results14, go_sem, g0, g1, g2, g3, g4, g5]) rfl ⟨rfl, ⟨vq, ?_⟩, ?_⟩
       · first
           | exact (hRq.set3 (by omega) (fun b hb => (hvq b hb).2) _ _ _).set3 (by omega) (fun b hb => (hvq b hb).1) _ _ _
           | exact RrAt.drew_ ((hRq.set3 (by omega) (fun b hb => (hvq b hb).2) _ _ _).set3 (by omega) (fun b hb => (hvq b hb).1) _ _ _)
       · first
           | exact ((HA_w1.out.but.then_ (set3_but _ (X + 1 + 1) _ _ _) (fun i e hi => by omega)).then_ (set3_but _ (X + 1) _ _ _) (fun i e hi => by omega))
           | exact ((HA_w1.out.but.then_ (set3_but _ (X + 1 + 1) _ _ _) (fun i e hi => by omega)).then_ (set3_but _ (X + 1) _ _ _) (fun i e hi => by omega)).drew)
set_option maxHeartbeats 16000000 in
set_option maxRecDepth 100000 in
theorem rapply_gone {base B : Nat} {v0 : Value} {r : Ro} (u old : Up) (w : World) (hR : RrAt w base B v0 r) (hbase : base ≤ w.heap.size) (hr : u.right = true) (ho : u.node = r.own) (hold : old = r.selfU) (hg : old.st = 3) :
    Calls Try.prog 14 #[.pointer (some ⟨B, 0, none⟩), .agg #[.int .i64 u.node, .int .u32 (u.inc : Int), .int .i64 u.st]] w (RApPost w base B 0 zU zU r) := by
  have HRt := Lib.hid hr
  obtain ⟨me, hme⟩ : ∃ m, r.own = m := ⟨_, rfl⟩
  obtain ⟨is, his⟩ : ∃ m, (r.T u.node).isSome = m := ⟨_, rfl⟩
  have HMe := Lib.hid hme
  have HIs := Lib.hid his
  have HPr := Lib.hid (fun w => rright_any u w true hr)
  have HOld : Hid (atU r.T u.node = old) := Lib.hid (by unfold atU; rw [ho, hR.ok.selfAt.1, hold]; rfl)
  have zo : (u.node == me) = true := by rw [beq_iff_eq, ← hme]; exact ho
  have zg : (old.st == 3) = true := by rw [beq_iff_eq]; exact hg
  clear hr hme his ho hold hg
  have hlB := hR.lt
  have HR := Lib.hid hR
  have HBs := Lib.hid hbase
  have hA := RaIn.mk_ w B u hlB
  obtain ⟨X, hX⟩ : ∃ X, w.heap.size = X := ⟨_, rfl⟩
  obtain ⟨W, hW⟩ : ∃ W, ((w.alloc (.cells #[.int .i64 u.node, .int .u32 (u.inc : Int), .int .i64 u.st] 32)).alloc (.cells #[.int .i64 0, .int .u32 0, .int .i64 0] 32)).alloc (.cells #[.int .i64 0, .int .u32 0, .int .i64 0] 32) = W := ⟨_, rfl⟩
  have hb0 : Below w.heap.size w W := by rw [← hW]; exact (below2 w _ _).alloc (by simp; omega) _
  rw [hX, hW] at hA
  obtain ⟨c0, c1, c2⟩ := blk3 hA.b0
  have HA := Lib.hid hA
  have HB0 := Lib.hid hb0
  have HX := Lib.hid hX
  have HW := Lib.hid hW
  clear hR hA hX hW hlB hb0 hbase
  go_enter Try.func14, Try.ntmps14
  go_wp2_with fail
  rw [HW.out, HX.out]
  refine (HPr.out _).mono ?_
  rintro e w1 ⟨rfl, hb1⟩
  have hA1 := HA.out.below hb1
  have hR1 := (HR.out.below HB0.out).below hb1
  have HB1 := Lib.hid (HB0.out.trans (hb1.mono HB0.out.size))
  clear c0 c1 c2 hb1
  obtain ⟨A, n, c, rfl, _, _, hfind⟩ := hR1.find
  obtain ⟨G, hG⟩ : ∃ G, w1.heap.size = G := ⟨_, rfl⟩
  have HFd : Hid (∀ w', Below w1.heap.size w1 w' → Calls Try.prog 16 #[.slice A n c, .int .i64 u.node] w' fun e w2 => e = .returned (.tuple #[.agg #[.int .i64 old.node, .int .u32 (old.inc : Int), .int .i64 old.st], .bool is]) ∧ Below w'.heap.size w' w2) := Lib.hid (fun w' hb => by have := hfind w' hb u.node; rw [HOld.out, HIs.out] at this; exact this)
  have HC : Hid (∀ w', LeT G w1 w' → w'.cell? ⟨B, 1, none⟩ = some (.slice A n c) ∧ w'.cell? ⟨X, 0, none⟩ = some (.int .i64 u.node)) := Lib.hid (fun w' hle => by
    have hl := hR1.lt
    have hbl := (hle.but.block B hl (by omega)).trans hR1.blk
    have hbx := (hle.but.block X (block_lt hA1.b0) (by have := block_lt hA1.b0; omega)).trans hA1.b0
    refine ⟨?_, (blk3 hbx).1⟩
    rw [cell_of_row _ _ _ _ _ _ hbl]; rfl)
  have HG := Lib.hid hG
  have HA1 := Lib.hid hA1
  have HR1 := Lib.hid hR1
  clear hA1 hR1 hG hfind
  go_wp2
  refine Go.Rel.wp_region_acts (by kernel_rfl) (by kernel_rfl) (by kernel_rfl) (by kernel_rfl) (fun f a' w' => f 11 = true → Holds G old 7 a' w') (LeT G) (fun _ _ _ h k => h.trans k) ⟨(But.refl _ _).drew, fun B u0 u1 u2 _ h => ⟨u0, u1, u2, h⟩⟩ (fun h => by cases h) (rapR G B X u A n c old is) (rapR_stable G B X u A n c old is) ?hs ?he
  case hs =>
    refine (.cons ?_ (.cons ?_ (.cons ?_ (.cons ?_ (.cons ?_ (.cons ?_ (.cons ?_ (.cons ?_ (.cons ?_ (.cons ?_ (.cons ?_ (.cons ?_ (.cons ?_ .nil)))))))))))))
    · intro f a' w' hI hf hanc hdesc hle hs' hd K hK
      have f0 : a'.tmps[0]? = some (.pointer (some ⟨B, 0, none⟩)) := hs'.2.2 0 (by kernel_rfl)
      unfold Go.Rel.stepOf
      go_simp
      exact hK _ _ (LeT.refl _ _) (fun h => Holds.keep (hI (by simpa [Go.Rel.upd] using h)) (Below.refl _ _) (by decide) _) rfl
    · intro f a' w' hI hf hanc hdesc hle hs' hd K hK
      obtain ⟨_, t0, rfl⟩ := hd 0 18 (by kernel_rfl)
      unfold Go.Rel.stepOf
      go_simp
      exact hK _ _ (LeT.refl _ _) (fun h => Holds.keep (hI (by simpa [Go.Rel.upd] using h)) (Below.refl _ _) (by decide) _) rfl
    · intro f a' w' hI hf hanc hdesc hle hs' hd K hK
      obtain ⟨_, t1, rfl⟩ := hd 1 19 (by kernel_rfl)
      unfold Go.Rel.stepOf
      go_simp
      exact hK _ _ (LeT.refl _ _) (fun h => Holds.keep (hI (by simpa [Go.Rel.upd] using h)) (Below.refl _ _) (by decide) _) rfl
    · intro f a' w' hI hf hanc hdesc hle hs' hd K hK
      obtain ⟨_, t2, rfl⟩ := hd 2 20 (by kernel_rfl)
      obtain ⟨r1, c0⟩ := HC.out w' hle
      unfold Go.Rel.stepOf
      go_simp
      exact hK _ _ (LeT.refl _ _) (fun h => Holds.keep (hI (by simpa [Go.Rel.upd] using h)) (Below.refl _ _) (by decide) _) rfl
    · intro f a' w' hI hf hanc hdesc hle hs' hd K hK
      have f3 : a'.tmps[3]? = some (.pointer (some ⟨X, 0, none⟩)) := hs'.2.2 3 (by kernel_rfl)
      unfold Go.Rel.stepOf
      go_simp
      exact hK _ _ (LeT.refl _ _) (fun h => Holds.keep (hI (by simpa [Go.Rel.upd] using h)) (Below.refl _ _) (by decide) _) rfl
    · intro f a' w' hI hf hanc hdesc hle hs' hd K hK
      obtain ⟨_, t4, rfl⟩ := hd 4 22 (by kernel_rfl)
      obtain ⟨r1, c0⟩ := HC.out w' hle
      unfold Go.Rel.stepOf
      go_simp
      exact hK _ _ (LeT.refl _ _) (fun h => Holds.keep (hI (by simpa [Go.Rel.upd] using h)) (Below.refl _ _) (by decide) _) rfl
    · intro f a' w' hI hf hanc hdesc hle hs' hd K hK
      obtain ⟨_, t3, rfl⟩ := hd 3 21 (by kernel_rfl)
      obtain ⟨_, t5, rfl⟩ := hd 5 23 (by kernel_rfl)
      unfold Go.Rel.stepOf
      go_simp
      refine (HFd.out w' (hle.but.below (Nat.le_refl _) (fun k hk hG => by have := HG.out; omega))).mono ?_
      rintro e w6 ⟨rfl, hb6⟩
      exact hK _ _ (LeT.of_below hb6) (fun h => Holds.keep (hI (by simpa [Go.Rel.upd] using h)) hb6 (by decide) _) rfl
    · intro f a' w' hI hf hanc hdesc hle hs' hd K hK
      obtain ⟨_, t6, rfl⟩ := hd 6 24 (by kernel_rfl)
      unfold Go.Rel.stepOf
      go_simp
      exact hK _ _ (LeT.refl _ _) (fun h => Holds.keep (hI (by simpa [Go.Rel.upd] using h)) (Below.refl _ _) (by decide) _) rfl
    · intro f a' w' hI hf hanc hdesc hle hs' hd K hK
      obtain ⟨_, t7, rfl⟩ := hd 7 17 (by kernel_rfl)
      unfold Go.Rel.stepOf
      go_simp
      exact hK _ _ (LeT.refl _ _) (fun h => Holds.keep (hI (by simpa [Go.Rel.upd] using h)) (Below.refl _ _) (by decide) _) rfl
    · intro f a' w' hI hf hanc hdesc hle hs' hd K hK
      obtain ⟨_, t7, rfl⟩ := hd 7 17 (by kernel_rfl)
      unfold Go.Rel.stepOf
      go_simp
      exact hK _ _ (LeT.refl _ _) (fun h => Holds.keep (hI (by simpa [Go.Rel.upd] using h)) (Below.refl _ _) (by decide) _) rfl
    · intro f a' w' hI hf hanc hdesc hle hs' hd K hK
      have zS := hdesc 12 11 (by kernel_rfl)
      have hz := hle.but.size
      unfold Go.Rel.stepOf
      go_simp
      exact hK _ _ (LeT.of_below (below1 _ _)) (fun h => by simp [Go.Rel.upd, zS] at h) ⟨_, rfl, by have := HG.out; omega, _, _, _, heap_alloc_new _ _⟩
    · intro f a' w' hI hf hanc hdesc hle hs' hd K hK
      obtain ⟨_, ta, B, rfl, hB, u0, u1, u2, hh⟩ := hd 10 7 (by kernel_rfl)
      obtain ⟨_, tb, rfl⟩ := hd 8 25 (by kernel_rfl)
      obtain ⟨b0, b1, b2⟩ := blk3 hh
      have g0 := blk_froz hh 0
      have g1 := blk_froz hh 1
      have g2 := blk_froz hh 2
      unfold Go.Rel.stepOf
      go_simp
      exact hK undef _ (LeT.set w' hB hh _ _ _) (fun _ => ⟨B, ta, hB, set3_blk hh _ _ _⟩) trivial
    · intro f a' w' hI hf hanc hdesc hle hs' hd K hK
      obtain ⟨_, t9, rfl⟩ := hd 9 26 (by kernel_rfl)
      unfold Go.Rel.stepOf
      go_simp
      exact hK _ _ (LeT.refl _ _) (fun h => Holds.keep (hI (by simpa [Go.Rel.upd] using h)) (Below.refl _ _) (by decide) _) rfl
  case he =>
    intro f a' w7 hall hI hle hs' hR'
    obtain ⟨B7, s7, hB7, hh7⟩ := hI (hall 11 (by decide))
    obtain ⟨v18, s18, _⟩ := hR' 0 18 (by kernel_rfl)
    obtain ⟨v19, s19, _⟩ := hR' 1 19 (by kernel_rfl)
    obtain ⟨v20, s20, _⟩ := hR' 2 20 (by kernel_rfl)
    obtain ⟨v21, s21, _⟩ := hR' 3 21 (by kernel_rfl)
    obtain ⟨v22, s22, _⟩ := hR' 4 22 (by kernel_rfl)
    obtain ⟨v23, s23, _⟩ := hR' 5 23 (by kernel_rfl)
    obtain ⟨v24, s24, _⟩ := hR' 6 24 (by kernel_rfl)
    obtain ⟨v17, s17, _⟩ := hR' 7 17 (by kernel_rfl)
    obtain ⟨v25, s25, _⟩ := hR' 8 25 (by kernel_rfl)
    obtain ⟨v26, s26, _⟩ := hR' 9 26 (by kernel_rfl)
    obtain ⟨_, s8, rfl⟩ := hR' 12 8 (by kernel_rfl)
    have e := hs'.shape
    simp only [List.toList_toArray, List.foldl, Go.Rel.reset, Array.getD_eq_getD_getElem?, s7, s18, s19, s20, s21, s22, s23, s24, s17, s25, s26, s8, Option.getD_some] at e
    simp at e
    have HL7 := Lib.hid hle
    have HH7 := Lib.hid hh7
    have HB7 := Lib.hid hB7
    clear hR' hs' hI hall hle hh7 hB7 s7 s18 s19 s20 s21 s22 s23 s24 s17 s25 s26 s8
    subst e
    have hb7 : Below w1.heap.size w1 w7 := HL7.out.but.below (Nat.le_refl _) (fun k hk hG => by have := HG.out; omega)
    have hA7 := HA1.out.below hb7
    have hR7 := HR1.out.below hb7
    have hXB : X + 1 + 1 < B7 := by have := block_lt HA1.out.b2; have := HB7.out; have := HG.out; omega
    obtain ⟨c0, c1, c2⟩ := blk3 hA7.b0
    have r0 := hR7.c0
    rw [HMe.out] at r0
    have HBf := Lib.hid (HB1.out.trans (hb7.mono HB1.out.size))
    have HA7 := Lib.hid hA7
    have HR7 := Lib.hid hR7
    clear hb7 hA7 hR7
    go_wp2
    go_quiet (fail)
    have hA8 : RaIn w (w7.drewN nq) B X u := ⟨HA7.out.base, HA7.out.lt, HA7.out.but.drewN nq, HA7.out.b0, HA7.out.b1, HA7.out.b2⟩
    have hR8 : RrAt (w7.drewN nq) base B (.slice A n c) r := ⟨HR7.out.blk, own_but HR7.out.row ((But.refl (fun _ => False) _).drewN nq) (fun _ _ h => h), HR7.out.ok⟩
    have hO8 : (w7.drewN nq).heap[B7]? = some (.cells #[.int .i64 old.node, .int .u32 (old.inc : Int), .int .i64 old.st] 32) := HH7.out
    have hB8 : Below w.heap.size w (w7.drewN nq) := below_drewN HBf.out nq
    obtain ⟨w8, hw8⟩ : ∃ w8, w7.drewN nq = w8 := ⟨_, rfl⟩
    rw [hw8] at hA8 hR8 hO8 hB8 ⊢
    have HA8 := Lib.hid hA8
    have HR8 := Lib.hid hR8
    have HO8 := Lib.hid hO8
    have HB8 := Lib.hid hB8
    clear hA8 hR8 hO8 hB8 hw8 c0 c1 c2 r0
    have HA_w8 := HA8
    have HR_w8 := HR8
    have HO_w8 := HO8
    have HB_w8 := HB8
    obtain ⟨o0, o1, o2⟩ := blk3 HO_w8.out
    obtain ⟨e0, e1, e2⟩ := blk3 HA_w8.out.b1
    obtain ⟨e3, e4, e5⟩ := blk3 HA_w8.out.b2
    have f0 := blk_froz HA_w8.out.b1 0
    have f1 := blk_froz HA_w8.out.b1 1
    have f2 := blk_froz HA_w8.out.b1 2
    have f3 := blk_froz HA_w8.out.b2 0
    have f4 := blk_froz HA_w8.out.b2 1
    have f5 := blk_froz HA_w8.out.b2 2
    have hA1q := set3_blk HA_w8.out.b1 (.int .i64 0) (.int .u32 0) (.int .i64 0)
    have hB1q := ((set3_but (((w8.setCell ⟨(X + 1), 0, none⟩ (.int .i64 0)).setCell ⟨(X + 1), 1, none⟩ (.int .u32 0)).setCell ⟨(X + 1), 2, none⟩ (.int .i64 0)) (X + 1 + 1) (.int .i64 0) (.int .u32 0) (.int .i64 0)).block (X + 1) (block_lt hA1q) (by omega)).trans hA1q
    have hA2q := set3_blk (((set3_but w8 (X + 1) (.int .i64 0) (.int .u32 0) (.int .i64 0)).block (X + 1 + 1) (block_lt HA_w8.out.b2) (by omega)).trans HA_w8.out.b2) (.int .i64 0) (.int .u32 0) (.int .i64 0)
    have HQ := Lib.hid (And.intro hB1q hA2q)
    have hC1q := set3_blk HA_w8.out.b2 (.int .i64 0) (.int .u32 0) (.int .i64 0)
    have hD1q := ((set3_but (((w8.setCell ⟨(X + 1 + 1), 0, none⟩ (.int .i64 0)).setCell ⟨(X + 1 + 1), 1, none⟩ (.int .u32 0)).setCell ⟨(X + 1 + 1), 2, none⟩ (.int .i64 0)) (X + 1) (.int .i64 0) (.int .u32 0) (.int .i64 0)).block (X + 1 + 1) (block_lt hC1q) (by omega)).trans hC1q
    have hC2q := set3_blk (((set3_but w8 (X + 1 + 1) (.int .i64 0) (.int .u32 0) (.int .i64 0)).block (X + 1) (block_lt HA_w8.out.b1) (by omega)).trans HA_w8.out.b1) (.int .i64 0) (.int .u32 0) (.int .i64 0)
    have HP := Lib.hid (And.intro hC2q hD1q)
    clear hA1q hB1q hA2q hC1q hD1q hC2q
    go_wp2
    have hsz := HX.out
    have hlt := HA_w8.out.lt
    obtain ⟨vq, hRq, hvq⟩ := (show ∃ v, RrAt _ base B v r ∧ ∀ b, v.ownBlock = some b → b ≠ X + 1 ∧ b ≠ X + 1 + 1 from ⟨_, HR_w8.out, fun b hb => row_old (wz := w) (r2 := r) HR.out hb HX.out⟩)
    first
      | (obtain ⟨g0, g1, g2⟩ := blk3 HQ.out.1
         obtain ⟨g3, g4, g5⟩ := blk3 HQ.out.2
         refine bodyPost_ret (v := .tuple #[.int .i64 0, .agg #[.int .i64 0, .int .u32 0, .int .i64 0], .agg #[.int .i64 0, .int .u32 0, .int .i64 0]]) (by simp [results, Try.results14, go_sem, g0, g1, g2, g3, g4, g5]) rfl ⟨rfl, ⟨vq, ?_⟩, ?_⟩
         · first
             | exact (hRq.set3 (by omega) (fun b hb => (hvq b hb).1) _ _ _).set3 (by omega) (fun b hb => (hvq b hb).2) _ _ _
             | exact RrAt.drew_ ((hRq.set3 (by omega) (fun b hb => (hvq b hb).1) _ _ _).set3 (by omega) (fun b hb => (hvq b hb).2) _ _ _)
         · first
             | exact ((HA_w8.out.but.then_ (set3_but _ (X + 1) _ _ _) (fun i e hi => by omega)).then_ (set3_but _ (X + 1 + 1) _ _ _) (fun i e hi => by omega))
             | exact ((HA_w8.out.but.then_ (set3_but _ (X + 1) _ _ _) (fun i e hi => by omega)).then_ (set3_but _ (X + 1 + 1) _ _ _) (fun i e hi => by omega)).drew)
      | (obtain ⟨g0, g1, g2⟩ := blk3 HP.out.1
         obtain ⟨g3, g4, g5⟩ := blk3 HP.out.2
         refine bodyPost_ret (v := .tuple #[.int .i64 0, .agg #[.int .i64 0, .int .u32 0, .int .i64 0], .agg #[.int .i64 0, .int .u32 0, .int .i64 0]]) (by simp [results, Try.results14, go_sem, g0, g1, g2, g3, g4, g5]) rfl ⟨rfl, ⟨vq, ?_⟩, ?_⟩
         · first
             | exact (hRq.set3 (by omega) (fun b hb => (hvq b hb).2) _ _ _).set3 (by omega) (fun b hb => (hvq b hb).1) _ _ _
             | exact RrAt.drew_ ((hRq.set3 (by omega) (fun b hb => (hvq b hb).2) _ _ _).set3 (by omega) (fun b hb => (hvq b hb).1) _ _ _)
         · first
             | exact ((HA_w8.out.but.then_ (set3_but _ (X + 1 + 1) _ _ _) (fun i e hi => by omega)).then_ (set3_but _ (X + 1) _ _ _) (fun i e hi => by omega))
             | exact ((HA_w8.out.but.then_ (set3_but _ (X + 1 + 1) _ _ _) (fun i e hi => by omega)).then_ (set3_but _ (X + 1) _ _ _) (fun i e hi => by omega)).drew)
set_option maxHeartbeats 16000000 in
set_option maxRecDepth 100000 in
theorem rapply_below {base B : Nat} {v0 : Value} {r : Ro} (u old : Up) (w : World) (hR : RrAt w base B v0 r) (hbase : base ≤ w.heap.size) (hr : u.right = true) (ho : u.node = r.own) (hold : old = r.selfU) (hg : old.st ≠ 3) (ha : u.above old = false) :
    Calls Try.prog 14 #[.pointer (some ⟨B, 0, none⟩), .agg #[.int .i64 u.node, .int .u32 (u.inc : Int), .int .i64 u.st]] w (RApPost w base B 0 zU zU r) := by
  have HRt := Lib.hid hr
  obtain ⟨me, hme⟩ : ∃ m, r.own = m := ⟨_, rfl⟩
  obtain ⟨is, his⟩ : ∃ m, (r.T u.node).isSome = m := ⟨_, rfl⟩
  have HMe := Lib.hid hme
  have HIs := Lib.hid his
  have HPr := Lib.hid (fun w => rright_any u w true hr)
  have HOld : Hid (atU r.T u.node = old) := Lib.hid (by unfold atU; rw [ho, hR.ok.selfAt.1, hold]; rfl)
  have zo : (u.node == me) = true := by rw [beq_iff_eq, ← hme]; exact ho
  have HAb := Lib.hid (fun w => rabove_any u old w false ha)
  have zg : (old.st == 3) = false := by rw [beq_eq_false_iff_ne]; exact hg
  clear hr hme his ho hold hg ha
  have hlB := hR.lt
  have HR := Lib.hid hR
  have HBs := Lib.hid hbase
  have hA := RaIn.mk_ w B u hlB
  obtain ⟨X, hX⟩ : ∃ X, w.heap.size = X := ⟨_, rfl⟩
  obtain ⟨W, hW⟩ : ∃ W, ((w.alloc (.cells #[.int .i64 u.node, .int .u32 (u.inc : Int), .int .i64 u.st] 32)).alloc (.cells #[.int .i64 0, .int .u32 0, .int .i64 0] 32)).alloc (.cells #[.int .i64 0, .int .u32 0, .int .i64 0] 32) = W := ⟨_, rfl⟩
  have hb0 : Below w.heap.size w W := by rw [← hW]; exact (below2 w _ _).alloc (by simp; omega) _
  rw [hX, hW] at hA
  obtain ⟨c0, c1, c2⟩ := blk3 hA.b0
  have HA := Lib.hid hA
  have HB0 := Lib.hid hb0
  have HX := Lib.hid hX
  have HW := Lib.hid hW
  clear hR hA hX hW hlB hb0 hbase
  go_enter Try.func14, Try.ntmps14
  go_wp2_with fail
  rw [HW.out, HX.out]
  refine (HPr.out _).mono ?_
  rintro e w1 ⟨rfl, hb1⟩
  have hA1 := HA.out.below hb1
  have hR1 := (HR.out.below HB0.out).below hb1
  have HB1 := Lib.hid (HB0.out.trans (hb1.mono HB0.out.size))
  clear c0 c1 c2 hb1
  obtain ⟨A, n, c, rfl, _, _, hfind⟩ := hR1.find
  obtain ⟨G, hG⟩ : ∃ G, w1.heap.size = G := ⟨_, rfl⟩
  have HFd : Hid (∀ w', Below w1.heap.size w1 w' → Calls Try.prog 16 #[.slice A n c, .int .i64 u.node] w' fun e w2 => e = .returned (.tuple #[.agg #[.int .i64 old.node, .int .u32 (old.inc : Int), .int .i64 old.st], .bool is]) ∧ Below w'.heap.size w' w2) := Lib.hid (fun w' hb => by have := hfind w' hb u.node; rw [HOld.out, HIs.out] at this; exact this)
  have HC : Hid (∀ w', LeT G w1 w' → w'.cell? ⟨B, 1, none⟩ = some (.slice A n c) ∧ w'.cell? ⟨X, 0, none⟩ = some (.int .i64 u.node)) := Lib.hid (fun w' hle => by
    have hl := hR1.lt
    have hbl := (hle.but.block B hl (by omega)).trans hR1.blk
    have hbx := (hle.but.block X (block_lt hA1.b0) (by have := block_lt hA1.b0; omega)).trans hA1.b0
    refine ⟨?_, (blk3 hbx).1⟩
    rw [cell_of_row _ _ _ _ _ _ hbl]; rfl)
  have HG := Lib.hid hG
  have HA1 := Lib.hid hA1
  have HR1 := Lib.hid hR1
  clear hA1 hR1 hG hfind
  go_wp2
  refine Go.Rel.wp_region_acts (by kernel_rfl) (by kernel_rfl) (by kernel_rfl) (by kernel_rfl) (fun f a' w' => f 11 = true → Holds G old 7 a' w') (LeT G) (fun _ _ _ h k => h.trans k) ⟨(But.refl _ _).drew, fun B u0 u1 u2 _ h => ⟨u0, u1, u2, h⟩⟩ (fun h => by cases h) (rapR G B X u A n c old is) (rapR_stable G B X u A n c old is) ?hs ?he
  case hs =>
    refine (.cons ?_ (.cons ?_ (.cons ?_ (.cons ?_ (.cons ?_ (.cons ?_ (.cons ?_ (.cons ?_ (.cons ?_ (.cons ?_ (.cons ?_ (.cons ?_ (.cons ?_ .nil)))))))))))))
    · intro f a' w' hI hf hanc hdesc hle hs' hd K hK
      have f0 : a'.tmps[0]? = some (.pointer (some ⟨B, 0, none⟩)) := hs'.2.2 0 (by kernel_rfl)
      unfold Go.Rel.stepOf
      go_simp
      exact hK _ _ (LeT.refl _ _) (fun h => Holds.keep (hI (by simpa [Go.Rel.upd] using h)) (Below.refl _ _) (by decide) _) rfl
    · intro f a' w' hI hf hanc hdesc hle hs' hd K hK
      obtain ⟨_, t0, rfl⟩ := hd 0 18 (by kernel_rfl)
      unfold Go.Rel.stepOf
      go_simp
      exact hK _ _ (LeT.refl _ _) (fun h => Holds.keep (hI (by simpa [Go.Rel.upd] using h)) (Below.refl _ _) (by decide) _) rfl
    · intro f a' w' hI hf hanc hdesc hle hs' hd K hK
      obtain ⟨_, t1, rfl⟩ := hd 1 19 (by kernel_rfl)
      unfold Go.Rel.stepOf
      go_simp
      exact hK _ _ (LeT.refl _ _) (fun h => Holds.keep (hI (by simpa [Go.Rel.upd] using h)) (Below.refl _ _) (by decide) _) rfl
    · intro f a' w' hI hf hanc hdesc hle hs' hd K hK
      obtain ⟨_, t2, rfl⟩ := hd 2 20 (by kernel_rfl)
      obtain ⟨r1, c0⟩ := HC.out w' hle
      unfold Go.Rel.stepOf
      go_simp
      exact hK _ _ (LeT.refl _ _) (fun h => Holds.keep (hI (by simpa [Go.Rel.upd] using h)) (Below.refl _ _) (by decide) _) rfl
    · intro f a' w' hI hf hanc hdesc hle hs' hd K hK
      have f3 : a'.tmps[3]? = some (.pointer (some ⟨X, 0, none⟩)) := hs'.2.2 3 (by kernel_rfl)
      unfold Go.Rel.stepOf
      go_simp
      exact hK _ _ (LeT.refl _ _) (fun h => Holds.keep (hI (by simpa [Go.Rel.upd] using h)) (Below.refl _ _) (by decide) _) rfl
    · intro f a' w' hI hf hanc hdesc hle hs' hd K hK
      obtain ⟨_, t4, rfl⟩ := hd 4 22 (by kernel_rfl)
      obtain ⟨r1, c0⟩ := HC.out w' hle
      unfold Go.Rel.stepOf
      go_simp
      exact hK _ _ (LeT.refl _ _) (fun h => Holds.keep (hI (by simpa [Go.Rel.upd] using h)) (Below.refl _ _) (by decide) _) rfl
    · intro f a' w' hI hf hanc hdesc hle hs' hd K hK
      obtain ⟨_, t3, rfl⟩ := hd 3 21 (by kernel_rfl)
      obtain ⟨_, t5, rfl⟩ := hd 5 23 (by kernel_rfl)
      unfold Go.Rel.stepOf
      go_simp
      refine (HFd.out w' (hle.but.below (Nat.le_refl _) (fun k hk hG => by have := HG.out; omega))).mono ?_
      rintro e w6 ⟨rfl, hb6⟩
      exact hK _ _ (LeT.of_below hb6) (fun h => Holds.keep (hI (by simpa [Go.Rel.upd] using h)) hb6 (by decide) _) rfl
    · intro f a' w' hI hf hanc hdesc hle hs' hd K hK
      obtain ⟨_, t6, rfl⟩ := hd 6 24 (by kernel_rfl)
      unfold Go.Rel.stepOf
      go_simp
      exact hK _ _ (LeT.refl _ _) (fun h => Holds.keep (hI (by simpa [Go.Rel.upd] using h)) (Below.refl _ _) (by decide) _) rfl
    · intro f a' w' hI hf hanc hdesc hle hs' hd K hK
      obtain ⟨_, t7, rfl⟩ := hd 7 17 (by kernel_rfl)
      unfold Go.Rel.stepOf
      go_simp
      exact hK _ _ (LeT.refl _ _) (fun h => Holds.keep (hI (by simpa [Go.Rel.upd] using h)) (Below.refl _ _) (by decide) _) rfl
    · intro f a' w' hI hf hanc hdesc hle hs' hd K hK
      obtain ⟨_, t7, rfl⟩ := hd 7 17 (by kernel_rfl)
      unfold Go.Rel.stepOf
      go_simp
      exact hK _ _ (LeT.refl _ _) (fun h => Holds.keep (hI (by simpa [Go.Rel.upd] using h)) (Below.refl _ _) (by decide) _) rfl
    · intro f a' w' hI hf hanc hdesc hle hs' hd K hK
      have zS := hdesc 12 11 (by kernel_rfl)
      have hz := hle.but.size
      unfold Go.Rel.stepOf
      go_simp
      exact hK _ _ (LeT.of_below (below1 _ _)) (fun h => by simp [Go.Rel.upd, zS] at h) ⟨_, rfl, by have := HG.out; omega, _, _, _, heap_alloc_new _ _⟩
    · intro f a' w' hI hf hanc hdesc hle hs' hd K hK
      obtain ⟨_, ta, B, rfl, hB, u0, u1, u2, hh⟩ := hd 10 7 (by kernel_rfl)
      obtain ⟨_, tb, rfl⟩ := hd 8 25 (by kernel_rfl)
      obtain ⟨b0, b1, b2⟩ := blk3 hh
      have g0 := blk_froz hh 0
      have g1 := blk_froz hh 1
      have g2 := blk_froz hh 2
      unfold Go.Rel.stepOf
      go_simp
      exact hK undef _ (LeT.set w' hB hh _ _ _) (fun _ => ⟨B, ta, hB, set3_blk hh _ _ _⟩) trivial
    · intro f a' w' hI hf hanc hdesc hle hs' hd K hK
      obtain ⟨_, t9, rfl⟩ := hd 9 26 (by kernel_rfl)
      unfold Go.Rel.stepOf
      go_simp
      exact hK _ _ (LeT.refl _ _) (fun h => Holds.keep (hI (by simpa [Go.Rel.upd] using h)) (Below.refl _ _) (by decide) _) rfl
  case he =>
    intro f a' w7 hall hI hle hs' hR'
    obtain ⟨B7, s7, hB7, hh7⟩ := hI (hall 11 (by decide))
    obtain ⟨v18, s18, _⟩ := hR' 0 18 (by kernel_rfl)
    obtain ⟨v19, s19, _⟩ := hR' 1 19 (by kernel_rfl)
    obtain ⟨v20, s20, _⟩ := hR' 2 20 (by kernel_rfl)
    obtain ⟨v21, s21, _⟩ := hR' 3 21 (by kernel_rfl)
    obtain ⟨v22, s22, _⟩ := hR' 4 22 (by kernel_rfl)
    obtain ⟨v23, s23, _⟩ := hR' 5 23 (by kernel_rfl)
    obtain ⟨v24, s24, _⟩ := hR' 6 24 (by kernel_rfl)
    obtain ⟨v17, s17, _⟩ := hR' 7 17 (by kernel_rfl)
    obtain ⟨v25, s25, _⟩ := hR' 8 25 (by kernel_rfl)
    obtain ⟨v26, s26, _⟩ := hR' 9 26 (by kernel_rfl)
    obtain ⟨_, s8, rfl⟩ := hR' 12 8 (by kernel_rfl)
    have e := hs'.shape
    simp only [List.toList_toArray, List.foldl, Go.Rel.reset, Array.getD_eq_getD_getElem?, s7, s18, s19, s20, s21, s22, s23, s24, s17, s25, s26, s8, Option.getD_some] at e
    simp at e
    have HL7 := Lib.hid hle
    have HH7 := Lib.hid hh7
    have HB7 := Lib.hid hB7
    clear hR' hs' hI hall hle hh7 hB7 s7 s18 s19 s20 s21 s22 s23 s24 s17 s25 s26 s8
    subst e
    have hb7 : Below w1.heap.size w1 w7 := HL7.out.but.below (Nat.le_refl _) (fun k hk hG => by have := HG.out; omega)
    have hA7 := HA1.out.below hb7
    have hR7 := HR1.out.below hb7
    have hXB : X + 1 + 1 < B7 := by have := block_lt HA1.out.b2; have := HB7.out; have := HG.out; omega
    obtain ⟨c0, c1, c2⟩ := blk3 hA7.b0
    have r0 := hR7.c0
    rw [HMe.out] at r0
    have HBf := Lib.hid (HB1.out.trans (hb7.mono HB1.out.size))
    have HA7 := Lib.hid hA7
    have HR7 := Lib.hid hR7
    clear hb7 hA7 hR7
    go_wp2
    go_quiet (fail)
    have hA8 : RaIn w (w7.drewN nq) B X u := ⟨HA7.out.base, HA7.out.lt, HA7.out.but.drewN nq, HA7.out.b0, HA7.out.b1, HA7.out.b2⟩
    have hR8 : RrAt (w7.drewN nq) base B (.slice A n c) r := ⟨HR7.out.blk, own_but HR7.out.row ((But.refl (fun _ => False) _).drewN nq) (fun _ _ h => h), HR7.out.ok⟩
    have hO8 : (w7.drewN nq).heap[B7]? = some (.cells #[.int .i64 old.node, .int .u32 (old.inc : Int), .int .i64 old.st] 32) := HH7.out
    have hB8 : Below w.heap.size w (w7.drewN nq) := below_drewN HBf.out nq
    obtain ⟨w8, hw8⟩ : ∃ w8, w7.drewN nq = w8 := ⟨_, rfl⟩
    rw [hw8] at hA8 hR8 hO8 hB8 ⊢
    have HA8 := Lib.hid hA8
    have HR8 := Lib.hid hR8
    have HO8 := Lib.hid hO8
    have HB8 := Lib.hid hB8
    clear hA8 hR8 hO8 hB8 hw8 c0 c1 c2 r0
    have HA_w8 := HA8
    have HR_w8 := HR8
    have HO_w8 := HO8
    have HB_w8 := HB8
    obtain ⟨c0, c1, c2⟩ := blk3 HA_w8.out.b0
    obtain ⟨o0, o1, o2⟩ := blk3 HO_w8.out
    go_wp2_with fail
    refine (HAb.out _).mono ?_
    rintro e w9 ⟨rfl, hb⟩
    have hA := HA_w8.out.below hb
    have hR := HR_w8.out.below hb
    have hO := (hb.block _ (block_lt HO_w8.out)).trans HO_w8.out
    have HB_w9 := Lib.hid (HB_w8.out.trans (hb.mono HB_w8.out.size))
    clear hb c0 c1 c2 o0 o1 o2
    have HA_w9 := Lib.hid hA
    have HR_w9 := Lib.hid hR
    have HO_w9 := Lib.hid hO
    clear hA hR hO
    obtain ⟨e0, e1, e2⟩ := blk3 HA_w9.out.b1
    obtain ⟨e3, e4, e5⟩ := blk3 HA_w9.out.b2
    have f0 := blk_froz HA_w9.out.b1 0
    have f1 := blk_froz HA_w9.out.b1 1
    have f2 := blk_froz HA_w9.out.b1 2
    have f3 := blk_froz HA_w9.out.b2 0
    have f4 := blk_froz HA_w9.out.b2 1
    have f5 := blk_froz HA_w9.out.b2 2
    have hA1q := set3_blk HA_w9.out.b1 (.int .i64 0) (.int .u32 0) (.int .i64 0)
    have hB1q := ((set3_but (((w9.setCell ⟨(X + 1), 0, none⟩ (.int .i64 0)).setCell ⟨(X + 1), 1, none⟩ (.int .u32 0)).setCell ⟨(X + 1), 2, none⟩ (.int .i64 0)) (X + 1 + 1) (.int .i64 0) (.int .u32 0) (.int .i64 0)).block (X + 1) (block_lt hA1q) (by omega)).trans hA1q
    have hA2q := set3_blk (((set3_but w9 (X + 1) (.int .i64 0) (.int .u32 0) (.int .i64 0)).block (X + 1 + 1) (block_lt HA_w9.out.b2) (by omega)).trans HA_w9.out.b2) (.int .i64 0) (.int .u32 0) (.int .i64 0)
    have HQ := Lib.hid (And.intro hB1q hA2q)
    have hC1q := set3_blk HA_w9.out.b2 (.int .i64 0) (.int .u32 0) (.int .i64 0)
    have hD1q := ((set3_but (((w9.setCell ⟨(X + 1 + 1), 0, none⟩ (.int .i64 0)).setCell ⟨(X + 1 + 1), 1, none⟩ (.int .u32 0)).setCell ⟨(X + 1 + 1), 2, none⟩ (.int .i64 0)) (X + 1) (.int .i64 0) (.int .u32 0) (.int .i64 0)).block (X + 1 + 1) (block_lt hC1q) (by omega)).trans hC1q
    have hC2q := set3_blk (((set3_but w9 (X + 1 + 1) (.int .i64 0) (.int .u32 0) (.int .i64 0)).block (X + 1) (block_lt HA_w9.out.b1) (by omega)).trans HA_w9.out.b1) (.int .i64 0) (.int .u32 0) (.int .i64 0)
    have HP := Lib.hid (And.intro hC2q hD1q)
    clear hA1q hB1q hA2q hC1q hD1q hC2q
    go_wp2
    have hsz := HX.out
    have hlt := HA_w9.out.lt
    obtain ⟨vq, hRq, hvq⟩ := (show ∃ v, RrAt _ base B v r ∧ ∀ b, v.ownBlock = some b → b ≠ X + 1 ∧ b ≠ X + 1 + 1 from ⟨_, HR_w9.out, fun b hb => row_old (wz := w) (r2 := r) HR.out hb HX.out⟩)
    first
      | (obtain ⟨g0, g1, g2⟩ := blk3 HQ.out.1
         obtain ⟨g3, g4, g5⟩ := blk3 HQ.out.2
         refine bodyPost_ret (v := .tuple #[.int .i64 0, .agg #[.int .i64 0, .int .u32 0, .int .i64 0], .agg #[.int .i64 0, .int .u32 0, .int .i64 0]]) (by simp [results, Try.results14, go_sem, g0, g1, g2, g3, g4, g5]) rfl ⟨rfl, ⟨vq, ?_⟩, ?_⟩
         · first
             | exact (hRq.set3 (by omega) (fun b hb => (hvq b hb).1) _ _ _).set3 (by omega) (fun b hb => (hvq b hb).2) _ _ _
             | exact RrAt.drew_ ((hRq.set3 (by omega) (fun b hb => (hvq b hb).1) _ _ _).set3 (by omega) (fun b hb => (hvq b hb).2) _ _ _)
         · first
             | exact ((HA_w9.out.but.then_ (set3_but _ (X + 1) _ _ _) (fun i e hi => by omega)).then_ (set3_but _ (X + 1 + 1) _ _ _) (fun i e hi => by omega))
             | exact ((HA_w9.out.but.then_ (set3_but _ (X + 1) _ _ _) (fun i e hi => by omega)).then_ (set3_but _ (X + 1 + 1) _ _ _) (fun i e hi => by omega)).drew)
      | (obtain ⟨g0, g1, g2⟩ := blk3 HP.out.1
         obtain ⟨g3, g4, g5⟩ := blk3 HP.out.2
         refine bodyPost_ret (v := .tuple #[.int .i64 0, .agg #[.int .i64 0, .int .u32 0, .int .i64 0], .agg #[.int .i64 0, .int .u32 0, .int .i64 0]]) (by simp [results, Try.results14, go_sem, g0, g1, g2, g3, g4, g5]) rfl ⟨rfl, ⟨vq, ?_⟩, ?_⟩
         · first
             | exact (hRq.set3 (by omega) (fun b hb => (hvq b hb).2) _ _ _).set3 (by omega) (fun b hb => (hvq b hb).1) _ _ _
             | exact RrAt.drew_ ((hRq.set3 (by omega) (fun b hb => (hvq b hb).2) _ _ _).set3 (by omega) (fun b hb => (hvq b hb).1) _ _ _)
         · first
             | exact ((HA_w9.out.but.then_ (set3_but _ (X + 1 + 1) _ _ _) (fun i e hi => by omega)).then_ (set3_but _ (X + 1) _ _ _) (fun i e hi => by omega))
             | exact ((HA_w9.out.but.then_ (set3_but _ (X + 1 + 1) _ _ _) (fun i e hi => by omega)).then_ (set3_but _ (X + 1) _ _ _) (fun i e hi => by omega)).drew)
set_option maxHeartbeats 16000000 in
set_option maxRecDepth 100000 in
theorem rapply_stuck {base B : Nat} {v0 : Value} {r : Ro} (u old : Up) (w : World) (hR : RrAt w base B v0 r) (hbase : base ≤ w.heap.size) (hr : u.right = true) (ho : u.node = r.own) (hold : old = r.selfU) (hg : old.st ≠ 3) (ha : u.above old = true) (h1 : old.inc ≤ 4294967295) (h2 : u.inc ≤ 4294967295) (inc k : Nat) (hf : refuteN old.inc u.inc = (inc, k)) (hk : k ≠ 0) :
    Calls Try.prog 14 #[.pointer (some ⟨B, 0, none⟩), .agg #[.int .i64 u.node, .int .u32 (u.inc : Int), .int .i64 u.st]] w (RApPost w base B 4 old old r) := by
  have HRt := Lib.hid hr
  obtain ⟨me, hme⟩ : ∃ m, r.own = m := ⟨_, rfl⟩
  obtain ⟨is, his⟩ : ∃ m, (r.T u.node).isSome = m := ⟨_, rfl⟩
  have HMe := Lib.hid hme
  have HIs := Lib.hid his
  have HPr := Lib.hid (fun w => rright_any u w true hr)
  have HOld : Hid (atU r.T u.node = old) := Lib.hid (by unfold atU; rw [ho, hR.ok.selfAt.1, hold]; rfl)
  have zo : (u.node == me) = true := by rw [beq_iff_eq, ← hme]; exact ho
  have HAb := Lib.hid (fun w => rabove_any u old w true ha)
  have HRf := Lib.hid (fun w => rrefute_any old.inc u w inc k hf h1 h2)
  have z1 : ((k : Int) == 0) = false := by rw [beq_eq_false_iff_ne]; omega
  have z2 : ((k : Int) != 0) = true := by rw [bne_iff_ne]; omega
  have zg : (old.st == 3) = false := by rw [beq_eq_false_iff_ne]; exact hg
  clear hr hme his ho hold hg ha h1 h2 hf hk
  have hlB := hR.lt
  have HR := Lib.hid hR
  have HBs := Lib.hid hbase
  have hA := RaIn.mk_ w B u hlB
  obtain ⟨X, hX⟩ : ∃ X, w.heap.size = X := ⟨_, rfl⟩
  obtain ⟨W, hW⟩ : ∃ W, ((w.alloc (.cells #[.int .i64 u.node, .int .u32 (u.inc : Int), .int .i64 u.st] 32)).alloc (.cells #[.int .i64 0, .int .u32 0, .int .i64 0] 32)).alloc (.cells #[.int .i64 0, .int .u32 0, .int .i64 0] 32) = W := ⟨_, rfl⟩
  have hb0 : Below w.heap.size w W := by rw [← hW]; exact (below2 w _ _).alloc (by simp; omega) _
  rw [hX, hW] at hA
  obtain ⟨c0, c1, c2⟩ := blk3 hA.b0
  have HA := Lib.hid hA
  have HB0 := Lib.hid hb0
  have HX := Lib.hid hX
  have HW := Lib.hid hW
  clear hR hA hX hW hlB hb0 hbase
  go_enter Try.func14, Try.ntmps14
  go_wp2_with fail
  rw [HW.out, HX.out]
  refine (HPr.out _).mono ?_
  rintro e w1 ⟨rfl, hb1⟩
  have hA1 := HA.out.below hb1
  have hR1 := (HR.out.below HB0.out).below hb1
  have HB1 := Lib.hid (HB0.out.trans (hb1.mono HB0.out.size))
  clear c0 c1 c2 hb1
  obtain ⟨A, n, c, rfl, _, _, hfind⟩ := hR1.find
  obtain ⟨G, hG⟩ : ∃ G, w1.heap.size = G := ⟨_, rfl⟩
  have HFd : Hid (∀ w', Below w1.heap.size w1 w' → Calls Try.prog 16 #[.slice A n c, .int .i64 u.node] w' fun e w2 => e = .returned (.tuple #[.agg #[.int .i64 old.node, .int .u32 (old.inc : Int), .int .i64 old.st], .bool is]) ∧ Below w'.heap.size w' w2) := Lib.hid (fun w' hb => by have := hfind w' hb u.node; rw [HOld.out, HIs.out] at this; exact this)
  have HC : Hid (∀ w', LeT G w1 w' → w'.cell? ⟨B, 1, none⟩ = some (.slice A n c) ∧ w'.cell? ⟨X, 0, none⟩ = some (.int .i64 u.node)) := Lib.hid (fun w' hle => by
    have hl := hR1.lt
    have hbl := (hle.but.block B hl (by omega)).trans hR1.blk
    have hbx := (hle.but.block X (block_lt hA1.b0) (by have := block_lt hA1.b0; omega)).trans hA1.b0
    refine ⟨?_, (blk3 hbx).1⟩
    rw [cell_of_row _ _ _ _ _ _ hbl]; rfl)
  have HG := Lib.hid hG
  have HA1 := Lib.hid hA1
  have HR1 := Lib.hid hR1
  clear hA1 hR1 hG hfind
  go_wp2
  refine Go.Rel.wp_region_acts (by kernel_rfl) (by kernel_rfl) (by kernel_rfl) (by kernel_rfl) (fun f a' w' => f 11 = true → Holds G old 7 a' w') (LeT G) (fun _ _ _ h k => h.trans k) ⟨(But.refl _ _).drew, fun B u0 u1 u2 _ h => ⟨u0, u1, u2, h⟩⟩ (fun h => by cases h) (rapR G B X u A n c old is) (rapR_stable G B X u A n c old is) ?hs ?he
  case hs =>
    refine (.cons ?_ (.cons ?_ (.cons ?_ (.cons ?_ (.cons ?_ (.cons ?_ (.cons ?_ (.cons ?_ (.cons ?_ (.cons ?_ (.cons ?_ (.cons ?_ (.cons ?_ .nil)))))))))))))
    · intro f a' w' hI hf hanc hdesc hle hs' hd K hK
      have f0 : a'.tmps[0]? = some (.pointer (some ⟨B, 0, none⟩)) := hs'.2.2 0 (by kernel_rfl)
      unfold Go.Rel.stepOf
      go_simp
      exact hK _ _ (LeT.refl _ _) (fun h => Holds.keep (hI (by simpa [Go.Rel.upd] using h)) (Below.refl _ _) (by decide) _) rfl
    · intro f a' w' hI hf hanc hdesc hle hs' hd K hK
      obtain ⟨_, t0, rfl⟩ := hd 0 18 (by kernel_rfl)
      unfold Go.Rel.stepOf
      go_simp
      exact hK _ _ (LeT.refl _ _) (fun h => Holds.keep (hI (by simpa [Go.Rel.upd] using h)) (Below.refl _ _) (by decide) _) rfl
    · intro f a' w' hI hf hanc hdesc hle hs' hd K hK
      obtain ⟨_, t1, rfl⟩ := hd 1 19 (by kernel_rfl)
      unfold Go.Rel.stepOf
      go_simp
      exact hK _ _ (LeT.refl _ _) (fun h => Holds.keep (hI (by simpa [Go.Rel.upd] using h)) (Below.refl _ _) (by decide) _) rfl
    · intro f a' w' hI hf hanc hdesc hle hs' hd K hK
      obtain ⟨_, t2, rfl⟩ := hd 2 20 (by kernel_rfl)
      obtain ⟨r1, c0⟩ := HC.out w' hle
      unfold Go.Rel.stepOf
      go_simp
      exact hK _ _ (LeT.refl _ _) (fun h => Holds.keep (hI (by simpa [Go.Rel.upd] using h)) (Below.refl _ _) (by decide) _) rfl
    · intro f a' w' hI hf hanc hdesc hle hs' hd K hK
      have f3 : a'.tmps[3]? = some (.pointer (some ⟨X, 0, none⟩)) := hs'.2.2 3 (by kernel_rfl)
      unfold Go.Rel.stepOf
      go_simp
      exact hK _ _ (LeT.refl _ _) (fun h => Holds.keep (hI (by simpa [Go.Rel.upd] using h)) (Below.refl _ _) (by decide) _) rfl
    · intro f a' w' hI hf hanc hdesc hle hs' hd K hK
      obtain ⟨_, t4, rfl⟩ := hd 4 22 (by kernel_rfl)
      obtain ⟨r1, c0⟩ := HC.out w' hle
      unfold Go.Rel.stepOf
      go_simp
      exact hK _ _ (LeT.refl _ _) (fun h => Holds.keep (hI (by simpa [Go.Rel.upd] using h)) (Below.refl _ _) (by decide) _) rfl
    · intro f a' w' hI hf hanc hdesc hle hs' hd K hK
      obtain ⟨_, t3, rfl⟩ := hd 3 21 (by kernel_rfl)
      obtain ⟨_, t5, rfl⟩ := hd 5 23 (by kernel_rfl)
      unfold Go.Rel.stepOf
      go_simp
      refine (HFd.out w' (hle.but.below (Nat.le_refl _) (fun k hk hG => by have := HG.out; omega))).mono ?_
      rintro e w6 ⟨rfl, hb6⟩
      exact hK _ _ (LeT.of_below hb6) (fun h => Holds.keep (hI (by simpa [Go.Rel.upd] using h)) hb6 (by decide) _) rfl
    · intro f a' w' hI hf hanc hdesc hle hs' hd K hK
      obtain ⟨_, t6, rfl⟩ := hd 6 24 (by kernel_rfl)
      unfold Go.Rel.stepOf
      go_simp
      exact hK _ _ (LeT.refl _ _) (fun h => Holds.keep (hI (by simpa [Go.Rel.upd] using h)) (Below.refl _ _) (by decide) _) rfl
    · intro f a' w' hI hf hanc hdesc hle hs' hd K hK
      obtain ⟨_, t7, rfl⟩ := hd 7 17 (by kernel_rfl)
      unfold Go.Rel.stepOf
      go_simp
      exact hK _ _ (LeT.refl _ _) (fun h => Holds.keep (hI (by simpa [Go.Rel.upd] using h)) (Below.refl _ _) (by decide) _) rfl
    · intro f a' w' hI hf hanc hdesc hle hs' hd K hK
      obtain ⟨_, t7, rfl⟩ := hd 7 17 (by kernel_rfl)
      unfold Go.Rel.stepOf
      go_simp
      exact hK _ _ (LeT.refl _ _) (fun h => Holds.keep (hI (by simpa [Go.Rel.upd] using h)) (Below.refl _ _) (by decide) _) rfl
    · intro f a' w' hI hf hanc hdesc hle hs' hd K hK
      have zS := hdesc 12 11 (by kernel_rfl)
      have hz := hle.but.size
      unfold Go.Rel.stepOf
      go_simp
      exact hK _ _ (LeT.of_below (below1 _ _)) (fun h => by simp [Go.Rel.upd, zS] at h) ⟨_, rfl, by have := HG.out; omega, _, _, _, heap_alloc_new _ _⟩
    · intro f a' w' hI hf hanc hdesc hle hs' hd K hK
      obtain ⟨_, ta, B, rfl, hB, u0, u1, u2, hh⟩ := hd 10 7 (by kernel_rfl)
      obtain ⟨_, tb, rfl⟩ := hd 8 25 (by kernel_rfl)
      obtain ⟨b0, b1, b2⟩ := blk3 hh
      have g0 := blk_froz hh 0
      have g1 := blk_froz hh 1
      have g2 := blk_froz hh 2
      unfold Go.Rel.stepOf
      go_simp
      exact hK undef _ (LeT.set w' hB hh _ _ _) (fun _ => ⟨B, ta, hB, set3_blk hh _ _ _⟩) trivial
    · intro f a' w' hI hf hanc hdesc hle hs' hd K hK
      obtain ⟨_, t9, rfl⟩ := hd 9 26 (by kernel_rfl)
      unfold Go.Rel.stepOf
      go_simp
      exact hK _ _ (LeT.refl _ _) (fun h => Holds.keep (hI (by simpa [Go.Rel.upd] using h)) (Below.refl _ _) (by decide) _) rfl
  case he =>
    intro f a' w7 hall hI hle hs' hR'
    obtain ⟨B7, s7, hB7, hh7⟩ := hI (hall 11 (by decide))
    obtain ⟨v18, s18, _⟩ := hR' 0 18 (by kernel_rfl)
    obtain ⟨v19, s19, _⟩ := hR' 1 19 (by kernel_rfl)
    obtain ⟨v20, s20, _⟩ := hR' 2 20 (by kernel_rfl)
    obtain ⟨v21, s21, _⟩ := hR' 3 21 (by kernel_rfl)
    obtain ⟨v22, s22, _⟩ := hR' 4 22 (by kernel_rfl)
    obtain ⟨v23, s23, _⟩ := hR' 5 23 (by kernel_rfl)
    obtain ⟨v24, s24, _⟩ := hR' 6 24 (by kernel_rfl)
    obtain ⟨v17, s17, _⟩ := hR' 7 17 (by kernel_rfl)
    obtain ⟨v25, s25, _⟩ := hR' 8 25 (by kernel_rfl)
    obtain ⟨v26, s26, _⟩ := hR' 9 26 (by kernel_rfl)
    obtain ⟨_, s8, rfl⟩ := hR' 12 8 (by kernel_rfl)
    have e := hs'.shape
    simp only [List.toList_toArray, List.foldl, Go.Rel.reset, Array.getD_eq_getD_getElem?, s7, s18, s19, s20, s21, s22, s23, s24, s17, s25, s26, s8, Option.getD_some] at e
    simp at e
    have HL7 := Lib.hid hle
    have HH7 := Lib.hid hh7
    have HB7 := Lib.hid hB7
    clear hR' hs' hI hall hle hh7 hB7 s7 s18 s19 s20 s21 s22 s23 s24 s17 s25 s26 s8
    subst e
    have hb7 : Below w1.heap.size w1 w7 := HL7.out.but.below (Nat.le_refl _) (fun k hk hG => by have := HG.out; omega)
    have hA7 := HA1.out.below hb7
    have hR7 := HR1.out.below hb7
    have hXB : X + 1 + 1 < B7 := by have := block_lt HA1.out.b2; have := HB7.out; have := HG.out; omega
    obtain ⟨c0, c1, c2⟩ := blk3 hA7.b0
    have r0 := hR7.c0
    rw [HMe.out] at r0
    have HBf := Lib.hid (HB1.out.trans (hb7.mono HB1.out.size))
    have HA7 := Lib.hid hA7
    have HR7 := Lib.hid hR7
    clear hb7 hA7 hR7
    go_wp2
    go_quiet (fail)
    have hA8 : RaIn w (w7.drewN nq) B X u := ⟨HA7.out.base, HA7.out.lt, HA7.out.but.drewN nq, HA7.out.b0, HA7.out.b1, HA7.out.b2⟩
    have hR8 : RrAt (w7.drewN nq) base B (.slice A n c) r := ⟨HR7.out.blk, own_but HR7.out.row ((But.refl (fun _ => False) _).drewN nq) (fun _ _ h => h), HR7.out.ok⟩
    have hO8 : (w7.drewN nq).heap[B7]? = some (.cells #[.int .i64 old.node, .int .u32 (old.inc : Int), .int .i64 old.st] 32) := HH7.out
    have hB8 : Below w.heap.size w (w7.drewN nq) := below_drewN HBf.out nq
    obtain ⟨w8, hw8⟩ : ∃ w8, w7.drewN nq = w8 := ⟨_, rfl⟩
    rw [hw8] at hA8 hR8 hO8 hB8 ⊢
    have HA8 := Lib.hid hA8
    have HR8 := Lib.hid hR8
    have HO8 := Lib.hid hO8
    have HB8 := Lib.hid hB8
    clear hA8 hR8 hO8 hB8 hw8 c0 c1 c2 r0
    have HA_w8 := HA8
    have HR_w8 := HR8
    have HO_w8 := HO8
    have HB_w8 := HB8
    obtain ⟨c0, c1, c2⟩ := blk3 HA_w8.out.b0
    obtain ⟨o0, o1, o2⟩ := blk3 HO_w8.out
    go_wp2_with fail
    refine (HAb.out _).mono ?_
    rintro e w9 ⟨rfl, hb⟩
    have hA := HA_w8.out.below hb
    have hR := HR_w8.out.below hb
    have hO := (hb.block _ (block_lt HO_w8.out)).trans HO_w8.out
    have HB_w9 := Lib.hid (HB_w8.out.trans (hb.mono HB_w8.out.size))
    clear hb c0 c1 c2 o0 o1 o2
    have HA_w9 := Lib.hid hA
    have HR_w9 := Lib.hid hR
    have HO_w9 := Lib.hid hO
    clear hA hR hO
    obtain ⟨c0, c1, c2⟩ := blk3 HA_w9.out.b0
    obtain ⟨o0, o1, o2⟩ := blk3 HO_w9.out
    go_wp2_with fail
    refine (HRf.out _).mono ?_
    rintro e w10 ⟨rfl, hb⟩
    have hA := HA_w9.out.below hb
    have hR := HR_w9.out.below hb
    have hO := (hb.block _ (block_lt HO_w9.out)).trans HO_w9.out
    have HB_w10 := Lib.hid (HB_w9.out.trans (hb.mono HB_w9.out.size))
    clear hb c0 c1 c2 o0 o1 o2
    have HA_w10 := Lib.hid hA
    have HR_w10 := Lib.hid hR
    have HO_w10 := Lib.hid hO
    clear hA hR hO
    have HXn := Lib.hid hXB
    have hX1 := block_lt HA_w10.out.b1
    have hlt0 := HA_w10.out.lt
    have hI0 : TwoI X old old (fun _ => false) w10 := ⟨fun _ => HA_w10.out.b1, (fun h => by cases h), fun _ => HA_w10.out.b2, (fun h => by cases h)⟩
    have HI0 := Lib.hid hI0
    clear hI0
    go_wp2
    refine Go.Rel.wp_region_states (by kernel_rfl) (by kernel_rfl) (by kernel_rfl) (by kernel_rfl) (TwoI X old old) (But (fun k => k = X + 1 ∨ k = X + 1 + 1)) (fun _ _ _ h k => h.trans k) (But.refl _ _).drew ⟨HI0.out.z3, HI0.out.a3, HI0.out.z4, HI0.out.b4⟩ (twoV (.agg #[.int .i64 old.node, .int .u32 (old.inc : Int), .int .i64 old.st]) (.agg #[.int .i64 old.node, .int .u32 (old.inc : Int), .int .i64 old.st]) (.int .i64 4)) (twoV_stable X (.agg #[.int .i64 old.node, .int .u32 (old.inc : Int), .int .i64 old.st]) (.agg #[.int .i64 old.node, .int .u32 (old.inc : Int), .int .i64 old.st]) (.int .i64 4)) ?hs1 ?he1
    case hs1 =>
      refine .cons ?_ (.cons ?_ (.cons ?_ (.cons ?_ (.cons ?_ .nil))))
      · intro f a' w' hI hf hanc hdesc hle hs' hd K hK
        obtain ⟨x0, x1, x2⟩ := blk3 ((hle.block B7 (block_lt HO_w10.out) (by have := HXn.out; omega)).trans HO_w10.out)
        have f7 : a'.tmps[7]? = some (.pointer (some ⟨B7, 0, none⟩)) := hs'.2.2 7 (by kernel_rfl)
        unfold Go.Rel.stepOf
        go_simp
        exact hK _ _ (But.refl _ _) (hI.keep (by decide) (by decide)) rfl
      · intro f a' w' hI hf hanc hdesc hle hs' hd K hK
        obtain ⟨x0, x1, x2⟩ := blk3 ((hle.block B7 (block_lt HO_w10.out) (by have := HXn.out; omega)).trans HO_w10.out)
        have f7 : a'.tmps[7]? = some (.pointer (some ⟨B7, 0, none⟩)) := hs'.2.2 7 (by kernel_rfl)
        unfold Go.Rel.stepOf
        go_simp
        exact hK _ _ (But.refl _ _) (hI.keep (by decide) (by decide)) rfl
      · intro f a' w' hI hf hanc hdesc hle hs' hd K hK
        unfold Go.Rel.stepOf
        go_simp
        exact hK _ _ (But.refl _ _) (hI.keep (by decide) (by decide)) rfl
      · intro f a' w' hI hf hanc hdesc hle hs' hd K hK
        obtain ⟨_, ta, rfl⟩ := hd 0 54 (by kernel_rfl)
        have f5 : a'.tmps[5]? = some (.pointer (some ⟨X + 1, 0, none⟩)) := hs'.2.2 5 (by kernel_rfl)
        have hz := hI.z3 hf
        obtain ⟨x0, x1, x2⟩ := blk3 hz
        have g0 := blk_froz hz 0
        have g1 := blk_froz hz 1
        have g2 := blk_froz hz 2
        unfold Go.Rel.stepOf
        go_simp
        exact hK undef _ ((set3_but w' (X + 1) _ _ _).mono (fun k e => .inl e)) (hI.st3 hf) trivial
      · intro f a' w' hI hf hanc hdesc hle hs' hd K hK
        obtain ⟨_, ta, rfl⟩ := hd 1 55 (by kernel_rfl)
        have f6 : a'.tmps[6]? = some (.pointer (some ⟨X + 1 + 1, 0, none⟩)) := hs'.2.2 6 (by kernel_rfl)
        have hz := hI.z4 hf
        obtain ⟨x0, x1, x2⟩ := blk3 hz
        have g0 := blk_froz hz 0
        have g1 := blk_froz hz 1
        have g2 := blk_froz hz 2
        unfold Go.Rel.stepOf
        go_simp
        exact hK undef _ ((set3_but w' (X + 1 + 1) _ _ _).mono (fun k e => .inr e)) (hI.st4 hf) trivial
    case he1 =>
      intro f a' w9f hall hI hle hs' hR'
      have HB1f := Lib.hid (hI.a3 (hall 3 (by decide)))
      have HB2f := Lib.hid (hI.b4 (hall 4 (by decide)))
      have HLf := Lib.hid hle
      obtain ⟨va, s54, _⟩ := hR' 0 54 (by kernel_rfl)
      obtain ⟨vb, s55, _⟩ := hR' 1 55 (by kernel_rfl)
      obtain ⟨_, s4, rfl⟩ := hR' 2 4 (by kernel_rfl)
      have e := hs'.shape
      simp only [List.toList_toArray, List.foldl, Go.Rel.reset, Array.getD_eq_getD_getElem?, s54, s55, s4, Option.getD_some] at e
      simp at e
      clear hR' hs' hI hall hle s54 s55 s4
      subst e
      go_wp2
      obtain ⟨g0, g1, g2⟩ := blk3 HB1f.out
      obtain ⟨g3, g4, g5⟩ := blk3 HB2f.out
      have hsz := HX.out
      have hlt := HA_w10.out.lt
      obtain ⟨vq, hRq, hvq⟩ := (show ∃ v, RrAt _ base B v r ∧ ∀ b, v.ownBlock = some b → b ≠ X + 1 ∧ b ≠ X + 1 + 1 from ⟨_, HR_w10.out, fun b hb => row_old (wz := w) (r2 := r) HR.out hb HX.out⟩)
      refine bodyPost_ret (v := .tuple #[.int .i64 4, .agg #[.int .i64 old.node, .int .u32 (old.inc : Int), .int .i64 old.st], .agg #[.int .i64 old.node, .int .u32 (old.inc : Int), .int .i64 old.st]]) (by simp [results, Try.results14, go_sem, g0, g1, g2, g3, g4, g5]) rfl ⟨rfl, ⟨vq, hRq.but HLf.out (fun e => by omega) (fun b hb e => by have := hvq b hb; omega)⟩, ?_⟩
      exact HA_w10.out.but.then_ HLf.out (fun i e hi => by omega)
set_option maxHeartbeats 16000000 in
set_option maxRecDepth 100000 in
theorem rapply_mine {base B : Nat} {v0 : Value} {r : Ro} (u old : Up) (w : World) (hR : RrAt w base B v0 r) (hbase : base ≤ w.heap.size) (hr : u.right = true) (ho : u.node = r.own) (hold : old = r.selfU) (hg : old.st ≠ 3) (ha : u.above old = true) (h1 : old.inc ≤ 4294967295) (h2 : u.inc ≤ 4294967295) (inc : Nat) (hf : refuteN old.inc u.inc = (inc, 0)) (now : Up) (hnow : now = ⟨r.own, inc, 0⟩) :
    Calls Try.prog 14 #[.pointer (some ⟨B, 0, none⟩), .agg #[.int .i64 u.node, .int .u32 (u.inc : Int), .int .i64 u.st]] w (RApPost w base B 3 old now ⟨r.own, put r.T now⟩) := by
  have HRt := Lib.hid hr
  obtain ⟨me, hme⟩ : ∃ m, r.own = m := ⟨_, rfl⟩
  obtain ⟨is, his⟩ : ∃ m, (r.T u.node).isSome = m := ⟨_, rfl⟩
  have HMe := Lib.hid hme
  have HIs := Lib.hid his
  have HPr := Lib.hid (fun w => rright_any u w true hr)
  have HOld : Hid (atU r.T u.node = old) := Lib.hid (by unfold atU; rw [ho, hR.ok.selfAt.1, hold]; rfl)
  have zo : (u.node == me) = true := by rw [beq_iff_eq, ← hme]; exact ho
  have HAb := Lib.hid (fun w => rabove_any u old w true ha)
  have HRf := Lib.hid (fun w => rrefute_any old.inc u w inc 0 hf h1 h2)
  have zg : (old.st == 3) = false := by rw [beq_eq_false_iff_ne]; exact hg
  have HNow : Hid (now.node = me ∧ now.inc = inc ∧ now.st = 0) := Lib.hid (by rw [hnow, hme]; exact ⟨rfl, rfl, rfl⟩)
  have HNr : Hid (now.right = true) := Lib.hid (by rw [hnow]; exact hR.ok.own_node inc)
  clear hr hme his ho hold hg ha h1 h2 hf hnow
  have hlB := hR.lt
  have HR := Lib.hid hR
  have HBs := Lib.hid hbase
  have hA := RaIn.mk_ w B u hlB
  obtain ⟨X, hX⟩ : ∃ X, w.heap.size = X := ⟨_, rfl⟩
  obtain ⟨W, hW⟩ : ∃ W, ((w.alloc (.cells #[.int .i64 u.node, .int .u32 (u.inc : Int), .int .i64 u.st] 32)).alloc (.cells #[.int .i64 0, .int .u32 0, .int .i64 0] 32)).alloc (.cells #[.int .i64 0, .int .u32 0, .int .i64 0] 32) = W := ⟨_, rfl⟩
  have hb0 : Below w.heap.size w W := by rw [← hW]; exact (below2 w _ _).alloc (by simp; omega) _
  rw [hX, hW] at hA
  obtain ⟨c0, c1, c2⟩ := blk3 hA.b0
  have HA := Lib.hid hA
  have HB0 := Lib.hid hb0
  have HX := Lib.hid hX
  have HW := Lib.hid hW
  clear hR hA hX hW hlB hb0 hbase
  go_enter Try.func14, Try.ntmps14
  go_wp2_with fail
  rw [HW.out, HX.out]
  refine (HPr.out _).mono ?_
  rintro e w1 ⟨rfl, hb1⟩
  have hA1 := HA.out.below hb1
  have hR1 := (HR.out.below HB0.out).below hb1
  have HB1 := Lib.hid (HB0.out.trans (hb1.mono HB0.out.size))
  clear c0 c1 c2 hb1
  obtain ⟨A, n, c, rfl, _, _, hfind⟩ := hR1.find
  obtain ⟨G, hG⟩ : ∃ G, w1.heap.size = G := ⟨_, rfl⟩
  have HFd : Hid (∀ w', Below w1.heap.size w1 w' → Calls Try.prog 16 #[.slice A n c, .int .i64 u.node] w' fun e w2 => e = .returned (.tuple #[.agg #[.int .i64 old.node, .int .u32 (old.inc : Int), .int .i64 old.st], .bool is]) ∧ Below w'.heap.size w' w2) := Lib.hid (fun w' hb => by have := hfind w' hb u.node; rw [HOld.out, HIs.out] at this; exact this)
  have HC : Hid (∀ w', LeT G w1 w' → w'.cell? ⟨B, 1, none⟩ = some (.slice A n c) ∧ w'.cell? ⟨X, 0, none⟩ = some (.int .i64 u.node)) := Lib.hid (fun w' hle => by
    have hl := hR1.lt
    have hbl := (hle.but.block B hl (by omega)).trans hR1.blk
    have hbx := (hle.but.block X (block_lt hA1.b0) (by have := block_lt hA1.b0; omega)).trans hA1.b0
    refine ⟨?_, (blk3 hbx).1⟩
    rw [cell_of_row _ _ _ _ _ _ hbl]; rfl)
  have HG := Lib.hid hG
  have HA1 := Lib.hid hA1
  have HR1 := Lib.hid hR1
  clear hA1 hR1 hG hfind
  go_wp2
  refine Go.Rel.wp_region_acts (by kernel_rfl) (by kernel_rfl) (by kernel_rfl) (by kernel_rfl) (fun f a' w' => f 11 = true → Holds G old 7 a' w') (LeT G) (fun _ _ _ h k => h.trans k) ⟨(But.refl _ _).drew, fun B u0 u1 u2 _ h => ⟨u0, u1, u2, h⟩⟩ (fun h => by cases h) (rapR G B X u A n c old is) (rapR_stable G B X u A n c old is) ?hs ?he
  case hs =>
    refine (.cons ?_ (.cons ?_ (.cons ?_ (.cons ?_ (.cons ?_ (.cons ?_ (.cons ?_ (.cons ?_ (.cons ?_ (.cons ?_ (.cons ?_ (.cons ?_ (.cons ?_ .nil)))))))))))))
    · intro f a' w' hI hf hanc hdesc hle hs' hd K hK
      have f0 : a'.tmps[0]? = some (.pointer (some ⟨B, 0, none⟩)) := hs'.2.2 0 (by kernel_rfl)
      unfold Go.Rel.stepOf
      go_simp
      exact hK _ _ (LeT.refl _ _) (fun h => Holds.keep (hI (by simpa [Go.Rel.upd] using h)) (Below.refl _ _) (by decide) _) rfl
    · intro f a' w' hI hf hanc hdesc hle hs' hd K hK
      obtain ⟨_, t0, rfl⟩ := hd 0 18 (by kernel_rfl)
      unfold Go.Rel.stepOf
      go_simp
      exact hK _ _ (LeT.refl _ _) (fun h => Holds.keep (hI (by simpa [Go.Rel.upd] using h)) (Below.refl _ _) (by decide) _) rfl
    · intro f a' w' hI hf hanc hdesc hle hs' hd K hK
      obtain ⟨_, t1, rfl⟩ := hd 1 19 (by kernel_rfl)
      unfold Go.Rel.stepOf
      go_simp
      exact hK _ _ (LeT.refl _ _) (fun h => Holds.keep (hI (by simpa [Go.Rel.upd] using h)) (Below.refl _ _) (by decide) _) rfl
    · intro f a' w' hI hf hanc hdesc hle hs' hd K hK
      obtain ⟨_, t2, rfl⟩ := hd 2 20 (by kernel_rfl)
      obtain ⟨r1, c0⟩ := HC.out w' hle
      unfold Go.Rel.stepOf
      go_simp
      exact hK _ _ (LeT.refl _ _) (fun h => Holds.keep (hI (by simpa [Go.Rel.upd] using h)) (Below.refl _ _) (by decide) _) rfl
    · intro f a' w' hI hf hanc hdesc hle hs' hd K hK
      have f3 : a'.tmps[3]? = some (.pointer (some ⟨X, 0, none⟩)) := hs'.2.2 3 (by kernel_rfl)
      unfold Go.Rel.stepOf
      go_simp
      exact hK _ _ (LeT.refl _ _) (fun h => Holds.keep (hI (by simpa [Go.Rel.upd] using h)) (Below.refl _ _) (by decide) _) rfl
    · intro f a' w' hI hf hanc hdesc hle hs' hd K hK
      obtain ⟨_, t4, rfl⟩ := hd 4 22 (by kernel_rfl)
      obtain ⟨r1, c0⟩ := HC.out w' hle
      unfold Go.Rel.stepOf
      go_simp
      exact hK _ _ (LeT.refl _ _) (fun h => Holds.keep (hI (by simpa [Go.Rel.upd] using h)) (Below.refl _ _) (by decide) _) rfl
    · intro f a' w' hI hf hanc hdesc hle hs' hd K hK
      obtain ⟨_, t3, rfl⟩ := hd 3 21 (by kernel_rfl)
      obtain ⟨_, t5, rfl⟩ := hd 5 23 (by kernel_rfl)
      unfold Go.Rel.stepOf
      go_simp
      refine (HFd.out w' (hle.but.below (Nat.le_refl _) (fun k hk hG => by have := HG.out; omega))).mono ?_
      rintro e w6 ⟨rfl, hb6⟩
      exact hK _ _ (LeT.of_below hb6) (fun h => Holds.keep (hI (by simpa [Go.Rel.upd] using h)) hb6 (by decide) _) rfl
    · intro f a' w' hI hf hanc hdesc hle hs' hd K hK
      obtain ⟨_, t6, rfl⟩ := hd 6 24 (by kernel_rfl)
      unfold Go.Rel.stepOf
      go_simp
      exact hK _ _ (LeT.refl _ _) (fun h => Holds.keep (hI (by simpa [Go.Rel.upd] using h)) (Below.refl _ _) (by decide) _) rfl
    · intro f a' w' hI hf hanc hdesc hle hs' hd K hK
      obtain ⟨_, t7, rfl⟩ := hd 7 17 (by kernel_rfl)
      unfold Go.Rel.stepOf
      go_simp
      exact hK _ _ (LeT.refl _ _) (fun h => Holds.keep (hI (by simpa [Go.Rel.upd] using h)) (Below.refl _ _) (by decide) _) rfl
    · intro f a' w' hI hf hanc hdesc hle hs' hd K hK
      obtain ⟨_, t7, rfl⟩ := hd 7 17 (by kernel_rfl)
      unfold Go.Rel.stepOf
      go_simp
      exact hK _ _ (LeT.refl _ _) (fun h => Holds.keep (hI (by simpa [Go.Rel.upd] using h)) (Below.refl _ _) (by decide) _) rfl
    · intro f a' w' hI hf hanc hdesc hle hs' hd K hK
      have zS := hdesc 12 11 (by kernel_rfl)
      have hz := hle.but.size
      unfold Go.Rel.stepOf
      go_simp
      exact hK _ _ (LeT.of_below (below1 _ _)) (fun h => by simp [Go.Rel.upd, zS] at h) ⟨_, rfl, by have := HG.out; omega, _, _, _, heap_alloc_new _ _⟩
    · intro f a' w' hI hf hanc hdesc hle hs' hd K hK
      obtain ⟨_, ta, B, rfl, hB, u0, u1, u2, hh⟩ := hd 10 7 (by kernel_rfl)
      obtain ⟨_, tb, rfl⟩ := hd 8 25 (by kernel_rfl)
      obtain ⟨b0, b1, b2⟩ := blk3 hh
      have g0 := blk_froz hh 0
      have g1 := blk_froz hh 1
      have g2 := blk_froz hh 2
      unfold Go.Rel.stepOf
      go_simp
      exact hK undef _ (LeT.set w' hB hh _ _ _) (fun _ => ⟨B, ta, hB, set3_blk hh _ _ _⟩) trivial
    · intro f a' w' hI hf hanc hdesc hle hs' hd K hK
      obtain ⟨_, t9, rfl⟩ := hd 9 26 (by kernel_rfl)
      unfold Go.Rel.stepOf
      go_simp
      exact hK _ _ (LeT.refl _ _) (fun h => Holds.keep (hI (by simpa [Go.Rel.upd] using h)) (Below.refl _ _) (by decide) _) rfl
  case he =>
    intro f a' w7 hall hI hle hs' hR'
    obtain ⟨B7, s7, hB7, hh7⟩ := hI (hall 11 (by decide))
    obtain ⟨v18, s18, _⟩ := hR' 0 18 (by kernel_rfl)
    obtain ⟨v19, s19, _⟩ := hR' 1 19 (by kernel_rfl)
    obtain ⟨v20, s20, _⟩ := hR' 2 20 (by kernel_rfl)
    obtain ⟨v21, s21, _⟩ := hR' 3 21 (by kernel_rfl)
    obtain ⟨v22, s22, _⟩ := hR' 4 22 (by kernel_rfl)
    obtain ⟨v23, s23, _⟩ := hR' 5 23 (by kernel_rfl)
    obtain ⟨v24, s24, _⟩ := hR' 6 24 (by kernel_rfl)
    obtain ⟨v17, s17, _⟩ := hR' 7 17 (by kernel_rfl)
    obtain ⟨v25, s25, _⟩ := hR' 8 25 (by kernel_rfl)
    obtain ⟨v26, s26, _⟩ := hR' 9 26 (by kernel_rfl)
    obtain ⟨_, s8, rfl⟩ := hR' 12 8 (by kernel_rfl)
    have e := hs'.shape
    simp only [List.toList_toArray, List.foldl, Go.Rel.reset, Array.getD_eq_getD_getElem?, s7, s18, s19, s20, s21, s22, s23, s24, s17, s25, s26, s8, Option.getD_some] at e
    simp at e
    have HL7 := Lib.hid hle
    have HH7 := Lib.hid hh7
    have HB7 := Lib.hid hB7
    clear hR' hs' hI hall hle hh7 hB7 s7 s18 s19 s20 s21 s22 s23 s24 s17 s25 s26 s8
    subst e
    have hb7 : Below w1.heap.size w1 w7 := HL7.out.but.below (Nat.le_refl _) (fun k hk hG => by have := HG.out; omega)
    have hA7 := HA1.out.below hb7
    have hR7 := HR1.out.below hb7
    have hXB : X + 1 + 1 < B7 := by have := block_lt HA1.out.b2; have := HB7.out; have := HG.out; omega
    obtain ⟨c0, c1, c2⟩ := blk3 hA7.b0
    have r0 := hR7.c0
    rw [HMe.out] at r0
    have HBf := Lib.hid (HB1.out.trans (hb7.mono HB1.out.size))
    have HA7 := Lib.hid hA7
    have HR7 := Lib.hid hR7
    clear hb7 hA7 hR7
    go_wp2
    go_quiet (fail)
    have hA8 : RaIn w (w7.drewN nq) B X u := ⟨HA7.out.base, HA7.out.lt, HA7.out.but.drewN nq, HA7.out.b0, HA7.out.b1, HA7.out.b2⟩
    have hR8 : RrAt (w7.drewN nq) base B (.slice A n c) r := ⟨HR7.out.blk, own_but HR7.out.row ((But.refl (fun _ => False) _).drewN nq) (fun _ _ h => h), HR7.out.ok⟩
    have hO8 : (w7.drewN nq).heap[B7]? = some (.cells #[.int .i64 old.node, .int .u32 (old.inc : Int), .int .i64 old.st] 32) := HH7.out
    have hB8 : Below w.heap.size w (w7.drewN nq) := below_drewN HBf.out nq
    obtain ⟨w8, hw8⟩ : ∃ w8, w7.drewN nq = w8 := ⟨_, rfl⟩
    rw [hw8] at hA8 hR8 hO8 hB8 ⊢
    have HA8 := Lib.hid hA8
    have HR8 := Lib.hid hR8
    have HO8 := Lib.hid hO8
    have HB8 := Lib.hid hB8
    clear hA8 hR8 hO8 hB8 hw8 c0 c1 c2 r0
    have HA_w8 := HA8
    have HR_w8 := HR8
    have HO_w8 := HO8
    have HB_w8 := HB8
    obtain ⟨c0, c1, c2⟩ := blk3 HA_w8.out.b0
    obtain ⟨o0, o1, o2⟩ := blk3 HO_w8.out
    go_wp2_with fail
    refine (HAb.out _).mono ?_
    rintro e w9 ⟨rfl, hb⟩
    have hA := HA_w8.out.below hb
    have hR := HR_w8.out.below hb
    have hO := (hb.block _ (block_lt HO_w8.out)).trans HO_w8.out
    have HB_w9 := Lib.hid (HB_w8.out.trans (hb.mono HB_w8.out.size))
    clear hb c0 c1 c2 o0 o1 o2
    have HA_w9 := Lib.hid hA
    have HR_w9 := Lib.hid hR
    have HO_w9 := Lib.hid hO
    clear hA hR hO
    obtain ⟨c0, c1, c2⟩ := blk3 HA_w9.out.b0
    obtain ⟨o0, o1, o2⟩ := blk3 HO_w9.out
    go_wp2_with fail
    refine (HRf.out _).mono ?_
    rintro e w10 ⟨rfl, hb⟩
    have hA := HA_w9.out.below hb
    have hR := HR_w9.out.below hb
    have hO := (hb.block _ (block_lt HO_w9.out)).trans HO_w9.out
    have HB_w10 := Lib.hid (HB_w9.out.trans (hb.mono HB_w9.out.size))
    clear hb c0 c1 c2 o0 o1 o2
    have HA_w10 := Lib.hid hA
    have HR_w10 := Lib.hid hR
    have HO_w10 := Lib.hid hO
    clear hA hR hO
    have r0 := HR_w10.out.c0
    rw [HMe.out] at r0
    have hb11 := below1 w10 (.cells #[.int .i64 me, .int .u32 (inc : Int), .int .i64 0] 32)
    have k11 := heap_alloc_new w10 (.cells #[.int .i64 me, .int .u32 (inc : Int), .int .i64 0] 32)
    obtain ⟨N, hN⟩ : ∃ N, w10.heap.size = N := ⟨_, rfl⟩
    have hBN := HR_w10.out.lt
    obtain ⟨w11, hw11⟩ : ∃ w11, w10.alloc (.cells #[.int .i64 me, .int .u32 (inc : Int), .int .i64 0] 32) = w11 := ⟨_, rfl⟩
    rw [hw11] at hb11 k11
    rw [hN] at k11 hBN
    have HA_w11 := Lib.hid (HA_w10.out.below hb11)
    have HR_w11 := Lib.hid (HR_w10.out.below hb11)
    have HO_w11 := Lib.hid ((hb11.block _ (block_lt HO_w10.out)).trans HO_w10.out)
    have HB_w11 := Lib.hid (HB_w10.out.trans (hb11.mono HB_w10.out.size))
    have HK_w11 : Hid (w11.heap[N]? = some (.cells #[.int .i64 now.node, .int .u32 (now.inc : Int), .int .i64 now.st] 32)) := Lib.hid (by rw [k11, HNow.out.1, HNow.out.2.1, HNow.out.2.2])
    have HBN := Lib.hid hBN
    have HNX := Lib.hid (show X + 1 + 1 < N by have := block_lt HA_w10.out.b2; rw [← hN]; exact this)
    have HXB := Lib.hid hXB
    have HW11 := Lib.hid hw11
    have HN := Lib.hid hN
    have HPut := Lib.hid (rput_any now w11 HR_w11.out (Nat.le_trans HBs.out HB_w11.out.size) HNr.out)
    rw [HNow.out.1, HNow.out.2.1, HNow.out.2.2] at HPut
    obtain ⟨q0, q1, q2⟩ := blk3 HK_w11.out
    rw [HNow.out.1] at q0
    rw [HNow.out.2.1] at q1
    rw [HNow.out.2.2] at q2
    clear hb11 k11 hN hBN hw11 hXB
    go_wp2_with fail
    rw [HW11.out, HN.out]
    clear r0 q0 q1 q2
    refine HPut.out.mono ?_
    rintro e w12 ⟨rfl, ⟨vp, hRp, hvp⟩, hbp⟩
    have hXw := block_lt HA_w11.out.b2
    have hBX := HA_w11.out.lt
    have hXB := HXB.out
    have hBN := HBN.out
    have HA_w12 := Lib.hid (HA_w11.out.then_ hbp)
    have HRp := Lib.hid hRp
    have HVp := Lib.hid (show ∀ b, vp.ownBlock = some b → b ≠ X + 1 ∧ b ≠ X + 1 + 1 from fun b hb => by have := hvp b hb; omega)
    have HO_w12 := Lib.hid ((hbp.block B7 (block_lt HO_w11.out) (by omega)).trans HO_w11.out)
    have HK_w12 := Lib.hid ((hbp.block N (block_lt HK_w11.out) (by omega)).trans HK_w11.out)
    clear hRp hvp hbp hXw hBX hBN hXB HPut
    have HXn : Hid (X + 1 + 1 < B7 ∧ X + 1 + 1 < N) := Lib.hid ⟨HXB.out, by have := HNX.out; omega⟩
    have hX1 := block_lt HA_w12.out.b1
    have hlt0 := HA_w12.out.lt
    have hI0 : TwoI X old now (fun _ => false) w12 := ⟨fun _ => HA_w12.out.b1, (fun h => by cases h), fun _ => HA_w12.out.b2, (fun h => by cases h)⟩
    have HI0 := Lib.hid hI0
    clear hI0
    go_wp2
    refine Go.Rel.wp_region_states (by kernel_rfl) (by kernel_rfl) (by kernel_rfl) (by kernel_rfl) (TwoI X old now) (But (fun k => k = X + 1 ∨ k = X + 1 + 1)) (fun _ _ _ h k => h.trans k) (But.refl _ _).drew ⟨HI0.out.z3, HI0.out.a3, HI0.out.z4, HI0.out.b4⟩ (twoV (.agg #[.int .i64 old.node, .int .u32 (old.inc : Int), .int .i64 old.st]) (.agg #[.int .i64 now.node, .int .u32 (now.inc : Int), .int .i64 now.st]) (.int .i64 3)) (twoV_stable X (.agg #[.int .i64 old.node, .int .u32 (old.inc : Int), .int .i64 old.st]) (.agg #[.int .i64 now.node, .int .u32 (now.inc : Int), .int .i64 now.st]) (.int .i64 3)) ?hs1 ?he1
    case hs1 =>
      refine .cons ?_ (.cons ?_ (.cons ?_ (.cons ?_ (.cons ?_ .nil))))
      · intro f a' w' hI hf hanc hdesc hle hs' hd K hK
        obtain ⟨x0, x1, x2⟩ := blk3 ((hle.block B7 (block_lt HO_w12.out) (by have := HXn.out; omega)).trans HO_w12.out)
        have f7 : a'.tmps[7]? = some (.pointer (some ⟨B7, 0, none⟩)) := hs'.2.2 7 (by kernel_rfl)
        unfold Go.Rel.stepOf
        go_simp
        exact hK _ _ (But.refl _ _) (hI.keep (by decide) (by decide)) rfl
      · intro f a' w' hI hf hanc hdesc hle hs' hd K hK
        obtain ⟨x0, x1, x2⟩ := blk3 ((hle.block N (block_lt HK_w12.out) (by have := HXn.out; omega)).trans HK_w12.out)
        have f11 : a'.tmps[11]? = some (.pointer (some ⟨N, 0, none⟩)) := hs'.2.2 11 (by kernel_rfl)
        unfold Go.Rel.stepOf
        go_simp
        exact hK _ _ (But.refl _ _) (hI.keep (by decide) (by decide)) rfl
      · intro f a' w' hI hf hanc hdesc hle hs' hd K hK
        unfold Go.Rel.stepOf
        go_simp
        exact hK _ _ (But.refl _ _) (hI.keep (by decide) (by decide)) rfl
      · intro f a' w' hI hf hanc hdesc hle hs' hd K hK
        obtain ⟨_, ta, rfl⟩ := hd 0 65 (by kernel_rfl)
        have f5 : a'.tmps[5]? = some (.pointer (some ⟨X + 1, 0, none⟩)) := hs'.2.2 5 (by kernel_rfl)
        have hz := hI.z3 hf
        obtain ⟨x0, x1, x2⟩ := blk3 hz
        have g0 := blk_froz hz 0
        have g1 := blk_froz hz 1
        have g2 := blk_froz hz 2
        unfold Go.Rel.stepOf
        go_simp
        exact hK undef _ ((set3_but w' (X + 1) _ _ _).mono (fun k e => .inl e)) (hI.st3 hf) trivial
      · intro f a' w' hI hf hanc hdesc hle hs' hd K hK
        obtain ⟨_, ta, rfl⟩ := hd 1 66 (by kernel_rfl)
        have f6 : a'.tmps[6]? = some (.pointer (some ⟨X + 1 + 1, 0, none⟩)) := hs'.2.2 6 (by kernel_rfl)
        have hz := hI.z4 hf
        obtain ⟨x0, x1, x2⟩ := blk3 hz
        have g0 := blk_froz hz 0
        have g1 := blk_froz hz 1
        have g2 := blk_froz hz 2
        unfold Go.Rel.stepOf
        go_simp
        exact hK undef _ ((set3_but w' (X + 1 + 1) _ _ _).mono (fun k e => .inr e)) (hI.st4 hf) trivial
    case he1 =>
      intro f a' w9f hall hI hle hs' hR'
      have HB1f := Lib.hid (hI.a3 (hall 3 (by decide)))
      have HB2f := Lib.hid (hI.b4 (hall 4 (by decide)))
      have HLf := Lib.hid hle
      obtain ⟨va, s65, _⟩ := hR' 0 65 (by kernel_rfl)
      obtain ⟨vb, s66, _⟩ := hR' 1 66 (by kernel_rfl)
      obtain ⟨_, s4, rfl⟩ := hR' 2 4 (by kernel_rfl)
      have e := hs'.shape
      simp only [List.toList_toArray, List.foldl, Go.Rel.reset, Array.getD_eq_getD_getElem?, s65, s66, s4, Option.getD_some] at e
      simp at e
      clear hR' hs' hI hall hle s65 s66 s4
      subst e
      go_wp2
      obtain ⟨g0, g1, g2⟩ := blk3 HB1f.out
      obtain ⟨g3, g4, g5⟩ := blk3 HB2f.out
      have hsz := HX.out
      have hlt := HA_w12.out.lt
      obtain ⟨vq, hRq, hvq⟩ := (show ∃ v, RrAt _ base B v _ ∧ ∀ b, v.ownBlock = some b → b ≠ X + 1 ∧ b ≠ X + 1 + 1 from ⟨vp, HRp.out, HVp.out⟩)
      refine bodyPost_ret (v := .tuple #[.int .i64 3, .agg #[.int .i64 old.node, .int .u32 (old.inc : Int), .int .i64 old.st], .agg #[.int .i64 now.node, .int .u32 (now.inc : Int), .int .i64 now.st]]) (by simp [results, Try.results14, go_sem, g0, g1, g2, g3, g4, g5]) rfl ⟨rfl, ⟨vq, hRq.but HLf.out (fun e => by omega) (fun b hb e => by have := hvq b hb; omega)⟩, ?_⟩
      exact HA_w12.out.but.then_ HLf.out (fun i e hi => by omega)
set_option maxHeartbeats 16000000 in
set_option maxRecDepth 100000 in
theorem rapply_fresh {base B : Nat} {v0 : Value} {r : Ro} (u old : Up) (w : World) (hR : RrAt w base B v0 r) (hbase : base ≤ w.heap.size) (hr : u.right = true) (ho : u.node ≠ r.own) (hT : r.T u.node = none) (hold : old = zU) :
    Calls Try.prog 14 #[.pointer (some ⟨B, 0, none⟩), .agg #[.int .i64 u.node, .int .u32 (u.inc : Int), .int .i64 u.st]] w (RApPost w base B 1 zU u ⟨r.own, put r.T u⟩) := by
  have HRt := Lib.hid hr
  obtain ⟨me, hme⟩ : ∃ m, r.own = m := ⟨_, rfl⟩
  obtain ⟨is, his0⟩ : ∃ m, m = false := ⟨_, rfl⟩
  have his : (r.T u.node).isSome = is := by rw [hT, his0]; rfl
  have HMe := Lib.hid hme
  have HIs := Lib.hid his
  have HPr := Lib.hid (fun w => rright_any u w true hr)
  have zo : (u.node == me) = false := by rw [beq_eq_false_iff_ne, ← hme]; exact ho
  have HOld : Hid (atU r.T u.node = old) := Lib.hid (by unfold atU; rw [hT, hold]; rfl)
  have HI0 := Lib.hid his0
  clear hr hme his ho hold hT his0
  have hlB := hR.lt
  have HR := Lib.hid hR
  have HBs := Lib.hid hbase
  have hA := RaIn.mk_ w B u hlB
  obtain ⟨X, hX⟩ : ∃ X, w.heap.size = X := ⟨_, rfl⟩
  obtain ⟨W, hW⟩ : ∃ W, ((w.alloc (.cells #[.int .i64 u.node, .int .u32 (u.inc : Int), .int .i64 u.st] 32)).alloc (.cells #[.int .i64 0, .int .u32 0, .int .i64 0] 32)).alloc (.cells #[.int .i64 0, .int .u32 0, .int .i64 0] 32) = W := ⟨_, rfl⟩
  have hb0 : Below w.heap.size w W := by rw [← hW]; exact (below2 w _ _).alloc (by simp; omega) _
  rw [hX, hW] at hA
  obtain ⟨c0, c1, c2⟩ := blk3 hA.b0
  have HA := Lib.hid hA
  have HB0 := Lib.hid hb0
  have HX := Lib.hid hX
  have HW := Lib.hid hW
  clear hR hA hX hW hlB hb0 hbase
  go_enter Try.func14, Try.ntmps14
  go_wp2_with fail
  rw [HW.out, HX.out]
  refine (HPr.out _).mono ?_
  rintro e w1 ⟨rfl, hb1⟩
  have hA1 := HA.out.below hb1
  have hR1 := (HR.out.below HB0.out).below hb1
  have HB1 := Lib.hid (HB0.out.trans (hb1.mono HB0.out.size))
  clear c0 c1 c2 hb1
  obtain ⟨A, n, c, rfl, _, _, hfind⟩ := hR1.find
  obtain ⟨G, hG⟩ : ∃ G, w1.heap.size = G := ⟨_, rfl⟩
  have HFd : Hid (∀ w', Below w1.heap.size w1 w' → Calls Try.prog 16 #[.slice A n c, .int .i64 u.node] w' fun e w2 => e = .returned (.tuple #[.agg #[.int .i64 old.node, .int .u32 (old.inc : Int), .int .i64 old.st], .bool is]) ∧ Below w'.heap.size w' w2) := Lib.hid (fun w' hb => by have := hfind w' hb u.node; rw [HOld.out, HIs.out] at this; exact this)
  have HC : Hid (∀ w', LeT G w1 w' → w'.cell? ⟨B, 1, none⟩ = some (.slice A n c) ∧ w'.cell? ⟨X, 0, none⟩ = some (.int .i64 u.node)) := Lib.hid (fun w' hle => by
    have hl := hR1.lt
    have hbl := (hle.but.block B hl (by omega)).trans hR1.blk
    have hbx := (hle.but.block X (block_lt hA1.b0) (by have := block_lt hA1.b0; omega)).trans hA1.b0
    refine ⟨?_, (blk3 hbx).1⟩
    rw [cell_of_row _ _ _ _ _ _ hbl]; rfl)
  have HG := Lib.hid hG
  have HA1 := Lib.hid hA1
  have HR1 := Lib.hid hR1
  clear hA1 hR1 hG hfind
  go_wp2
  refine Go.Rel.wp_region_acts (by kernel_rfl) (by kernel_rfl) (by kernel_rfl) (by kernel_rfl) (fun f a' w' => f 11 = true → Holds G old 7 a' w') (LeT G) (fun _ _ _ h k => h.trans k) ⟨(But.refl _ _).drew, fun B u0 u1 u2 _ h => ⟨u0, u1, u2, h⟩⟩ (fun h => by cases h) (rapR G B X u A n c old is) (rapR_stable G B X u A n c old is) ?hs ?he
  case hs =>
    refine (.cons ?_ (.cons ?_ (.cons ?_ (.cons ?_ (.cons ?_ (.cons ?_ (.cons ?_ (.cons ?_ (.cons ?_ (.cons ?_ (.cons ?_ (.cons ?_ (.cons ?_ .nil)))))))))))))
    · intro f a' w' hI hf hanc hdesc hle hs' hd K hK
      have f0 : a'.tmps[0]? = some (.pointer (some ⟨B, 0, none⟩)) := hs'.2.2 0 (by kernel_rfl)
      unfold Go.Rel.stepOf
      go_simp
      exact hK _ _ (LeT.refl _ _) (fun h => Holds.keep (hI (by simpa [Go.Rel.upd] using h)) (Below.refl _ _) (by decide) _) rfl
    · intro f a' w' hI hf hanc hdesc hle hs' hd K hK
      obtain ⟨_, t0, rfl⟩ := hd 0 18 (by kernel_rfl)
      unfold Go.Rel.stepOf
      go_simp
      exact hK _ _ (LeT.refl _ _) (fun h => Holds.keep (hI (by simpa [Go.Rel.upd] using h)) (Below.refl _ _) (by decide) _) rfl
    · intro f a' w' hI hf hanc hdesc hle hs' hd K hK
      obtain ⟨_, t1, rfl⟩ := hd 1 19 (by kernel_rfl)
      unfold Go.Rel.stepOf
      go_simp
      exact hK _ _ (LeT.refl _ _) (fun h => Holds.keep (hI (by simpa [Go.Rel.upd] using h)) (Below.refl _ _) (by decide) _) rfl
    · intro f a' w' hI hf hanc hdesc hle hs' hd K hK
      obtain ⟨_, t2, rfl⟩ := hd 2 20 (by kernel_rfl)
      obtain ⟨r1, c0⟩ := HC.out w' hle
      unfold Go.Rel.stepOf
      go_simp
      exact hK _ _ (LeT.refl _ _) (fun h => Holds.keep (hI (by simpa [Go.Rel.upd] using h)) (Below.refl _ _) (by decide) _) rfl
    · intro f a' w' hI hf hanc hdesc hle hs' hd K hK
      have f3 : a'.tmps[3]? = some (.pointer (some ⟨X, 0, none⟩)) := hs'.2.2 3 (by kernel_rfl)
      unfold Go.Rel.stepOf
      go_simp
      exact hK _ _ (LeT.refl _ _) (fun h => Holds.keep (hI (by simpa [Go.Rel.upd] using h)) (Below.refl _ _) (by decide) _) rfl
    · intro f a' w' hI hf hanc hdesc hle hs' hd K hK
      obtain ⟨_, t4, rfl⟩ := hd 4 22 (by kernel_rfl)
      obtain ⟨r1, c0⟩ := HC.out w' hle
      unfold Go.Rel.stepOf
      go_simp
      exact hK _ _ (LeT.refl _ _) (fun h => Holds.keep (hI (by simpa [Go.Rel.upd] using h)) (Below.refl _ _) (by decide) _) rfl
    · intro f a' w' hI hf hanc hdesc hle hs' hd K hK
      obtain ⟨_, t3, rfl⟩ := hd 3 21 (by kernel_rfl)
      obtain ⟨_, t5, rfl⟩ := hd 5 23 (by kernel_rfl)
      unfold Go.Rel.stepOf
      go_simp
      refine (HFd.out w' (hle.but.below (Nat.le_refl _) (fun k hk hG => by have := HG.out; omega))).mono ?_
      rintro e w6 ⟨rfl, hb6⟩
      exact hK _ _ (LeT.of_below hb6) (fun h => Holds.keep (hI (by simpa [Go.Rel.upd] using h)) hb6 (by decide) _) rfl
    · intro f a' w' hI hf hanc hdesc hle hs' hd K hK
      obtain ⟨_, t6, rfl⟩ := hd 6 24 (by kernel_rfl)
      unfold Go.Rel.stepOf
      go_simp
      exact hK _ _ (LeT.refl _ _) (fun h => Holds.keep (hI (by simpa [Go.Rel.upd] using h)) (Below.refl _ _) (by decide) _) rfl
    · intro f a' w' hI hf hanc hdesc hle hs' hd K hK
      obtain ⟨_, t7, rfl⟩ := hd 7 17 (by kernel_rfl)
      unfold Go.Rel.stepOf
      go_simp
      exact hK _ _ (LeT.refl _ _) (fun h => Holds.keep (hI (by simpa [Go.Rel.upd] using h)) (Below.refl _ _) (by decide) _) rfl
    · intro f a' w' hI hf hanc hdesc hle hs' hd K hK
      obtain ⟨_, t7, rfl⟩ := hd 7 17 (by kernel_rfl)
      unfold Go.Rel.stepOf
      go_simp
      exact hK _ _ (LeT.refl _ _) (fun h => Holds.keep (hI (by simpa [Go.Rel.upd] using h)) (Below.refl _ _) (by decide) _) rfl
    · intro f a' w' hI hf hanc hdesc hle hs' hd K hK
      have zS := hdesc 12 11 (by kernel_rfl)
      have hz := hle.but.size
      unfold Go.Rel.stepOf
      go_simp
      exact hK _ _ (LeT.of_below (below1 _ _)) (fun h => by simp [Go.Rel.upd, zS] at h) ⟨_, rfl, by have := HG.out; omega, _, _, _, heap_alloc_new _ _⟩
    · intro f a' w' hI hf hanc hdesc hle hs' hd K hK
      obtain ⟨_, ta, B, rfl, hB, u0, u1, u2, hh⟩ := hd 10 7 (by kernel_rfl)
      obtain ⟨_, tb, rfl⟩ := hd 8 25 (by kernel_rfl)
      obtain ⟨b0, b1, b2⟩ := blk3 hh
      have g0 := blk_froz hh 0
      have g1 := blk_froz hh 1
      have g2 := blk_froz hh 2
      unfold Go.Rel.stepOf
      go_simp
      exact hK undef _ (LeT.set w' hB hh _ _ _) (fun _ => ⟨B, ta, hB, set3_blk hh _ _ _⟩) trivial
    · intro f a' w' hI hf hanc hdesc hle hs' hd K hK
      obtain ⟨_, t9, rfl⟩ := hd 9 26 (by kernel_rfl)
      unfold Go.Rel.stepOf
      go_simp
      exact hK _ _ (LeT.refl _ _) (fun h => Holds.keep (hI (by simpa [Go.Rel.upd] using h)) (Below.refl _ _) (by decide) _) rfl
  case he =>
    intro f a' w7 hall hI hle hs' hR'
    obtain ⟨B7, s7, hB7, hh7⟩ := hI (hall 11 (by decide))
    obtain ⟨v18, s18, _⟩ := hR' 0 18 (by kernel_rfl)
    obtain ⟨v19, s19, _⟩ := hR' 1 19 (by kernel_rfl)
    obtain ⟨v20, s20, _⟩ := hR' 2 20 (by kernel_rfl)
    obtain ⟨v21, s21, _⟩ := hR' 3 21 (by kernel_rfl)
    obtain ⟨v22, s22, _⟩ := hR' 4 22 (by kernel_rfl)
    obtain ⟨v23, s23, _⟩ := hR' 5 23 (by kernel_rfl)
    obtain ⟨v24, s24, _⟩ := hR' 6 24 (by kernel_rfl)
    obtain ⟨v17, s17, _⟩ := hR' 7 17 (by kernel_rfl)
    obtain ⟨v25, s25, _⟩ := hR' 8 25 (by kernel_rfl)
    obtain ⟨v26, s26, _⟩ := hR' 9 26 (by kernel_rfl)
    obtain ⟨_, s8, rfl⟩ := hR' 12 8 (by kernel_rfl)
    have e := hs'.shape
    simp only [List.toList_toArray, List.foldl, Go.Rel.reset, Array.getD_eq_getD_getElem?, s7, s18, s19, s20, s21, s22, s23, s24, s17, s25, s26, s8, Option.getD_some] at e
    simp at e
    have HL7 := Lib.hid hle
    have HH7 := Lib.hid hh7
    have HB7 := Lib.hid hB7
    clear hR' hs' hI hall hle hh7 hB7 s7 s18 s19 s20 s21 s22 s23 s24 s17 s25 s26 s8
    subst e
    have hb7 : Below w1.heap.size w1 w7 := HL7.out.but.below (Nat.le_refl _) (fun k hk hG => by have := HG.out; omega)
    have hA7 := HA1.out.below hb7
    have hR7 := HR1.out.below hb7
    have hXB : X + 1 + 1 < B7 := by have := block_lt HA1.out.b2; have := HB7.out; have := HG.out; omega
    obtain ⟨c0, c1, c2⟩ := blk3 hA7.b0
    have r0 := hR7.c0
    rw [HMe.out] at r0
    have HBf := Lib.hid (HB1.out.trans (hb7.mono HB1.out.size))
    have HA7 := Lib.hid hA7
    have HR7 := Lib.hid hR7
    clear hb7 hA7 hR7
    go_wp2
    go_quiet (fail)
    have hA8 : RaIn w (w7.drewN nq) B X u := ⟨HA7.out.base, HA7.out.lt, HA7.out.but.drewN nq, HA7.out.b0, HA7.out.b1, HA7.out.b2⟩
    have hR8 : RrAt (w7.drewN nq) base B (.slice A n c) r := ⟨HR7.out.blk, own_but HR7.out.row ((But.refl (fun _ => False) _).drewN nq) (fun _ _ h => h), HR7.out.ok⟩
    have hO8 : (w7.drewN nq).heap[B7]? = some (.cells #[.int .i64 old.node, .int .u32 (old.inc : Int), .int .i64 old.st] 32) := HH7.out
    have hB8 : Below w.heap.size w (w7.drewN nq) := below_drewN HBf.out nq
    obtain ⟨w8, hw8⟩ : ∃ w8, w7.drewN nq = w8 := ⟨_, rfl⟩
    rw [hw8] at hA8 hR8 hO8 hB8 ⊢
    have HA8 := Lib.hid hA8
    have HR8 := Lib.hid hR8
    have HO8 := Lib.hid hO8
    have HB8 := Lib.hid hB8
    clear hA8 hR8 hO8 hB8 hw8 c0 c1 c2 r0
    have HA_w8 := HA8
    have HR_w8 := HR8
    have HO_w8 := HO8
    have HB_w8 := HB8
    obtain rfl : false = is := HI0.out.symm
    obtain ⟨c0, c1, c2⟩ := blk3 HA_w8.out.b0
    have HPut := Lib.hid (rput_any u w8 HR_w8.out (Nat.le_trans HBs.out HB_w8.out.size) HRt.out)
    go_wp2_with fail
    refine HPut.out.mono ?_
    rintro e w9 ⟨rfl, ⟨vp, hRp, hvp⟩, hbp⟩
    have hXw := block_lt HA_w8.out.b2
    have hBX := HA_w8.out.lt
    have HA_w9 := Lib.hid (HA_w8.out.then_ hbp)
    have HRp := Lib.hid hRp
    have HVp := Lib.hid (show ∀ b, vp.ownBlock = some b → b ≠ X + 1 ∧ b ≠ X + 1 + 1 from fun b hb => by have := hvp b hb; omega)
    clear hRp hvp hbp hXw hBX c0 c1 c2
    have HXn := Lib.hid hXB
    have hX1 := block_lt HA_w9.out.b1
    have hlt0 := HA_w9.out.lt
    have hI0 : TwoI X zU u (fun _ => false) w9 := ⟨fun _ => HA_w9.out.b1, (fun h => by cases h), fun _ => HA_w9.out.b2, (fun h => by cases h)⟩
    have HI0 := Lib.hid hI0
    clear hI0
    go_wp2
    refine Go.Rel.wp_region_states (by kernel_rfl) (by kernel_rfl) (by kernel_rfl) (by kernel_rfl) (TwoI X zU u) (But (fun k => k = X + 1 ∨ k = X + 1 + 1)) (fun _ _ _ h k => h.trans k) (But.refl _ _).drew ⟨HI0.out.z3, HI0.out.a3, HI0.out.z4, HI0.out.b4⟩ (twoV (.agg #[.int .i64 0, .int .u32 0, .int .i64 0]) (.agg #[.int .i64 u.node, .int .u32 (u.inc : Int), .int .i64 u.st]) (.int .i64 1)) (twoV_stable X (.agg #[.int .i64 0, .int .u32 0, .int .i64 0]) (.agg #[.int .i64 u.node, .int .u32 (u.inc : Int), .int .i64 u.st]) (.int .i64 1)) ?hs1 ?he1
    case hs1 =>
      refine .cons ?_ (.cons ?_ (.cons ?_ (.cons ?_ (.cons ?_ .nil))))
      · intro f a' w' hI hf hanc hdesc hle hs' hd K hK
        unfold Go.Rel.stepOf
        go_simp
        exact hK _ _ (But.refl _ _) (hI.keep (by decide) (by decide)) rfl
      · intro f a' w' hI hf hanc hdesc hle hs' hd K hK
        obtain ⟨x0, x1, x2⟩ := blk3 ((hle.block X (block_lt HA_w9.out.b0) (by have := HXn.out; omega)).trans HA_w9.out.b0)
        have f3 : a'.tmps[3]? = some (.pointer (some ⟨X, 0, none⟩)) := hs'.2.2 3 (by kernel_rfl)
        unfold Go.Rel.stepOf
        go_simp
        exact hK _ _ (But.refl _ _) (hI.keep (by decide) (by decide)) rfl
      · intro f a' w' hI hf hanc hdesc hle hs' hd K hK
        unfold Go.Rel.stepOf
        go_simp
        exact hK _ _ (But.refl _ _) (hI.keep (by decide) (by decide)) rfl
      · intro f a' w' hI hf hanc hdesc hle hs' hd K hK
        obtain ⟨_, ta, rfl⟩ := hd 0 72 (by kernel_rfl)
        have f5 : a'.tmps[5]? = some (.pointer (some ⟨X + 1, 0, none⟩)) := hs'.2.2 5 (by kernel_rfl)
        have hz := hI.z3 hf
        obtain ⟨x0, x1, x2⟩ := blk3 hz
        have g0 := blk_froz hz 0
        have g1 := blk_froz hz 1
        have g2 := blk_froz hz 2
        unfold Go.Rel.stepOf
        go_simp
        exact hK undef _ ((set3_but w' (X + 1) _ _ _).mono (fun k e => .inl e)) (hI.st3 hf) trivial
      · intro f a' w' hI hf hanc hdesc hle hs' hd K hK
        obtain ⟨_, ta, rfl⟩ := hd 1 73 (by kernel_rfl)
        have f6 : a'.tmps[6]? = some (.pointer (some ⟨X + 1 + 1, 0, none⟩)) := hs'.2.2 6 (by kernel_rfl)
        have hz := hI.z4 hf
        obtain ⟨x0, x1, x2⟩ := blk3 hz
        have g0 := blk_froz hz 0
        have g1 := blk_froz hz 1
        have g2 := blk_froz hz 2
        unfold Go.Rel.stepOf
        go_simp
        exact hK undef _ ((set3_but w' (X + 1 + 1) _ _ _).mono (fun k e => .inr e)) (hI.st4 hf) trivial
    case he1 =>
      intro f a' w9f hall hI hle hs' hR'
      have HB1f := Lib.hid (hI.a3 (hall 3 (by decide)))
      have HB2f := Lib.hid (hI.b4 (hall 4 (by decide)))
      have HLf := Lib.hid hle
      obtain ⟨va, s72, _⟩ := hR' 0 72 (by kernel_rfl)
      obtain ⟨vb, s73, _⟩ := hR' 1 73 (by kernel_rfl)
      obtain ⟨_, s4, rfl⟩ := hR' 2 4 (by kernel_rfl)
      have e := hs'.shape
      simp only [List.toList_toArray, List.foldl, Go.Rel.reset, Array.getD_eq_getD_getElem?, s72, s73, s4, Option.getD_some] at e
      simp at e
      clear hR' hs' hI hall hle s72 s73 s4
      subst e
      go_wp2
      obtain ⟨g0, g1, g2⟩ := blk3 HB1f.out
      obtain ⟨g3, g4, g5⟩ := blk3 HB2f.out
      have hsz := HX.out
      have hlt := HA_w9.out.lt
      obtain ⟨vq, hRq, hvq⟩ := (show ∃ v, RrAt _ base B v _ ∧ ∀ b, v.ownBlock = some b → b ≠ X + 1 ∧ b ≠ X + 1 + 1 from ⟨vp, HRp.out, HVp.out⟩)
      refine bodyPost_ret (v := .tuple #[.int .i64 1, .agg #[.int .i64 0, .int .u32 0, .int .i64 0], .agg #[.int .i64 u.node, .int .u32 (u.inc : Int), .int .i64 u.st]]) (by simp [results, Try.results14, go_sem, g0, g1, g2, g3, g4, g5, zU]) rfl ⟨rfl, ⟨vq, hRq.but HLf.out (fun e => by omega) (fun b hb e => by have := hvq b hb; omega)⟩, ?_⟩
      exact HA_w9.out.but.then_ HLf.out (fun i e hi => by omega)
set_option maxHeartbeats 16000000 in
set_option maxRecDepth 100000 in
theorem rapply_low {base B : Nat} {v0 : Value} {r : Ro} (u old : Up) (w : World) (hR : RrAt w base B v0 r) (hbase : base ≤ w.heap.size) (hr : u.right = true) (ho : u.node ≠ r.own) (hT : r.T u.node = some old) (ha : u.above old = false) :
    Calls Try.prog 14 #[.pointer (some ⟨B, 0, none⟩), .agg #[.int .i64 u.node, .int .u32 (u.inc : Int), .int .i64 u.st]] w (RApPost w base B 0 zU zU r) := by
  have HRt := Lib.hid hr
  obtain ⟨me, hme⟩ : ∃ m, r.own = m := ⟨_, rfl⟩
  obtain ⟨is, his0⟩ : ∃ m, m = true := ⟨_, rfl⟩
  have his : (r.T u.node).isSome = is := by rw [hT, his0]; rfl
  have HMe := Lib.hid hme
  have HIs := Lib.hid his
  have HPr := Lib.hid (fun w => rright_any u w true hr)
  have zo : (u.node == me) = false := by rw [beq_eq_false_iff_ne, ← hme]; exact ho
  have HAb := Lib.hid (fun w => rabove_any u old w false ha)
  have HOld : Hid (atU r.T u.node = old) := Lib.hid (by unfold atU; rw [hT]; rfl)
  have HI0 := Lib.hid his0
  clear hr hme his ho hT his0 ha
  have hlB := hR.lt
  have HR := Lib.hid hR
  have HBs := Lib.hid hbase
  have hA := RaIn.mk_ w B u hlB
  obtain ⟨X, hX⟩ : ∃ X, w.heap.size = X := ⟨_, rfl⟩
  obtain ⟨W, hW⟩ : ∃ W, ((w.alloc (.cells #[.int .i64 u.node, .int .u32 (u.inc : Int), .int .i64 u.st] 32)).alloc (.cells #[.int .i64 0, .int .u32 0, .int .i64 0] 32)).alloc (.cells #[.int .i64 0, .int .u32 0, .int .i64 0] 32) = W := ⟨_, rfl⟩
  have hb0 : Below w.heap.size w W := by rw [← hW]; exact (below2 w _ _).alloc (by simp; omega) _
  rw [hX, hW] at hA
  obtain ⟨c0, c1, c2⟩ := blk3 hA.b0
  have HA := Lib.hid hA
  have HB0 := Lib.hid hb0
  have HX := Lib.hid hX
  have HW := Lib.hid hW
  clear hR hA hX hW hlB hb0 hbase
  go_enter Try.func14, Try.ntmps14
  go_wp2_with fail
  rw [HW.out, HX.out]
  refine (HPr.out _).mono ?_
  rintro e w1 ⟨rfl, hb1⟩
  have hA1 := HA.out.below hb1
  have hR1 := (HR.out.below HB0.out).below hb1
  have HB1 := Lib.hid (HB0.out.trans (hb1.mono HB0.out.size))
  clear c0 c1 c2 hb1
  obtain ⟨A, n, c, rfl, _, _, hfind⟩ := hR1.find
  obtain ⟨G, hG⟩ : ∃ G, w1.heap.size = G := ⟨_, rfl⟩
  have HFd : Hid (∀ w', Below w1.heap.size w1 w' → Calls Try.prog 16 #[.slice A n c, .int .i64 u.node] w' fun e w2 => e = .returned (.tuple #[.agg #[.int .i64 old.node, .int .u32 (old.inc : Int), .int .i64 old.st], .bool is]) ∧ Below w'.heap.size w' w2) := Lib.hid (fun w' hb => by have := hfind w' hb u.node; rw [HOld.out, HIs.out] at this; exact this)
  have HC : Hid (∀ w', LeT G w1 w' → w'.cell? ⟨B, 1, none⟩ = some (.slice A n c) ∧ w'.cell? ⟨X, 0, none⟩ = some (.int .i64 u.node)) := Lib.hid (fun w' hle => by
    have hl := hR1.lt
    have hbl := (hle.but.block B hl (by omega)).trans hR1.blk
    have hbx := (hle.but.block X (block_lt hA1.b0) (by have := block_lt hA1.b0; omega)).trans hA1.b0
    refine ⟨?_, (blk3 hbx).1⟩
    rw [cell_of_row _ _ _ _ _ _ hbl]; rfl)
  have HG := Lib.hid hG
  have HA1 := Lib.hid hA1
  have HR1 := Lib.hid hR1
  clear hA1 hR1 hG hfind
  go_wp2
  refine Go.Rel.wp_region_acts (by kernel_rfl) (by kernel_rfl) (by kernel_rfl) (by kernel_rfl) (fun f a' w' => f 11 = true → Holds G old 7 a' w') (LeT G) (fun _ _ _ h k => h.trans k) ⟨(But.refl _ _).drew, fun B u0 u1 u2 _ h => ⟨u0, u1, u2, h⟩⟩ (fun h => by cases h) (rapR G B X u A n c old is) (rapR_stable G B X u A n c old is) ?hs ?he
  case hs =>
    refine (.cons ?_ (.cons ?_ (.cons ?_ (.cons ?_ (.cons ?_ (.cons ?_ (.cons ?_ (.cons ?_ (.cons ?_ (.cons ?_ (.cons ?_ (.cons ?_ (.cons ?_ .nil)))))))))))))
    · intro f a' w' hI hf hanc hdesc hle hs' hd K hK
      have f0 : a'.tmps[0]? = some (.pointer (some ⟨B, 0, none⟩)) := hs'.2.2 0 (by kernel_rfl)
      unfold Go.Rel.stepOf
      go_simp
      exact hK _ _ (LeT.refl _ _) (fun h => Holds.keep (hI (by simpa [Go.Rel.upd] using h)) (Below.refl _ _) (by decide) _) rfl
    · intro f a' w' hI hf hanc hdesc hle hs' hd K hK
      obtain ⟨_, t0, rfl⟩ := hd 0 18 (by kernel_rfl)
      unfold Go.Rel.stepOf
      go_simp
      exact hK _ _ (LeT.refl _ _) (fun h => Holds.keep (hI (by simpa [Go.Rel.upd] using h)) (Below.refl _ _) (by decide) _) rfl
    · intro f a' w' hI hf hanc hdesc hle hs' hd K hK
      obtain ⟨_, t1, rfl⟩ := hd 1 19 (by kernel_rfl)
      unfold Go.Rel.stepOf
      go_simp
      exact hK _ _ (LeT.refl _ _) (fun h => Holds.keep (hI (by simpa [Go.Rel.upd] using h)) (Below.refl _ _) (by decide) _) rfl
    · intro f a' w' hI hf hanc hdesc hle hs' hd K hK
      obtain ⟨_, t2, rfl⟩ := hd 2 20 (by kernel_rfl)
      obtain ⟨r1, c0⟩ := HC.out w' hle
      unfold Go.Rel.stepOf
      go_simp
      exact hK _ _ (LeT.refl _ _) (fun h => Holds.keep (hI (by simpa [Go.Rel.upd] using h)) (Below.refl _ _) (by decide) _) rfl
    · intro f a' w' hI hf hanc hdesc hle hs' hd K hK
      have f3 : a'.tmps[3]? = some (.pointer (some ⟨X, 0, none⟩)) := hs'.2.2 3 (by kernel_rfl)
      unfold Go.Rel.stepOf
      go_simp
      exact hK _ _ (LeT.refl _ _) (fun h => Holds.keep (hI (by simpa [Go.Rel.upd] using h)) (Below.refl _ _) (by decide) _) rfl
    · intro f a' w' hI hf hanc hdesc hle hs' hd K hK
      obtain ⟨_, t4, rfl⟩ := hd 4 22 (by kernel_rfl)
      obtain ⟨r1, c0⟩ := HC.out w' hle
      unfold Go.Rel.stepOf
      go_simp
      exact hK _ _ (LeT.refl _ _) (fun h => Holds.keep (hI (by simpa [Go.Rel.upd] using h)) (Below.refl _ _) (by decide) _) rfl
    · intro f a' w' hI hf hanc hdesc hle hs' hd K hK
      obtain ⟨_, t3, rfl⟩ := hd 3 21 (by kernel_rfl)
      obtain ⟨_, t5, rfl⟩ := hd 5 23 (by kernel_rfl)
      unfold Go.Rel.stepOf
      go_simp
      refine (HFd.out w' (hle.but.below (Nat.le_refl _) (fun k hk hG => by have := HG.out; omega))).mono ?_
      rintro e w6 ⟨rfl, hb6⟩
      exact hK _ _ (LeT.of_below hb6) (fun h => Holds.keep (hI (by simpa [Go.Rel.upd] using h)) hb6 (by decide) _) rfl
    · intro f a' w' hI hf hanc hdesc hle hs' hd K hK
      obtain ⟨_, t6, rfl⟩ := hd 6 24 (by kernel_rfl)
      unfold Go.Rel.stepOf
      go_simp
      exact hK _ _ (LeT.refl _ _) (fun h => Holds.keep (hI (by simpa [Go.Rel.upd] using h)) (Below.refl _ _) (by decide) _) rfl
    · intro f a' w' hI hf hanc hdesc hle hs' hd K hK
      obtain ⟨_, t7, rfl⟩ := hd 7 17 (by kernel_rfl)
      unfold Go.Rel.stepOf
      go_simp
      exact hK _ _ (LeT.refl _ _) (fun h => Holds.keep (hI (by simpa [Go.Rel.upd] using h)) (Below.refl _ _) (by decide) _) rfl
    · intro f a' w' hI hf hanc hdesc hle hs' hd K hK
      obtain ⟨_, t7, rfl⟩ := hd 7 17 (by kernel_rfl)
      unfold Go.Rel.stepOf
      go_simp
      exact hK _ _ (LeT.refl _ _) (fun h => Holds.keep (hI (by simpa [Go.Rel.upd] using h)) (Below.refl _ _) (by decide) _) rfl
    · intro f a' w' hI hf hanc hdesc hle hs' hd K hK
      have zS := hdesc 12 11 (by kernel_rfl)
      have hz := hle.but.size
      unfold Go.Rel.stepOf
      go_simp
      exact hK _ _ (LeT.of_below (below1 _ _)) (fun h => by simp [Go.Rel.upd, zS] at h) ⟨_, rfl, by have := HG.out; omega, _, _, _, heap_alloc_new _ _⟩
    · intro f a' w' hI hf hanc hdesc hle hs' hd K hK
      obtain ⟨_, ta, B, rfl, hB, u0, u1, u2, hh⟩ := hd 10 7 (by kernel_rfl)
      obtain ⟨_, tb, rfl⟩ := hd 8 25 (by kernel_rfl)
      obtain ⟨b0, b1, b2⟩ := blk3 hh
      have g0 := blk_froz hh 0
      have g1 := blk_froz hh 1
      have g2 := blk_froz hh 2
      unfold Go.Rel.stepOf
      go_simp
      exact hK undef _ (LeT.set w' hB hh _ _ _) (fun _ => ⟨B, ta, hB, set3_blk hh _ _ _⟩) trivial
    · intro f a' w' hI hf hanc hdesc hle hs' hd K hK
      obtain ⟨_, t9, rfl⟩ := hd 9 26 (by kernel_rfl)
      unfold Go.Rel.stepOf
      go_simp
      exact hK _ _ (LeT.refl _ _) (fun h => Holds.keep (hI (by simpa [Go.Rel.upd] using h)) (Below.refl _ _) (by decide) _) rfl
  case he =>
    intro f a' w7 hall hI hle hs' hR'
    obtain ⟨B7, s7, hB7, hh7⟩ := hI (hall 11 (by decide))
    obtain ⟨v18, s18, _⟩ := hR' 0 18 (by kernel_rfl)
    obtain ⟨v19, s19, _⟩ := hR' 1 19 (by kernel_rfl)
    obtain ⟨v20, s20, _⟩ := hR' 2 20 (by kernel_rfl)
    obtain ⟨v21, s21, _⟩ := hR' 3 21 (by kernel_rfl)
    obtain ⟨v22, s22, _⟩ := hR' 4 22 (by kernel_rfl)
    obtain ⟨v23, s23, _⟩ := hR' 5 23 (by kernel_rfl)
    obtain ⟨v24, s24, _⟩ := hR' 6 24 (by kernel_rfl)
    obtain ⟨v17, s17, _⟩ := hR' 7 17 (by kernel_rfl)
    obtain ⟨v25, s25, _⟩ := hR' 8 25 (by kernel_rfl)
    obtain ⟨v26, s26, _⟩ := hR' 9 26 (by kernel_rfl)
    obtain ⟨_, s8, rfl⟩ := hR' 12 8 (by kernel_rfl)
    have e := hs'.shape
    simp only [List.toList_toArray, List.foldl, Go.Rel.reset, Array.getD_eq_getD_getElem?, s7, s18, s19, s20, s21, s22, s23, s24, s17, s25, s26, s8, Option.getD_some] at e
    simp at e
    have HL7 := Lib.hid hle
    have HH7 := Lib.hid hh7
    have HB7 := Lib.hid hB7
    clear hR' hs' hI hall hle hh7 hB7 s7 s18 s19 s20 s21 s22 s23 s24 s17 s25 s26 s8
    subst e
    have hb7 : Below w1.heap.size w1 w7 := HL7.out.but.below (Nat.le_refl _) (fun k hk hG => by have := HG.out; omega)
    have hA7 := HA1.out.below hb7
    have hR7 := HR1.out.below hb7
    have hXB : X + 1 + 1 < B7 := by have := block_lt HA1.out.b2; have := HB7.out; have := HG.out; omega
    obtain ⟨c0, c1, c2⟩ := blk3 hA7.b0
    have r0 := hR7.c0
    rw [HMe.out] at r0
    have HBf := Lib.hid (HB1.out.trans (hb7.mono HB1.out.size))
    have HA7 := Lib.hid hA7
    have HR7 := Lib.hid hR7
    clear hb7 hA7 hR7
    go_wp2
    go_quiet (fail)
    have hA8 : RaIn w (w7.drewN nq) B X u := ⟨HA7.out.base, HA7.out.lt, HA7.out.but.drewN nq, HA7.out.b0, HA7.out.b1, HA7.out.b2⟩
    have hR8 : RrAt (w7.drewN nq) base B (.slice A n c) r := ⟨HR7.out.blk, own_but HR7.out.row ((But.refl (fun _ => False) _).drewN nq) (fun _ _ h => h), HR7.out.ok⟩
    have hO8 : (w7.drewN nq).heap[B7]? = some (.cells #[.int .i64 old.node, .int .u32 (old.inc : Int), .int .i64 old.st] 32) := HH7.out
    have hB8 : Below w.heap.size w (w7.drewN nq) := below_drewN HBf.out nq
    obtain ⟨w8, hw8⟩ : ∃ w8, w7.drewN nq = w8 := ⟨_, rfl⟩
    rw [hw8] at hA8 hR8 hO8 hB8 ⊢
    have HA8 := Lib.hid hA8
    have HR8 := Lib.hid hR8
    have HO8 := Lib.hid hO8
    have HB8 := Lib.hid hB8
    clear hA8 hR8 hO8 hB8 hw8 c0 c1 c2 r0
    have HA_w8 := HA8
    have HR_w8 := HR8
    have HO_w8 := HO8
    have HB_w8 := HB8
    obtain rfl : true = is := HI0.out.symm
    obtain ⟨c0, c1, c2⟩ := blk3 HA_w8.out.b0
    obtain ⟨o0, o1, o2⟩ := blk3 HO_w8.out
    go_wp2_with fail
    refine (HAb.out _).mono ?_
    rintro e w9 ⟨rfl, hb⟩
    have hA := HA_w8.out.below hb
    have hR := HR_w8.out.below hb
    have hO := (hb.block _ (block_lt HO_w8.out)).trans HO_w8.out
    have HB_w9 := Lib.hid (HB_w8.out.trans (hb.mono HB_w8.out.size))
    clear hb c0 c1 c2 o0 o1 o2
    have HA_w9 := Lib.hid hA
    have HR_w9 := Lib.hid hR
    have HO_w9 := Lib.hid hO
    clear hA hR hO
    obtain ⟨e0, e1, e2⟩ := blk3 HA_w9.out.b1
    obtain ⟨e3, e4, e5⟩ := blk3 HA_w9.out.b2
    have f0 := blk_froz HA_w9.out.b1 0
    have f1 := blk_froz HA_w9.out.b1 1
    have f2 := blk_froz HA_w9.out.b1 2
    have f3 := blk_froz HA_w9.out.b2 0
    have f4 := blk_froz HA_w9.out.b2 1
    have f5 := blk_froz HA_w9.out.b2 2
    have hA1q := set3_blk HA_w9.out.b1 (.int .i64 0) (.int .u32 0) (.int .i64 0)
    have hB1q := ((set3_but (((w9.setCell ⟨(X + 1), 0, none⟩ (.int .i64 0)).setCell ⟨(X + 1), 1, none⟩ (.int .u32 0)).setCell ⟨(X + 1), 2, none⟩ (.int .i64 0)) (X + 1 + 1) (.int .i64 0) (.int .u32 0) (.int .i64 0)).block (X + 1) (block_lt hA1q) (by omega)).trans hA1q
    have hA2q := set3_blk (((set3_but w9 (X + 1) (.int .i64 0) (.int .u32 0) (.int .i64 0)).block (X + 1 + 1) (block_lt HA_w9.out.b2) (by omega)).trans HA_w9.out.b2) (.int .i64 0) (.int .u32 0) (.int .i64 0)
    have HQ := Lib.hid (And.intro hB1q hA2q)
    have hC1q := set3_blk HA_w9.out.b2 (.int .i64 0) (.int .u32 0) (.int .i64 0)
    have hD1q := ((set3_but (((w9.setCell ⟨(X + 1 + 1), 0, none⟩ (.int .i64 0)).setCell ⟨(X + 1 + 1), 1, none⟩ (.int .u32 0)).setCell ⟨(X + 1 + 1), 2, none⟩ (.int .i64 0)) (X + 1) (.int .i64 0) (.int .u32 0) (.int .i64 0)).block (X + 1 + 1) (block_lt hC1q) (by omega)).trans hC1q
    have hC2q := set3_blk (((set3_but w9 (X + 1 + 1) (.int .i64 0) (.int .u32 0) (.int .i64 0)).block (X + 1) (block_lt HA_w9.out.b1) (by omega)).trans HA_w9.out.b1) (.int .i64 0) (.int .u32 0) (.int .i64 0)
    have HP := Lib.hid (And.intro hC2q hD1q)
    clear hA1q hB1q hA2q hC1q hD1q hC2q
    go_wp2
    have hsz := HX.out
    have hlt := HA_w9.out.lt
    obtain ⟨vq, hRq, hvq⟩ := (show ∃ v, RrAt _ base B v r ∧ ∀ b, v.ownBlock = some b → b ≠ X + 1 ∧ b ≠ X + 1 + 1 from ⟨_, HR_w9.out, fun b hb => row_old (wz := w) (r2 := r) HR.out hb HX.out⟩)
    first
      | (obtain ⟨g0, g1, g2⟩ := blk3 HQ.out.1
         obtain ⟨g3, g4, g5⟩ := blk3 HQ.out.2
         refine bodyPost_ret (v := .tuple #[.int .i64 0, .agg #[.int .i64 0, .int .u32 0, .int .i64 0], .agg #[.int .i64 0, .int .u32 0, .int .i64 0]]) (by simp [results, Try.results14, go_sem, g0, g1, g2, g3, g4, g5]) rfl ⟨rfl, ⟨vq, ?_⟩, ?_⟩
         · first
             | exact (hRq.set3 (by omega) (fun b hb => (hvq b hb).1) _ _ _).set3 (by omega) (fun b hb => (hvq b hb).2) _ _ _
             | exact RrAt.drew_ ((hRq.set3 (by omega) (fun b hb => (hvq b hb).1) _ _ _).set3 (by omega) (fun b hb => (hvq b hb).2) _ _ _)
         · first
             | exact ((HA_w9.out.but.then_ (set3_but _ (X + 1) _ _ _) (fun i e hi => by omega)).then_ (set3_but _ (X + 1 + 1) _ _ _) (fun i e hi => by omega))
             | exact ((HA_w9.out.but.then_ (set3_but _ (X + 1) _ _ _) (fun i e hi => by omega)).then_ (set3_but _ (X + 1 + 1) _ _ _) (fun i e hi => by omega)).drew)
      | (obtain ⟨g0, g1, g2⟩ := blk3 HP.out.1
         obtain ⟨g3, g4, g5⟩ := blk3 HP.out.2
         refine bodyPost_ret (v := .tuple #[.int .i64 0, .agg #[.int .i64 0, .int .u32 0, .int .i64 0], .agg #[.int .i64 0, .int .u32 0, .int .i64 0]]) (by simp [results, Try.results14, go_sem, g0, g1, g2, g3, g4, g5]) rfl ⟨rfl, ⟨vq, ?_⟩, ?_⟩
         · first
             | exact (hRq.set3 (by omega) (fun b hb => (hvq b hb).2) _ _ _).set3 (by omega) (fun b hb => (hvq b hb).1) _ _ _
             | exact RrAt.drew_ ((hRq.set3 (by omega) (fun b hb => (hvq b hb).2) _ _ _).set3 (by omega) (fun b hb => (hvq b hb).1) _ _ _)
         · first
             | exact ((HA_w9.out.but.then_ (set3_but _ (X + 1 + 1) _ _ _) (fun i e hi => by omega)).then_ (set3_but _ (X + 1) _ _ _) (fun i e hi => by omega))
             | exact ((HA_w9.out.but.then_ (set3_but _ (X + 1 + 1) _ _ _) (fun i e hi => by omega)).then_ (set3_but _ (X + 1) _ _ _) (fun i e hi => by omega)).drew)
set_option maxHeartbeats 16000000 in
set_option maxRecDepth 100000 in
theorem rapply_raised {base B : Nat} {v0 : Value} {r : Ro} (u old : Up) (w : World) (hR : RrAt w base B v0 r) (hbase : base ≤ w.heap.size) (hr : u.right = true) (ho : u.node ≠ r.own) (hT : r.T u.node = some old) (ha : u.above old = true) :
    Calls Try.prog 14 #[.pointer (some ⟨B, 0, none⟩), .agg #[.int .i64 u.node, .int .u32 (u.inc : Int), .int .i64 u.st]] w (RApPost w base B 2 old u ⟨r.own, put r.T u⟩) := by
  have HRt := Lib.hid hr
  obtain ⟨me, hme⟩ : ∃ m, r.own = m := ⟨_, rfl⟩
  obtain ⟨is, his0⟩ : ∃ m, m = true := ⟨_, rfl⟩
  have his : (r.T u.node).isSome = is := by rw [hT, his0]; rfl
  have HMe := Lib.hid hme
  have HIs := Lib.hid his
  have HPr := Lib.hid (fun w => rright_any u w true hr)
  have zo : (u.node == me) = false := by rw [beq_eq_false_iff_ne, ← hme]; exact ho
  have HAb := Lib.hid (fun w => rabove_any u old w true ha)
  have HOld : Hid (atU r.T u.node = old) := Lib.hid (by unfold atU; rw [hT]; rfl)
  have HI0 := Lib.hid his0
  clear hr hme his ho hT his0 ha
  have hlB := hR.lt
  have HR := Lib.hid hR
  have HBs := Lib.hid hbase
  have hA := RaIn.mk_ w B u hlB
  obtain ⟨X, hX⟩ : ∃ X, w.heap.size = X := ⟨_, rfl⟩
  obtain ⟨W, hW⟩ : ∃ W, ((w.alloc (.cells #[.int .i64 u.node, .int .u32 (u.inc : Int), .int .i64 u.st] 32)).alloc (.cells #[.int .i64 0, .int .u32 0, .int .i64 0] 32)).alloc (.cells #[.int .i64 0, .int .u32 0, .int .i64 0] 32) = W := ⟨_, rfl⟩
  have hb0 : Below w.heap.size w W := by rw [← hW]; exact (below2 w _ _).alloc (by simp; omega) _
  rw [hX, hW] at hA
  obtain ⟨c0, c1, c2⟩ := blk3 hA.b0
  have HA := Lib.hid hA
  have HB0 := Lib.hid hb0
  have HX := Lib.hid hX
  have HW := Lib.hid hW
  clear hR hA hX hW hlB hb0 hbase
  go_enter Try.func14, Try.ntmps14
  go_wp2_with fail
  rw [HW.out, HX.out]
  refine (HPr.out _).mono ?_
  rintro e w1 ⟨rfl, hb1⟩
  have hA1 := HA.out.below hb1
  have hR1 := (HR.out.below HB0.out).below hb1
  have HB1 := Lib.hid (HB0.out.trans (hb1.mono HB0.out.size))
  clear c0 c1 c2 hb1
  obtain ⟨A, n, c, rfl, _, _, hfind⟩ := hR1.find
  obtain ⟨G, hG⟩ : ∃ G, w1.heap.size = G := ⟨_, rfl⟩
  have HFd : Hid (∀ w', Below w1.heap.size w1 w' → Calls Try.prog 16 #[.slice A n c, .int .i64 u.node] w' fun e w2 => e = .returned (.tuple #[.agg #[.int .i64 old.node, .int .u32 (old.inc : Int), .int .i64 old.st], .bool is]) ∧ Below w'.heap.size w' w2) := Lib.hid (fun w' hb => by have := hfind w' hb u.node; rw [HOld.out, HIs.out] at this; exact this)
  have HC : Hid (∀ w', LeT G w1 w' → w'.cell? ⟨B, 1, none⟩ = some (.slice A n c) ∧ w'.cell? ⟨X, 0, none⟩ = some (.int .i64 u.node)) := Lib.hid (fun w' hle => by
    have hl := hR1.lt
    have hbl := (hle.but.block B hl (by omega)).trans hR1.blk
    have hbx := (hle.but.block X (block_lt hA1.b0) (by have := block_lt hA1.b0; omega)).trans hA1.b0
    refine ⟨?_, (blk3 hbx).1⟩
    rw [cell_of_row _ _ _ _ _ _ hbl]; rfl)
  have HG := Lib.hid hG
  have HA1 := Lib.hid hA1
  have HR1 := Lib.hid hR1
  clear hA1 hR1 hG hfind
  go_wp2
  refine Go.Rel.wp_region_acts (by kernel_rfl) (by kernel_rfl) (by kernel_rfl) (by kernel_rfl) (fun f a' w' => f 11 = true → Holds G old 7 a' w') (LeT G) (fun _ _ _ h k => h.trans k) ⟨(But.refl _ _).drew, fun B u0 u1 u2 _ h => ⟨u0, u1, u2, h⟩⟩ (fun h => by cases h) (rapR G B X u A n c old is) (rapR_stable G B X u A n c old is) ?hs ?he
  case hs =>
    refine (.cons ?_ (.cons ?_ (.cons ?_ (.cons ?_ (.cons ?_ (.cons ?_ (.cons ?_ (.cons ?_ (.cons ?_ (.cons ?_ (.cons ?_ (.cons ?_ (.cons ?_ .nil)))))))))))))
    · intro f a' w' hI hf hanc hdesc hle hs' hd K hK
      have f0 : a'.tmps[0]? = some (.pointer (some ⟨B, 0, none⟩)) := hs'.2.2 0 (by kernel_rfl)
      unfold Go.Rel.stepOf
      go_simp
      exact hK _ _ (LeT.refl _ _) (fun h => Holds.keep (hI (by simpa [Go.Rel.upd] using h)) (Below.refl _ _) (by decide) _) rfl
    · intro f a' w' hI hf hanc hdesc hle hs' hd K hK
      obtain ⟨_, t0, rfl⟩ := hd 0 18 (by kernel_rfl)
      unfold Go.Rel.stepOf
      go_simp
      exact hK _ _ (LeT.refl _ _) (fun h => Holds.keep (hI (by simpa [Go.Rel.upd] using h)) (Below.refl _ _) (by decide) _) rfl
    · intro f a' w' hI hf hanc hdesc hle hs' hd K hK
      obtain ⟨_, t1, rfl⟩ := hd 1 19 (by kernel_rfl)
      unfold Go.Rel.stepOf
      go_simp
      exact hK _ _ (LeT.refl _ _) (fun h => Holds.keep (hI (by simpa [Go.Rel.upd] using h)) (Below.refl _ _) (by decide) _) rfl
    · intro f a' w' hI hf hanc hdesc hle hs' hd K hK
      obtain ⟨_, t2, rfl⟩ := hd 2 20 (by kernel_rfl)
      obtain ⟨r1, c0⟩ := HC.out w' hle
      unfold Go.Rel.stepOf
      go_simp
      exact hK _ _ (LeT.refl _ _) (fun h => Holds.keep (hI (by simpa [Go.Rel.upd] using h)) (Below.refl _ _) (by decide) _) rfl
    · intro f a' w' hI hf hanc hdesc hle hs' hd K hK
      have f3 : a'.tmps[3]? = some (.pointer (some ⟨X, 0, none⟩)) := hs'.2.2 3 (by kernel_rfl)
      unfold Go.Rel.stepOf
      go_simp
      exact hK _ _ (LeT.refl _ _) (fun h => Holds.keep (hI (by simpa [Go.Rel.upd] using h)) (Below.refl _ _) (by decide) _) rfl
    · intro f a' w' hI hf hanc hdesc hle hs' hd K hK
      obtain ⟨_, t4, rfl⟩ := hd 4 22 (by kernel_rfl)
      obtain ⟨r1, c0⟩ := HC.out w' hle
      unfold Go.Rel.stepOf
      go_simp
      exact hK _ _ (LeT.refl _ _) (fun h => Holds.keep (hI (by simpa [Go.Rel.upd] using h)) (Below.refl _ _) (by decide) _) rfl
    · intro f a' w' hI hf hanc hdesc hle hs' hd K hK
      obtain ⟨_, t3, rfl⟩ := hd 3 21 (by kernel_rfl)
      obtain ⟨_, t5, rfl⟩ := hd 5 23 (by kernel_rfl)
      unfold Go.Rel.stepOf
      go_simp
      refine (HFd.out w' (hle.but.below (Nat.le_refl _) (fun k hk hG => by have := HG.out; omega))).mono ?_
      rintro e w6 ⟨rfl, hb6⟩
      exact hK _ _ (LeT.of_below hb6) (fun h => Holds.keep (hI (by simpa [Go.Rel.upd] using h)) hb6 (by decide) _) rfl
    · intro f a' w' hI hf hanc hdesc hle hs' hd K hK
      obtain ⟨_, t6, rfl⟩ := hd 6 24 (by kernel_rfl)
      unfold Go.Rel.stepOf
      go_simp
      exact hK _ _ (LeT.refl _ _) (fun h => Holds.keep (hI (by simpa [Go.Rel.upd] using h)) (Below.refl _ _) (by decide) _) rfl
    · intro f a' w' hI hf hanc hdesc hle hs' hd K hK
      obtain ⟨_, t7, rfl⟩ := hd 7 17 (by kernel_rfl)
      unfold Go.Rel.stepOf
      go_simp
      exact hK _ _ (LeT.refl _ _) (fun h => Holds.keep (hI (by simpa [Go.Rel.upd] using h)) (Below.refl _ _) (by decide) _) rfl
    · intro f a' w' hI hf hanc hdesc hle hs' hd K hK
      obtain ⟨_, t7, rfl⟩ := hd 7 17 (by kernel_rfl)
      unfold Go.Rel.stepOf
      go_simp
      exact hK _ _ (LeT.refl _ _) (fun h => Holds.keep (hI (by simpa [Go.Rel.upd] using h)) (Below.refl _ _) (by decide) _) rfl
    · intro f a' w' hI hf hanc hdesc hle hs' hd K hK
      have zS := hdesc 12 11 (by kernel_rfl)
      have hz := hle.but.size
      unfold Go.Rel.stepOf
      go_simp
      exact hK _ _ (LeT.of_below (below1 _ _)) (fun h => by simp [Go.Rel.upd, zS] at h) ⟨_, rfl, by have := HG.out; omega, _, _, _, heap_alloc_new _ _⟩
    · intro f a' w' hI hf hanc hdesc hle hs' hd K hK
      obtain ⟨_, ta, B, rfl, hB, u0, u1, u2, hh⟩ := hd 10 7 (by kernel_rfl)
      obtain ⟨_, tb, rfl⟩ := hd 8 25 (by kernel_rfl)
      obtain ⟨b0, b1, b2⟩ := blk3 hh
      have g0 := blk_froz hh 0
      have g1 := blk_froz hh 1
      have g2 := blk_froz hh 2
      unfold Go.Rel.stepOf
      go_simp
      exact hK undef _ (LeT.set w' hB hh _ _ _) (fun _ => ⟨B, ta, hB, set3_blk hh _ _ _⟩) trivial
    · intro f a' w' hI hf hanc hdesc hle hs' hd K hK
      obtain ⟨_, t9, rfl⟩ := hd 9 26 (by kernel_rfl)
      unfold Go.Rel.stepOf
      go_simp
      exact hK _ _ (LeT.refl _ _) (fun h => Holds.keep (hI (by simpa [Go.Rel.upd] using h)) (Below.refl _ _) (by decide) _) rfl
  case he =>
    intro f a' w7 hall hI hle hs' hR'
    obtain ⟨B7, s7, hB7, hh7⟩ := hI (hall 11 (by decide))
    obtain ⟨v18, s18, _⟩ := hR' 0 18 (by kernel_rfl)
    obtain ⟨v19, s19, _⟩ := hR' 1 19 (by kernel_rfl)
    obtain ⟨v20, s20, _⟩ := hR' 2 20 (by kernel_rfl)
    obtain ⟨v21, s21, _⟩ := hR' 3 21 (by kernel_rfl)
    obtain ⟨v22, s22, _⟩ := hR' 4 22 (by kernel_rfl)
    obtain ⟨v23, s23, _⟩ := hR' 5 23 (by kernel_rfl)
    obtain ⟨v24, s24, _⟩ := hR' 6 24 (by kernel_rfl)
    obtain ⟨v17, s17, _⟩ := hR' 7 17 (by kernel_rfl)
    obtain ⟨v25, s25, _⟩ := hR' 8 25 (by kernel_rfl)
    obtain ⟨v26, s26, _⟩ := hR' 9 26 (by kernel_rfl)
    obtain ⟨_, s8, rfl⟩ := hR' 12 8 (by kernel_rfl)
    have e := hs'.shape
    simp only [List.toList_toArray, List.foldl, Go.Rel.reset, Array.getD_eq_getD_getElem?, s7, s18, s19, s20, s21, s22, s23, s24, s17, s25, s26, s8, Option.getD_some] at e
    simp at e
    have HL7 := Lib.hid hle
    have HH7 := Lib.hid hh7
    have HB7 := Lib.hid hB7
    clear hR' hs' hI hall hle hh7 hB7 s7 s18 s19 s20 s21 s22 s23 s24 s17 s25 s26 s8
    subst e
    have hb7 : Below w1.heap.size w1 w7 := HL7.out.but.below (Nat.le_refl _) (fun k hk hG => by have := HG.out; omega)
    have hA7 := HA1.out.below hb7
    have hR7 := HR1.out.below hb7
    have hXB : X + 1 + 1 < B7 := by have := block_lt HA1.out.b2; have := HB7.out; have := HG.out; omega
    obtain ⟨c0, c1, c2⟩ := blk3 hA7.b0
    have r0 := hR7.c0
    rw [HMe.out] at r0
    have HBf := Lib.hid (HB1.out.trans (hb7.mono HB1.out.size))
    have HA7 := Lib.hid hA7
    have HR7 := Lib.hid hR7
    clear hb7 hA7 hR7
    go_wp2
    go_quiet (fail)
    have hA8 : RaIn w (w7.drewN nq) B X u := ⟨HA7.out.base, HA7.out.lt, HA7.out.but.drewN nq, HA7.out.b0, HA7.out.b1, HA7.out.b2⟩
    have hR8 : RrAt (w7.drewN nq) base B (.slice A n c) r := ⟨HR7.out.blk, own_but HR7.out.row ((But.refl (fun _ => False) _).drewN nq) (fun _ _ h => h), HR7.out.ok⟩
    have hO8 : (w7.drewN nq).heap[B7]? = some (.cells #[.int .i64 old.node, .int .u32 (old.inc : Int), .int .i64 old.st] 32) := HH7.out
    have hB8 : Below w.heap.size w (w7.drewN nq) := below_drewN HBf.out nq
    obtain ⟨w8, hw8⟩ : ∃ w8, w7.drewN nq = w8 := ⟨_, rfl⟩
    rw [hw8] at hA8 hR8 hO8 hB8 ⊢
    have HA8 := Lib.hid hA8
    have HR8 := Lib.hid hR8
    have HO8 := Lib.hid hO8
    have HB8 := Lib.hid hB8
    clear hA8 hR8 hO8 hB8 hw8 c0 c1 c2 r0
    have HA_w8 := HA8
    have HR_w8 := HR8
    have HO_w8 := HO8
    have HB_w8 := HB8
    obtain rfl : true = is := HI0.out.symm
    obtain ⟨c0, c1, c2⟩ := blk3 HA_w8.out.b0
    obtain ⟨o0, o1, o2⟩ := blk3 HO_w8.out
    go_wp2_with fail
    refine (HAb.out _).mono ?_
    rintro e w9 ⟨rfl, hb⟩
    have hA := HA_w8.out.below hb
    have hR := HR_w8.out.below hb
    have hO := (hb.block _ (block_lt HO_w8.out)).trans HO_w8.out
    have HB_w9 := Lib.hid (HB_w8.out.trans (hb.mono HB_w8.out.size))
    clear hb c0 c1 c2 o0 o1 o2
    have HA_w9 := Lib.hid hA
    have HR_w9 := Lib.hid hR
    have HO_w9 := Lib.hid hO
    clear hA hR hO
    obtain ⟨c0, c1, c2⟩ := blk3 HA_w9.out.b0
    have HPut := Lib.hid (rput_any u w9 HR_w9.out (Nat.le_trans HBs.out HB_w9.out.size) HRt.out)
    go_wp2_with fail
    refine HPut.out.mono ?_
    rintro e w10 ⟨rfl, ⟨vp, hRp, hvp⟩, hbp⟩
    have hXw := block_lt HA_w9.out.b2
    have hBX := HA_w9.out.lt
    have HA_w10 := Lib.hid (HA_w9.out.then_ hbp)
    have HRp := Lib.hid hRp
    have HVp := Lib.hid (show ∀ b, vp.ownBlock = some b → b ≠ X + 1 ∧ b ≠ X + 1 + 1 from fun b hb => by have := hvp b hb; omega)
    have HO_w10 := Lib.hid ((hbp.block B7 (block_lt HO_w9.out) (by have := hXB; omega)).trans HO_w9.out)
    clear hRp hvp hbp hXw hBX c0 c1 c2
    have HXn := Lib.hid hXB
    have hX1 := block_lt HA_w10.out.b1
    have hlt0 := HA_w10.out.lt
    have hI0 : TwoI X old u (fun _ => false) w10 := ⟨fun _ => HA_w10.out.b1, (fun h => by cases h), fun _ => HA_w10.out.b2, (fun h => by cases h)⟩
    have HI0 := Lib.hid hI0
    clear hI0
    go_wp2
    refine Go.Rel.wp_region_states (by kernel_rfl) (by kernel_rfl) (by kernel_rfl) (by kernel_rfl) (TwoI X old u) (But (fun k => k = X + 1 ∨ k = X + 1 + 1)) (fun _ _ _ h k => h.trans k) (But.refl _ _).drew ⟨HI0.out.z3, HI0.out.a3, HI0.out.z4, HI0.out.b4⟩ (twoV (.agg #[.int .i64 old.node, .int .u32 (old.inc : Int), .int .i64 old.st]) (.agg #[.int .i64 u.node, .int .u32 (u.inc : Int), .int .i64 u.st]) (.int .i64 2)) (twoV_stable X (.agg #[.int .i64 old.node, .int .u32 (old.inc : Int), .int .i64 old.st]) (.agg #[.int .i64 u.node, .int .u32 (u.inc : Int), .int .i64 u.st]) (.int .i64 2)) ?hs1 ?he1
    case hs1 =>
      refine .cons ?_ (.cons ?_ (.cons ?_ (.cons ?_ (.cons ?_ .nil))))
      · intro f a' w' hI hf hanc hdesc hle hs' hd K hK
        obtain ⟨x0, x1, x2⟩ := blk3 ((hle.block B7 (block_lt HO_w10.out) (by have := HXn.out; omega)).trans HO_w10.out)
        have f7 : a'.tmps[7]? = some (.pointer (some ⟨B7, 0, none⟩)) := hs'.2.2 7 (by kernel_rfl)
        unfold Go.Rel.stepOf
        go_simp
        exact hK _ _ (But.refl _ _) (hI.keep (by decide) (by decide)) rfl
      · intro f a' w' hI hf hanc hdesc hle hs' hd K hK
        obtain ⟨x0, x1, x2⟩ := blk3 ((hle.block X (block_lt HA_w10.out.b0) (by have := HXn.out; omega)).trans HA_w10.out.b0)
        have f3 : a'.tmps[3]? = some (.pointer (some ⟨X, 0, none⟩)) := hs'.2.2 3 (by kernel_rfl)
        unfold Go.Rel.stepOf
        go_simp
        exact hK _ _ (But.refl _ _) (hI.keep (by decide) (by decide)) rfl
      · intro f a' w' hI hf hanc hdesc hle hs' hd K hK
        unfold Go.Rel.stepOf
        go_simp
        exact hK _ _ (But.refl _ _) (hI.keep (by decide) (by decide)) rfl
      · intro f a' w' hI hf hanc hdesc hle hs' hd K hK
        obtain ⟨_, ta, rfl⟩ := hd 0 83 (by kernel_rfl)
        have f5 : a'.tmps[5]? = some (.pointer (some ⟨X + 1, 0, none⟩)) := hs'.2.2 5 (by kernel_rfl)
        have hz := hI.z3 hf
        obtain ⟨x0, x1, x2⟩ := blk3 hz
        have g0 := blk_froz hz 0
        have g1 := blk_froz hz 1
        have g2 := blk_froz hz 2
        unfold Go.Rel.stepOf
        go_simp
        exact hK undef _ ((set3_but w' (X + 1) _ _ _).mono (fun k e => .inl e)) (hI.st3 hf) trivial
      · intro f a' w' hI hf hanc hdesc hle hs' hd K hK
        obtain ⟨_, ta, rfl⟩ := hd 1 84 (by kernel_rfl)
        have f6 : a'.tmps[6]? = some (.pointer (some ⟨X + 1 + 1, 0, none⟩)) := hs'.2.2 6 (by kernel_rfl)
        have hz := hI.z4 hf
        obtain ⟨x0, x1, x2⟩ := blk3 hz
        have g0 := blk_froz hz 0
        have g1 := blk_froz hz 1
        have g2 := blk_froz hz 2
        unfold Go.Rel.stepOf
        go_simp
        exact hK undef _ ((set3_but w' (X + 1 + 1) _ _ _).mono (fun k e => .inr e)) (hI.st4 hf) trivial
    case he1 =>
      intro f a' w9f hall hI hle hs' hR'
      have HB1f := Lib.hid (hI.a3 (hall 3 (by decide)))
      have HB2f := Lib.hid (hI.b4 (hall 4 (by decide)))
      have HLf := Lib.hid hle
      obtain ⟨va, s83, _⟩ := hR' 0 83 (by kernel_rfl)
      obtain ⟨vb, s84, _⟩ := hR' 1 84 (by kernel_rfl)
      obtain ⟨_, s4, rfl⟩ := hR' 2 4 (by kernel_rfl)
      have e := hs'.shape
      simp only [List.toList_toArray, List.foldl, Go.Rel.reset, Array.getD_eq_getD_getElem?, s83, s84, s4, Option.getD_some] at e
      simp at e
      clear hR' hs' hI hall hle s83 s84 s4
      subst e
      go_wp2
      obtain ⟨g0, g1, g2⟩ := blk3 HB1f.out
      obtain ⟨g3, g4, g5⟩ := blk3 HB2f.out
      have hsz := HX.out
      have hlt := HA_w10.out.lt
      obtain ⟨vq, hRq, hvq⟩ := (show ∃ v, RrAt _ base B v _ ∧ ∀ b, v.ownBlock = some b → b ≠ X + 1 ∧ b ≠ X + 1 + 1 from ⟨vp, HRp.out, HVp.out⟩)
      refine bodyPost_ret (v := .tuple #[.int .i64 2, .agg #[.int .i64 old.node, .int .u32 (old.inc : Int), .int .i64 old.st], .agg #[.int .i64 u.node, .int .u32 (u.inc : Int), .int .i64 u.st]]) (by simp [results, Try.results14, go_sem, g0, g1, g2, g3, g4, g5]) rfl ⟨rfl, ⟨vq, hRq.but HLf.out (fun e => by omega) (fun b hb e => by have := hvq b hb; omega)⟩, ?_⟩
      exact HA_w10.out.but.then_ HLf.out (fun i e hi => by omega)
/-- Apply of the document's roll. -/
theorem rapply_any {base B : Nat} {v0 : Value} {r : Ro} (u : Up) (w : World) (hR : RrAt w base B v0 r) (hbase : base ≤ w.heap.size) (hs : r.small) (hu : u.inc ≤ 4294967295) (k : Nat) (a b : Up) (r2 : Ro) (he : r.apply u = (k, a, b, r2)) :
    Calls Try.prog 14 #[.pointer (some ⟨B, 0, none⟩), .agg #[.int .i64 u.node, .int .u32 (u.inc : Int), .int .i64 u.st]] w (RApPost w base B k a b r2) := by
  unfold Ro.apply at he
  cases hr : u.right with
  | false =>
    rw [if_pos hr] at he
    simp only [Prod.mk.injEq] at he
    obtain ⟨rfl, rfl, rfl, rfl⟩ := he
    exact rapply_wrong u zU w hR hbase hr
  | true =>
    rw [if_neg (by rw [hr]; decide)] at he
    by_cases ho : u.node = r.own
    · rw [if_pos ho] at he
      have hsu := hs _ _ hR.ok.selfAt.1
      by_cases hg : r.selfU.st = 3
      · rw [if_pos (.inl hg)] at he
        simp only [Prod.mk.injEq] at he
        obtain ⟨rfl, rfl, rfl, rfl⟩ := he
        exact rapply_gone u r.selfU w hR hbase hr ho rfl hg
      · cases ha : u.above r.selfU with
        | false =>
          rw [if_pos (.inr ha)] at he
          simp only [Prod.mk.injEq] at he
          obtain ⟨rfl, rfl, rfl, rfl⟩ := he
          exact rapply_below u r.selfU w hR hbase hr ho rfl hg ha
        | true =>
          rw [if_neg (fun h => h.elim hg (fun h => by rw [ha] at h; cases h))] at he
          by_cases hk : (refuteN r.selfU.inc u.inc).2 ≠ 0
          · rw [if_pos hk] at he
            simp only [Prod.mk.injEq] at he
            obtain ⟨rfl, rfl, rfl, rfl⟩ := he
            exact rapply_stuck u r.selfU w hR hbase hr ho rfl hg ha hsu hu _ _ rfl hk
          · rw [if_neg hk] at he
            simp only [Prod.mk.injEq] at he
            obtain ⟨rfl, rfl, rfl, rfl⟩ := he
            have hk0 : (refuteN r.selfU.inc u.inc).2 = 0 := by omega
            exact rapply_mine u r.selfU w hR hbase hr ho rfl hg ha hsu hu _ (by rw [← hk0]) _ rfl
    · rw [if_neg ho] at he
      cases hT : r.T u.node with
      | none =>
        rw [hT] at he
        simp only [Prod.mk.injEq] at he
        obtain ⟨rfl, rfl, rfl, rfl⟩ := he
        exact rapply_fresh u zU w hR hbase hr ho hT rfl
      | some old =>
        rw [hT] at he
        simp only at he
        cases ha : u.above old with
        | true =>
          rw [if_pos ha] at he
          simp only [Prod.mk.injEq] at he
          obtain ⟨rfl, rfl, rfl, rfl⟩ := he
          exact rapply_raised u old w hR hbase hr ho hT ha
        | false =>
          rw [if_neg (by rw [ha]; decide)] at he
          simp only [Prod.mk.injEq] at he
          obtain ⟨rfl, rfl, rfl, rfl⟩ := he
          exact rapply_low u old w hR hbase hr ho hT ha
end Go.Proofs.Ytmfokogckfoheaa
