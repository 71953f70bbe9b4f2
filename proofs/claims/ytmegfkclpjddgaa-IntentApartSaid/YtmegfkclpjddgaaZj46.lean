/-
  What one intention says turns nothing for sources and destinations of which it does not speak: the law IntentApart, walked (layer 17).
-/
import Derived.Test.YtmegfkclpjddgaaZj44
import Derived.Test.YtmegfkclpjddgaaZj41
import Derived.Test.YtmegfkclpjddgaaZj45
import Derived.BigQuiet
namespace Go.Proofs.Ytmegfkclpjddgaa
open Go.RowKit Go.Rel
set_option linter.unusedSimpArgs false
set_option linter.unusedVariables false

theorem irRow.none {w : World} {base Z : Nat} (h : w.heap[Z]? = some (.cells #[] TIn (0, 0))) (hZ : base ≤ Z) : irRow w base (.slice (some ⟨Z, 0, none⟩) 0 0) [] :=
  ⟨rfl, .inr ⟨Z, 0, #[], rfl, hZ, h, Nat.le_refl _, Nat.zero_le _, rfl, rfl⟩⟩
/-- Within 'append(append([]T{}, l...), x)': 0 the empty row, 2 it with l, 4 the slice of x, 5 both. -/
structure ApI (x : Ir) (l : List Ir) (W0 : World) (f : Nat → Bool) (e : Nat → Value) (w : World) : Prop where
  below : Below W0.heap.size W0 w
  r0 : f 0 = true → f 2 = false → ∃ Z, e 0 = .slice (some ⟨Z, 0, none⟩) 0 0 ∧ W0.heap.size ≤ Z ∧ w.heap[Z]? = some (.cells #[] TIn (0, 0))
  r2 : f 2 = true → f 5 = false → irRow w W0.heap.size (e 2) l
  r4 : f 4 = true → f 5 = false → ∃ Y, e 4 = .slice (some ⟨Y, 0, none⟩) 1 1 ∧ W0.heap.size ≤ Y ∧ ItAt irC w Y 0 x
  r5 : f 5 = true → irRow w W0.heap.size (e 5) (l ++ [x])
section
variable {ops : Array Oper} {x : Ir} {l : List Ir} {W0 w w' : World} {f : Nat → Bool} {e e' : Nat → Value} {v : Value}
theorem ApI.start (e : Nat → Value) : ApI x l W0 (fun _ => false) e { W0 with drawn := W0.drawn + 1 } :=
  ⟨⟨rfl, rfl, rfl, Nat.le_refl _, fun _ _ => rfl⟩, (fun h => by cases h), (fun h => by cases h), (fun h => by cases h), (fun h => by cases h)⟩
theorem ApI.down (h : ApI x l W0 f e w) (hb : Below w.heap.size w w') : ApI x l W0 f e w' := by
  have hz := h.below.size
  refine ⟨h.below.trans (hb.mono hz), fun a b => ?_, fun a b => (h.r2 a b).below hb, fun a b => ?_, fun a => (h.r5 a).below hb⟩
  · obtain ⟨Z, h1, h2, h3⟩ := h.r0 a b
    exact ⟨Z, h1, h2, (hb.block Z (block_lt h3)).trans h3⟩
  · obtain ⟨Y, h1, h2, h3⟩ := h.r4 a b
    have hlt : Y < w.heap.size := by
      have := h3 0 _ rfl
      exact bcell_lt (by simpa using this)
    exact ⟨Y, h1, h2, h3.of_block (hb.block Y hlt)⟩
theorem ApI.keep {j : Nat} (hj : [0, 2, 4, 5].contains j = false) (h : ApI x l W0 f e w) (hp : Go.Rel.Put ops j e v e') : ApI x l W0 (Go.Rel.upd f j) e' w := by
  simp only [List.contains_cons, List.contains_nil, Bool.or_false, Bool.or_eq_false_iff, beq_eq_false_iff_ne] at hj
  obtain ⟨j0, j2, j4, j5⟩ := hj
  refine ⟨h.below, ?_, ?_, ?_, ?_⟩
  · rw [ale_off j0, ale_off j2, hp.1 0 (Ne.symm j0)]; exact h.r0
  · rw [ale_off j2, ale_off j5, hp.1 2 (Ne.symm j2)]; exact h.r2
  · rw [ale_off j4, ale_off j5, hp.1 4 (Ne.symm j4)]; exact h.r4
  · rw [ale_off j5, hp.1 5 (Ne.symm j5)]; exact h.r5
theorem ApI.op0 (h : ApI x l W0 f e w) (z2 : f 2 = false) (hd : ((ops[0]?).bind (·.dst)).isSome = true) (hp : Go.Rel.Put ops 0 e (.slice (some ⟨w.heap.size, 0, none⟩) 0 0) e') : ApI x l W0 (Go.Rel.upd f 0) e' (w.alloc (.cells #[] TIn)) := by
  have h1 := h.down (below1 w #[] TIn)
  refine ⟨h1.below, fun _ _ => ⟨w.heap.size, hp.2 hd, h.below.size, heap_alloc_new _ _⟩, ?_, ?_, ?_⟩
  · rw [ale_off (by decide), ale_off (by decide), hp.1 2 (by decide)]; exact h1.r2
  · rw [ale_off (by decide), ale_off (by decide), hp.1 4 (by decide)]; exact h1.r4
  · rw [ale_off (by decide), hp.1 5 (by decide)]; exact h1.r5
theorem ApI.op4 (h : ApI x l W0 f e w) (hd : ((ops[4]?).bind (·.dst)).isSome = true) (hp : Go.Rel.Put ops 4 e (.slice (some ⟨w.heap.size, 0, none⟩) 1 1) e') : ApI x l W0 (Go.Rel.upd f 4) e' (w.alloc (.cells #[.string x.src, .string x.dst, .bool x.allow, .int .u64 (x.made : Int), .int .u64 (x.ix : Int)] TIn)) := by
  have h1 := h.down (below1 w #[.string x.src, .string x.dst, .bool x.allow, .int .u64 (x.made : Int), .int .u64 (x.ix : Int)] TIn)
  refine ⟨h1.below, ?_, ?_, fun _ _ => ⟨w.heap.size, hp.2 hd, h.below.size, ir_new w x TIn⟩, ?_⟩
  · rw [ale_off (by decide), ale_off (by decide), hp.1 0 (by decide)]; exact h1.r0
  · rw [ale_off (by decide), ale_off (by decide), hp.1 2 (by decide)]; exact h1.r2
  · rw [ale_off (by decide), hp.1 5 (by decide)]; exact h1.r5
theorem ApI.op2 (h : ApI x l W0 f e w) (z5 : f 5 = false) {Z : Nat} (hZ : W0.heap.size ≤ Z) (hz : w.heap[Z]? = some (.cells #[] TIn (0, 0))) (hr : irRow w' W0.heap.size v l) (hg : w.grownBy w' (some Z)) (hd : ((ops[2]?).bind (·.dst)).isSome = true) (hp : Go.Rel.Put ops 2 e v e') : ApI x l W0 (Go.Rel.upd f 2) e' w' := by
  refine ⟨h.below.grown hg h.below.size (fun k e => by cases e; exact hZ), (fun _ z => by rw [ale_on] at z; cases z), fun _ _ => by rw [hp.2 hd]; exact hr, ?_, (fun z => by rw [ale_off (by decide), z5] at z; cases z)⟩
  rw [ale_off (by decide), ale_off (by decide), hp.1 4 (by decide)]
  intro a b
  obtain ⟨Y, h1, h2, h3⟩ := h.r4 a b
  have h4 := h3 0 _ rfl
  have hne : some Y ≠ some Z := fun q => by
    cases q
    rw [cell_of_row _ _ _ _ _ _ hz] at h4
    cases h4
  have hlt : Y < w.heap.size := bcell_lt (by simpa using h4)
  exact ⟨Y, h1, h2, h3.of_block (hg.block Y hlt hne)⟩
theorem ApI.op5 (h : ApI x l W0 f e w) (z2 : f 2 = true) (hr : irRow w' W0.heap.size v (l ++ [x])) (hb : Below W0.heap.size W0 w') (hd : ((ops[5]?).bind (·.dst)).isSome = true) (hp : Go.Rel.Put ops 5 e v e') : ApI x l W0 (Go.Rel.upd f 5) e' w' :=
  ⟨hb, (fun _ z => by rw [ale_off (by decide), z2] at z; cases z), (fun _ z => by rw [ale_on] at z; cases z), (fun _ z => by rw [ale_on] at z; cases z), fun _ => by rw [hp.2 hd]; exact hr⟩
end
def apdE (X : Nat) (s : ByteArray) (d : ByteArray) (A : Option Addr) (n : Nat) (c : Nat) (x : Ir) (a : Bool) (k : Int) : Nat → Value
  | 1 => .slice A n c
  | 3 => .agg #[.string x.src, .string x.dst, .bool x.allow, .int .u64 (x.made : Int), .int .u64 (x.ix : Int)]
  | 6 => .string s
  | 7 => .string d
  | 8 | 9 => .tuple #[.bool a, .int .i64 k]
  | 10 | 12 => .bool a
  | 11 | 13 => .int .i64 k
  | _ => undef
theorem sk_one {w : World} {Y : Nat} {x : Ir} (h : ItAt irC w Y 0 x) : SK irC 5 w (some ⟨Y, 0, none⟩) [x].length [x] := by
  have h4 := h 0 _ rfl
  exact ⟨rfl, fun _ => ⟨Y, 0, rfl, bcell_lt (by simpa using h4), fun j hj => by
    obtain rfl : j = 0 := by have : j < 1 := hj; omega
    simpa using h⟩⟩
set_option maxHeartbeats 8000000 in
set_option maxRecDepth 100000 in
theorem apart_walk (A : Option Addr) (n c : Nat) (l : List Ir) (x : Ir) (s d : ByteArray) (w : World) (hS : SK irC 5 w A n l) (hn : n ≤ maxLen) (hA : A = none → c = 0) (hs : s.size ≤ maxLen) (hd : d.size ≤ maxLen) :
    Calls Try.prog 6 #[.slice A n c, irV x, .agg #[.string s, .string d]] w fun e w' => e = .returned (.bool true) ∧ Below w.heap.size w w' := by
  have HMs := Lib.hid (fun (W : World) => rmatch_any x.src s W hs)
  have HMd := Lib.hid (fun (W : World) => rmatch_any x.dst d W hd)
  have HWk := Lib.hid works_any
  have HS := Lib.hid hS
  have HL := Lib.hid hS.1
  have HA := Lib.hid hA
  have HCh := Lib.hid (fun (A2 : Option Addr) (m c2 : Nat) (l2 : List Ir) (W : World) (h : SK irC 5 W A2 m l2) (hm : m ≤ maxLen) => choose_any A2 m c2 l2 s d true W h hm hs hd)
  obtain ⟨m1, hm1⟩ : ∃ m1, matchB x.src.data.toList s.data.toList = m1 := ⟨_, rfl⟩
  obtain ⟨m2, hm2⟩ : ∃ m2, matchB x.dst.data.toList d.data.toList = m2 := ⟨_, rfl⟩
  rw [hm1] at HMs
  rw [hm2] at HMd
  have HAp : Hid (x.app s d = (m1 && m2)) := Lib.hid (by unfold Ir.app; rw [hm1, hm2])
  unfold irV
  obtain ⟨X, hX⟩ : ∃ X, w.heap.size = X := ⟨_, rfl⟩
  obtain ⟨W1, hW1⟩ : ∃ W1, (w.alloc (.cells #[.string x.src, .string x.dst, .bool x.allow, .int .u64 (x.made : Int), .int .u64 (x.ix : Int)] TIn)).alloc (.cells #[.string s, .string d] 47) = W1 := ⟨_, rfl⟩
  have z0 : (w.alloc (.cells #[.string x.src, .string x.dst, .bool x.allow, .int .u64 (x.made : Int), .int .u64 (x.ix : Int)] TIn)).heap.size = X + 1 := by simp [hX]
  have k1 : W1.heap[X + 1]? = some (.cells #[.string s, .string d] 47 (0, 0)) := by rw [← hW1, ← z0]; exact heap_alloc_new _ _
  have k0 : W1.heap[X]? = some (.cells #[.string x.src, .string x.dst, .bool x.allow, .int .u64 (x.made : Int), .int .u64 (x.ix : Int)] TIn (0, 0)) := by
    have h9 : (w.alloc (.cells #[.string x.src, .string x.dst, .bool x.allow, .int .u64 (x.made : Int), .int .u64 (x.ix : Int)] TIn)).heap[X]? = some (.cells #[.string x.src, .string x.dst, .bool x.allow, .int .u64 (x.made : Int), .int .u64 (x.ix : Int)] TIn (0, 0)) := by rw [← hX]; exact heap_alloc_new _ _
    rw [← hW1]
    exact ((below1 _ _ _).block X (by omega)).trans h9
  have HB1 : Hid (Below w.heap.size w W1) := Lib.hid (by rw [← hW1]; exact (below1 w _ _).alloc (by simp) _)
  have y0 := cellsN k1 0 _ rfl
  have y1 := cellsN k1 1 _ rfl
  have HXa := Lib.hid k0
  have HW1 := Lib.hid hW1
  have HX := Lib.hid hX
  clear hW1 hX k0 k1 z0 hS hn hs hd hm1 hm2 hA
  go_enter Try.func6, Try.ntmps6
  go_wp2_with fail
  rw [HW1.out, HX.out]
  go_quiet (fail)
  generalize hW2 : W1.drewN _ = W2
  have HB2 : Hid (Below w.heap.size w W2) := Lib.hid (by rw [← hW2]; exact below_drewN HB1.out _)
  have HXb : Hid (W2.heap[X]? = some (.cells #[.string x.src, .string x.dst, .bool x.allow, .int .u64 (x.made : Int), .int .u64 (x.ix : Int)] TIn (0, 0))) := Lib.hid (by rw [← hW2]; exact HXa.out)
  clear hW2 y0 y1 HW1 HXa
  by_cases hlen : 60 < n
  · have hl2 : (60 : Int) < (n : Int) := by omega
    have hgt : decide ((n : Int) > 60) = true := decide_eq_true (by omega)
    go_wp2_with fail
    refine (HWk.out W2).mono ?_
    rintro e w9 ⟨rfl, hb9⟩
    have HB9 := Lib.hid (HB2.out.trans (hb9.mono HB2.out.size))
    clear hb9
    go_wp2
    go_ret
    exact ⟨rfl, HB9.out⟩
  · have hl2 : ¬ (60 : Int) < (n : Int) := by omega
    have hgt : decide ((n : Int) > 60) = false := decide_eq_false (by omega)
    obtain ⟨x0, x1, x2, x3, x4⟩ := ir_blk HXb.out
    have HMid : Hid (∀ K : Prop, ((m1 && m2) = false → K) → ((m1 && m2) = true → K) → K) := Lib.hid fun K h1 h2 => by
      cases q : (m1 && m2)
      · exact h1 q
      · exact h2 q
    cases m1 with
    | true =>
      cases m2 with
      | true =>
        go_wp2_with fail
        refine (HMs.out W2).mono ?_
        rintro e w3 ⟨rfl, rfl⟩
        go_wp2_with fail
        refine (HMd.out W2).mono ?_
        rintro e w3 ⟨rfl, rfl⟩
        clear x0 x1 x2 x3 x4
        go_wp2_with fail
        refine (HWk.out W2).mono ?_
        rintro e w9 ⟨rfl, hb9⟩
        have HB9 := Lib.hid (HB2.out.trans (hb9.mono HB2.out.size))
        clear hb9
        go_wp2
        go_ret
        exact ⟨rfl, HB9.out⟩
      | false =>
        go_wp2_with fail
        refine (HMs.out W2).mono ?_
        rintro e w3 ⟨rfl, rfl⟩
        go_wp2_with fail
        refine (HMd.out W2).mono ?_
        rintro e w3 ⟨rfl, rfl⟩
        clear x0 x1 x2 x3 x4
        have hna : x.app s d = false := HAp.out
        obtain ⟨o, ho⟩ := chosen_ex l s d
        obtain ⟨p, hp⟩ := chosen_ex (x :: l) s d
        obtain ⟨q, hq⟩ := chosen_ex (l ++ [x]) s d
        have g1 := apart_head (b := true) hna ho hp
        have g2 := apart_tail (b := true) hna ho hq
        obtain ⟨a, ha⟩ : ∃ a, cA l true o = a := ⟨_, rfl⟩
        rw [ha] at g1 g2
        have HO := Lib.hid ho
        have HP := Lib.hid hp
        have HQ := Lib.hid hq
        have HA1 := Lib.hid ha
        have HA2 := Lib.hid g1.symm
        have HA3 := Lib.hid g2.symm
        have hnm : n ≤ maxLen := by unfold maxLen; omega
        have HC1 := Lib.hid (HCh.out A n c l W2 (HS.out.below HB2.out) hnm)
        obtain ⟨ko, hko⟩ : ∃ k, cK o = k := ⟨_, rfl⟩
        have HKo := Lib.hid hko
        clear ho hp hq g1 g2 ha hna hko
        go_wp2_with fail
        refine HC1.out.mono ?_
        rintro e w4 h4
        obtain ⟨he, hb4⟩ := h4.is HO.out
        rw [HA1.out, HKo.out] at he
        subst he
        have HB4 : Hid (Below w.heap.size w w4) := Lib.hid (HB2.out.trans (hb4.mono HB2.out.size))
        have HX4 := Lib.hid ((hb4.block X (block_lt HXb.out)).trans HXb.out)
        obtain ⟨x0, x1, x2, x3, x4⟩ := ir_blk (((below1 w4 #[] TIn).block X (block_lt HX4.out)).trans HX4.out)
        clear hb4 h4 HC1
        obtain ⟨i0, hi, hz0, hz1, hz2⟩ := info_parts ir_info
        have Hi := Lib.hid (And.intro hi (And.intro hz0 (And.intro hz1 hz2)))
        clear hi hz0 hz1 hz2
        obtain ⟨Y, hY⟩ : ∃ Y, w4.heap.size = Y := ⟨_, rfl⟩
        have HY := Lib.hid hY
        obtain ⟨V2, hV2⟩ : ∃ V2, (w4.alloc (.cells #[] TIn)).alloc (.cells #[.string x.src, .string x.dst, .bool x.allow, .int .u64 (x.made : Int), .int .u64 (x.ix : Int)] TIn) = V2 := ⟨_, rfl⟩
        have v1 : V2.heap[Y]? = some (.cells #[] TIn (0, 0)) := by
          have h9 : (w4.alloc (.cells #[] TIn)).heap[Y]? = some (.cells #[] TIn (0, 0)) := by rw [← hY]; exact heap_alloc_new _ _
          rw [← hV2]
          exact ((below1 _ _ _).block Y (by simp; omega)).trans h9
        have v2 : ItAt irC V2 (Y + 1) 0 x := by
          have h9 := ir_new (w4.alloc (.cells #[] TIn)) x TIn
          rw [hV2, show (w4.alloc (.cells #[] TIn)).heap.size = Y + 1 by simp [hY]] at h9
          exact h9
        have hb9 : Below Y w4 V2 := by rw [← hV2, ← hY]; exact (below1 w4 _ _).alloc (by simp) _
        have HV1 := Lib.hid (irRow.none (base := Y) v1 (Nat.le_refl _))
        have HV2 := Lib.hid v2
        have HBV := Lib.hid hb9
        have HVw := Lib.hid hV2
        clear hY hV2 v1 v2 hb9
        go_wp2_with (at_builtin; rw [HY.out, HVw.out]; refine wpList_append_ir rfl (.tmp 43) (.tmp 45) rfl Y _ [] rfl ?qa (Y + 1) x rfl ?qb (by simp) ?qc ?_)
        case qa => exact HV1.out
        case qb => exact HV2.out
        case qc => have := HBV.out.size; have := HY.out; omega
        refine Lib.hid ?_
        intro v5 w5 hown5 hgr5
        have hb5 : Below Y w4 w5 := HBV.out.grown hgr5 (by have := HBV.out.size; have := HY.out; omega) (fun k e => by cases e; exact Nat.le_refl _)
        have HB5 : Hid (Below w.heap.size w w5) := Lib.hid (HB4.out.trans (hb5.mono (by have := HB4.out.size; have := HY.out; omega)))
        have HR5 : Hid (irRow w5 Y v5 [x]) := Lib.hid hown5
        have HS5 := Lib.hid (HS.out.below HB5.out)
        have HX5 := Lib.hid ((hb5.block X (by have := block_lt HX4.out; have := HY.out; omega)).trans HX4.out)
        have hYz5 : Y ≤ w5.heap.size := by have := hb5.size; have := HY.out; omega
        have HB45 := Lib.hid hb5
        clear hown5 hgr5 hb5 x0 x1 x2 x3 x4 HV1 HV2 HBV HVw
        have HX2 : Hid ((Value.slice A n c) = .slice A l.length c) := Lib.hid (by rw [HL.out])
        go_wp2_with (at_builtin; refine wpList_append_sk rfl (.tmp 46) (.tmp 47) 32 rfl i0 _ 56 Try.underlying32 Hi.out.1 Hi.out.2.1 Hi.out.2.2.1 Hi.out.2.2.2 rfl (by decide) irC_len irC_one Y _ [x] rfl ?qd A c l HX2.out ?qe HA.out ?qf ?qg hYz5 ?_)
        case qd => exact HR5.out
        case qe => have h9 := HS5.out; rw [← HL.out] at h9; exact h9
        case qf => have := HL.out; unfold maxLen; simp; omega
        case qg => have := HL.out; simp; omega
        refine Lib.hid ?_
        intro v6 w6 hown6 hgr6
        have HB6 : Hid (Below w.heap.size w w6) := Lib.hid (HB4.out.trans ((HB45.out.grown hgr6 hYz5 (fun k e => (HR5.out.from _ e).1)).mono (by have := HB4.out.size; have := HY.out; omega)))
        have HX6 := Lib.hid (((HB45.out.grown hgr6 hYz5 (fun k e => (HR5.out.from _ e).1)).block X (by have := block_lt HX4.out; have := HY.out; omega)).trans HX4.out)
        have hown6b : irRow w6 Y v6 (x :: l) := hown6
        obtain ⟨A6, c6, rfl, hS6, _⟩ := SK.of_row irC_len hown6b
        have HC2 := Lib.hid (HCh.out A6 _ c6 (x :: l) w6 hS6 (by rw [List.length_cons, HL.out]; unfold maxLen; omega))
        clear hown6 hgr6 hown6b hS6 HR5 HS5 HX2
        go_wp2_with fail
        refine HC2.out.mono ?_
        rintro e w7 h7
        obtain ⟨he, hb7⟩ := h7.is HP.out
        obtain ⟨kp, hkp⟩ : ∃ k, cK p = k := ⟨_, rfl⟩
        rw [HA2.out, hkp] at he
        subst he
        have HB7 : Hid (Below w.heap.size w w7) := Lib.hid (HB6.out.trans (hb7.mono HB6.out.size))
        have HXb7 := Lib.hid ((hb7.block X (block_lt HX6.out)).trans HX6.out)
        clear hb7 h7 HC2 hkp HXb
        have HXb := HXb7
        have HSl : Hid (SK irC 5 w7 A l.length l) := Lib.hid (by have h9 := HS.out.below HB7.out; rw [← HL.out] at h9; exact h9)
        have HNn : Hid ((Value.slice A n c) = .slice A l.length c) := Lib.hid (by rw [HL.out])
        have HLen : Hid (l.length ≤ 60) := Lib.hid (by rw [HL.out]; omega)
        obtain ⟨k, hk⟩ : ∃ k, cK q = k := ⟨_, rfl⟩
        have HCt : Hid (∀ A5 c5 W, SK irC 5 W A5 (l ++ [x]).length (l ++ [x]) → Calls Try.prog 19 #[.slice A5 (l ++ [x]).length c5, .string s, .string d, .bool true] W fun e w' => e = .returned (.tuple #[.bool a, .int .i64 k]) ∧ Below W.heap.size W w') := Lib.hid fun A5 c5 W h9 => (HCh.out A5 _ c5 (l ++ [x]) W h9 (by have := HLen.out; rw [List.length_append]; unfold maxLen; simp; omega)).mono fun e w2 h8 => by
          have h7 := h8.is HQ.out
          rw [HA3.out, hk] at h7
          exact h7
        clear hk
        go_wp2_with fail
        have hre : ∀ w : World, ((fun _ _ : World => True)) w w := (fun _ => trivial)
        have hrd : ∀ (ops9 : Array Oper) (f9 : Nat → Bool) (e9 : Nat → Value) (w9 : World) (i9 : Nat) (v9 : Value) (e8 : Nat → Value), [0, 2, 4, 5].contains i9 = false → (ApI x l w7) f9 e9 w9 → Go.Rel.Put ops9 i9 e9 v9 e8 → (ApI x l w7) (Go.Rel.upd f9 i9) e8 w9 := (fun _ _ _ _ _ _ _ hj h hp => h.keep hj hp)
        refine Go.Rel.wp_tabe (by kernel_rfl) (by kernel_rfl) (ApI x l w7) ((fun _ _ : World => True)) hre ((fun _ _ _ _ _ => trivial)) (trivial) ApI.start (apdE X s d A n c x a k) (fun | 0, v, w => True | 2, v, w => True | 4, v, w => True | 5, v, w => True | _, _, _ => True) (fun i => ([0, 2, 4, 5] : List Nat).contains i) (fun i => ([0, 2, 3, 4, 5, 8] : List Nat).contains i) (by kernel_rfl) (fun i v w w' h g => by revert h; split <;> exact id) [0, 2, 4, 5] (by decide) (hrd _) ?_ (Go.Rel.AllOf.get ?_) ?_
        · repeat (refine .cons (by first | exact Go.Rel.pure_sp rfl | exact Go.Rel.pure_yes (by kernel_rfl) (fun _ => by kernel_rfl) | exact Go.Rel.pure_no (by kernel_rfl) rfl) ?_)
          exact .nil
        · refine ⟨?_, ?_, ?_, ?_, ?_, ?_, trivial⟩
          · refine SpecE.gen (fun e => []) rfl rfl (fun _ => by kernel_rfl) fun f w' e hI hf hdesc hanc hle hX K hK => ?_
            have z2 : f 2 = false := hdesc 60 2 (by kernel_rfl)
            go_simp
            exact hK _ _ trivial (fun e' hp => hI.op0 z2 rfl hp) trivial
          · refine SpecE.gen (fun e => [(55, e 0), (56, .slice A n c)]) rfl rfl (fun _ => by kernel_rfl) fun f w' e hI hf hdesc hanc hle hX K hK => ?_
            have z0 : f 0 = true := hanc 60 0 (by kernel_rfl)
            have z5 : f 5 = false := hdesc 60 5 (by kernel_rfl)
            obtain ⟨Z, k1, k2, k3⟩ := hI.r0 z0 hf
            obtain ⟨v3, w3, hr3, ho3, hg3⟩ := run_append_sk (P := Try.prog) 32 32 i0 _ 56 Try.underlying32 Hi.out.1 Hi.out.2.1 Hi.out.2.2.1 Hi.out.2.2.2 rfl (by decide) irC_len l (fun y _ => irC_one y) w7.heap.size _ [] (irRow.none k3 k2) A c (HSl.out.below hI.below) HA.out (by have := HLen.out; unfold maxLen; simp; omega) (by have := HLen.out; simp; omega) hI.below.size
            exact runs_append (.tmp 55) (.tmp 56) 32 rfl k1 HNn.out hr3 (hK _ _ trivial (fun e' hp => hI.op2 z5 k2 k3 ho3 hg3 rfl hp) trivial)
          · exact SpecE.ld (hrd _) hre (q := .pointer (some ⟨X, 0, none⟩)) (h := fun _ w' _ hI _ _ _ _ => by obtain ⟨x0, x1, x2, x3, x4⟩ := ir_blk ((hI.below.block X (block_lt HXb.out)).trans HXb.out); go_simp; rfl)
          · refine SpecE.gen (fun e => [(58, .agg #[.string x.src, .string x.dst, .bool x.allow, .int .u64 (x.made : Int), .int .u64 (x.ix : Int)])]) rfl rfl (fun _ => by kernel_rfl) fun f w' e hI hf hdesc hanc hle hX K hK => ?_
            go_simp
            exact hK _ _ trivial (fun e' hp => hI.op4 rfl hp) trivial
          · refine SpecE.gen (fun e => [(57, e 2), (59, e 4)]) rfl rfl (fun _ => by kernel_rfl) fun f w' e hI hf hdesc hanc hle hX K hK => ?_
            have z2 : f 2 = true := hanc 60 2 (by kernel_rfl)
            have z4 : f 4 = true := hanc 60 4 (by kernel_rfl)
            have r2 := hI.r2 z2 hf
            obtain ⟨Y, k1, k2, k3⟩ := hI.r4 z4 hf
            obtain ⟨v3, w3, hr3, ho3, hg3⟩ := run_append_sk (P := Try.prog) 32 32 i0 _ 56 Try.underlying32 Hi.out.1 Hi.out.2.1 Hi.out.2.2.1 Hi.out.2.2.2 rfl (by decide) irC_len [x] (fun y _ => irC_one y) w7.heap.size _ l r2 (some ⟨Y, 0, none⟩) 1 (sk_one k3) (fun e => by cases e) (by have := HLen.out; unfold maxLen; simp; omega) (by have := HLen.out; simp; omega) hI.below.size
            exact runs_append (.tmp 57) (.tmp 59) 32 rfl rfl k1 hr3 (hK _ _ trivial (fun e' hp => hI.op5 z2 ho3 (hI.below.grown hg3 hI.below.size (fun k e => (r2.from k e).1)) rfl hp) trivial)
          · refine SpecE.gen (fun e => [(60, e 5), (61, .string s), (62, .string d)]) rfl rfl (fun _ => by kernel_rfl) fun f w' e hI hf hdesc hanc hle hX K hK => ?_
            go_simp
            have r5 := hI.r5 (hanc 60 5 (by kernel_rfl))
            obtain ⟨A5, c5, e9, hS5, _⟩ := SK.of_row irC_len r5
            rw [e9]
            refine (HCt.out A5 c5 w' hS5).mono ?_
            rintro e8 w9 ⟨rfl, hb9⟩
            exact hK _ _ trivial (fun e' hp => (hI.down hb9).keep (by decide) hp) rfl
        · intro f w8 e hall hJ hle hv
          have HJ := Lib.hid hJ.below
          have v9 := hv 9 rfl
          have v10 := hv 10 rfl
          have v11 := hv 11 rfl
          have v12 := hv 12 rfl
          have v13 := hv 13 rfl
          simp only [Go.Rel.finL, List.setIfInBounds_toArray, List.set_cons_succ, List.set_cons_zero]
          rw [show e 12 = .bool a from v12]
          clear hv hall hle hJ v9 v10 v11 v12 v13
          have HB8 : Hid (Below w.heap.size w w8) := Lib.hid (HB7.out.trans (HJ.out.mono HB7.out.size))
          go_wp2_with fail
          refine (HWk.out w8).mono ?_
          rintro e w9 ⟨rfl, hb9⟩
          have HB9 := Lib.hid (HB8.out.trans (hb9.mono HB8.out.size))
          clear hb9
          go_wp2
          go_ret
          exact ⟨rfl, HB9.out⟩
    | false =>
      go_wp2_with fail
      refine (HMs.out W2).mono ?_
      rintro e w3 ⟨rfl, rfl⟩
      clear x0 x1 x2 x3 x4
      have hna : x.app s d = false := HAp.out
      obtain ⟨o, ho⟩ := chosen_ex l s d
      obtain ⟨p, hp⟩ := chosen_ex (x :: l) s d
      obtain ⟨q, hq⟩ := chosen_ex (l ++ [x]) s d
      have g1 := apart_head (b := true) hna ho hp
      have g2 := apart_tail (b := true) hna ho hq
      obtain ⟨a, ha⟩ : ∃ a, cA l true o = a := ⟨_, rfl⟩
      rw [ha] at g1 g2
      have HO := Lib.hid ho
      have HP := Lib.hid hp
      have HQ := Lib.hid hq
      have HA1 := Lib.hid ha
      have HA2 := Lib.hid g1.symm
      have HA3 := Lib.hid g2.symm
      have hnm : n ≤ maxLen := by unfold maxLen; omega
      have HC1 := Lib.hid (HCh.out A n c l W2 (HS.out.below HB2.out) hnm)
      obtain ⟨ko, hko⟩ : ∃ k, cK o = k := ⟨_, rfl⟩
      have HKo := Lib.hid hko
      clear ho hp hq g1 g2 ha hna hko
      go_wp2_with fail
      refine HC1.out.mono ?_
      rintro e w4 h4
      obtain ⟨he, hb4⟩ := h4.is HO.out
      rw [HA1.out, HKo.out] at he
      subst he
      have HB4 : Hid (Below w.heap.size w w4) := Lib.hid (HB2.out.trans (hb4.mono HB2.out.size))
      have HX4 := Lib.hid ((hb4.block X (block_lt HXb.out)).trans HXb.out)
      obtain ⟨x0, x1, x2, x3, x4⟩ := ir_blk (((below1 w4 #[] TIn).block X (block_lt HX4.out)).trans HX4.out)
      clear hb4 h4 HC1
      obtain ⟨i0, hi, hz0, hz1, hz2⟩ := info_parts ir_info
      have Hi := Lib.hid (And.intro hi (And.intro hz0 (And.intro hz1 hz2)))
      clear hi hz0 hz1 hz2
      obtain ⟨Y, hY⟩ : ∃ Y, w4.heap.size = Y := ⟨_, rfl⟩
      have HY := Lib.hid hY
      obtain ⟨V2, hV2⟩ : ∃ V2, (w4.alloc (.cells #[] TIn)).alloc (.cells #[.string x.src, .string x.dst, .bool x.allow, .int .u64 (x.made : Int), .int .u64 (x.ix : Int)] TIn) = V2 := ⟨_, rfl⟩
      have v1 : V2.heap[Y]? = some (.cells #[] TIn (0, 0)) := by
        have h9 : (w4.alloc (.cells #[] TIn)).heap[Y]? = some (.cells #[] TIn (0, 0)) := by rw [← hY]; exact heap_alloc_new _ _
        rw [← hV2]
        exact ((below1 _ _ _).block Y (by simp; omega)).trans h9
      have v2 : ItAt irC V2 (Y + 1) 0 x := by
        have h9 := ir_new (w4.alloc (.cells #[] TIn)) x TIn
        rw [hV2, show (w4.alloc (.cells #[] TIn)).heap.size = Y + 1 by simp [hY]] at h9
        exact h9
      have hb9 : Below Y w4 V2 := by rw [← hV2, ← hY]; exact (below1 w4 _ _).alloc (by simp) _
      have HV1 := Lib.hid (irRow.none (base := Y) v1 (Nat.le_refl _))
      have HV2 := Lib.hid v2
      have HBV := Lib.hid hb9
      have HVw := Lib.hid hV2
      clear hY hV2 v1 v2 hb9
      go_wp2_with (at_builtin; rw [HY.out, HVw.out]; refine wpList_append_ir rfl (.tmp 43) (.tmp 45) rfl Y _ [] rfl ?qa (Y + 1) x rfl ?qb (by simp) ?qc ?_)
      case qa => exact HV1.out
      case qb => exact HV2.out
      case qc => have := HBV.out.size; have := HY.out; omega
      refine Lib.hid ?_
      intro v5 w5 hown5 hgr5
      have hb5 : Below Y w4 w5 := HBV.out.grown hgr5 (by have := HBV.out.size; have := HY.out; omega) (fun k e => by cases e; exact Nat.le_refl _)
      have HB5 : Hid (Below w.heap.size w w5) := Lib.hid (HB4.out.trans (hb5.mono (by have := HB4.out.size; have := HY.out; omega)))
      have HR5 : Hid (irRow w5 Y v5 [x]) := Lib.hid hown5
      have HS5 := Lib.hid (HS.out.below HB5.out)
      have HX5 := Lib.hid ((hb5.block X (by have := block_lt HX4.out; have := HY.out; omega)).trans HX4.out)
      have hYz5 : Y ≤ w5.heap.size := by have := hb5.size; have := HY.out; omega
      have HB45 := Lib.hid hb5
      clear hown5 hgr5 hb5 x0 x1 x2 x3 x4 HV1 HV2 HBV HVw
      have HX2 : Hid ((Value.slice A n c) = .slice A l.length c) := Lib.hid (by rw [HL.out])
      go_wp2_with (at_builtin; refine wpList_append_sk rfl (.tmp 46) (.tmp 47) 32 rfl i0 _ 56 Try.underlying32 Hi.out.1 Hi.out.2.1 Hi.out.2.2.1 Hi.out.2.2.2 rfl (by decide) irC_len irC_one Y _ [x] rfl ?qd A c l HX2.out ?qe HA.out ?qf ?qg hYz5 ?_)
      case qd => exact HR5.out
      case qe => have h9 := HS5.out; rw [← HL.out] at h9; exact h9
      case qf => have := HL.out; unfold maxLen; simp; omega
      case qg => have := HL.out; simp; omega
      refine Lib.hid ?_
      intro v6 w6 hown6 hgr6
      have HB6 : Hid (Below w.heap.size w w6) := Lib.hid (HB4.out.trans ((HB45.out.grown hgr6 hYz5 (fun k e => (HR5.out.from _ e).1)).mono (by have := HB4.out.size; have := HY.out; omega)))
      have HX6 := Lib.hid (((HB45.out.grown hgr6 hYz5 (fun k e => (HR5.out.from _ e).1)).block X (by have := block_lt HX4.out; have := HY.out; omega)).trans HX4.out)
      have hown6b : irRow w6 Y v6 (x :: l) := hown6
      obtain ⟨A6, c6, rfl, hS6, _⟩ := SK.of_row irC_len hown6b
      have HC2 := Lib.hid (HCh.out A6 _ c6 (x :: l) w6 hS6 (by rw [List.length_cons, HL.out]; unfold maxLen; omega))
      clear hown6 hgr6 hown6b hS6 HR5 HS5 HX2
      go_wp2_with fail
      refine HC2.out.mono ?_
      rintro e w7 h7
      obtain ⟨he, hb7⟩ := h7.is HP.out
      obtain ⟨kp, hkp⟩ : ∃ k, cK p = k := ⟨_, rfl⟩
      rw [HA2.out, hkp] at he
      subst he
      have HB7 : Hid (Below w.heap.size w w7) := Lib.hid (HB6.out.trans (hb7.mono HB6.out.size))
      have HXb7 := Lib.hid ((hb7.block X (block_lt HX6.out)).trans HX6.out)
      clear hb7 h7 HC2 hkp HXb
      have HXb := HXb7
      have HSl : Hid (SK irC 5 w7 A l.length l) := Lib.hid (by have h9 := HS.out.below HB7.out; rw [← HL.out] at h9; exact h9)
      have HNn : Hid ((Value.slice A n c) = .slice A l.length c) := Lib.hid (by rw [HL.out])
      have HLen : Hid (l.length ≤ 60) := Lib.hid (by rw [HL.out]; omega)
      obtain ⟨k, hk⟩ : ∃ k, cK q = k := ⟨_, rfl⟩
      have HCt : Hid (∀ A5 c5 W, SK irC 5 W A5 (l ++ [x]).length (l ++ [x]) → Calls Try.prog 19 #[.slice A5 (l ++ [x]).length c5, .string s, .string d, .bool true] W fun e w' => e = .returned (.tuple #[.bool a, .int .i64 k]) ∧ Below W.heap.size W w') := Lib.hid fun A5 c5 W h9 => (HCh.out A5 _ c5 (l ++ [x]) W h9 (by have := HLen.out; rw [List.length_append]; unfold maxLen; simp; omega)).mono fun e w2 h8 => by
        have h7 := h8.is HQ.out
        rw [HA3.out, hk] at h7
        exact h7
      clear hk
      go_wp2_with fail
      have hre : ∀ w : World, ((fun _ _ : World => True)) w w := (fun _ => trivial)
      have hrd : ∀ (ops9 : Array Oper) (f9 : Nat → Bool) (e9 : Nat → Value) (w9 : World) (i9 : Nat) (v9 : Value) (e8 : Nat → Value), [0, 2, 4, 5].contains i9 = false → (ApI x l w7) f9 e9 w9 → Go.Rel.Put ops9 i9 e9 v9 e8 → (ApI x l w7) (Go.Rel.upd f9 i9) e8 w9 := (fun _ _ _ _ _ _ _ hj h hp => h.keep hj hp)
      refine Go.Rel.wp_tabe (by kernel_rfl) (by kernel_rfl) (ApI x l w7) ((fun _ _ : World => True)) hre ((fun _ _ _ _ _ => trivial)) (trivial) ApI.start (apdE X s d A n c x a k) (fun | 0, v, w => True | 2, v, w => True | 4, v, w => True | 5, v, w => True | _, _, _ => True) (fun i => ([0, 2, 4, 5] : List Nat).contains i) (fun i => ([0, 2, 3, 4, 5, 8] : List Nat).contains i) (by kernel_rfl) (fun i v w w' h g => by revert h; split <;> exact id) [0, 2, 4, 5] (by decide) (hrd _) ?_ (Go.Rel.AllOf.get ?_) ?_
      · repeat (refine .cons (by first | exact Go.Rel.pure_sp rfl | exact Go.Rel.pure_yes (by kernel_rfl) (fun _ => by kernel_rfl) | exact Go.Rel.pure_no (by kernel_rfl) rfl) ?_)
        exact .nil
      · refine ⟨?_, ?_, ?_, ?_, ?_, ?_, trivial⟩
        · refine SpecE.gen (fun e => []) rfl rfl (fun _ => by kernel_rfl) fun f w' e hI hf hdesc hanc hle hX K hK => ?_
          have z2 : f 2 = false := hdesc 60 2 (by kernel_rfl)
          go_simp
          exact hK _ _ trivial (fun e' hp => hI.op0 z2 rfl hp) trivial
        · refine SpecE.gen (fun e => [(55, e 0), (56, .slice A n c)]) rfl rfl (fun _ => by kernel_rfl) fun f w' e hI hf hdesc hanc hle hX K hK => ?_
          have z0 : f 0 = true := hanc 60 0 (by kernel_rfl)
          have z5 : f 5 = false := hdesc 60 5 (by kernel_rfl)
          obtain ⟨Z, k1, k2, k3⟩ := hI.r0 z0 hf
          obtain ⟨v3, w3, hr3, ho3, hg3⟩ := run_append_sk (P := Try.prog) 32 32 i0 _ 56 Try.underlying32 Hi.out.1 Hi.out.2.1 Hi.out.2.2.1 Hi.out.2.2.2 rfl (by decide) irC_len l (fun y _ => irC_one y) w7.heap.size _ [] (irRow.none k3 k2) A c (HSl.out.below hI.below) HA.out (by have := HLen.out; unfold maxLen; simp; omega) (by have := HLen.out; simp; omega) hI.below.size
          exact runs_append (.tmp 55) (.tmp 56) 32 rfl k1 HNn.out hr3 (hK _ _ trivial (fun e' hp => hI.op2 z5 k2 k3 ho3 hg3 rfl hp) trivial)
        · exact SpecE.ld (hrd _) hre (q := .pointer (some ⟨X, 0, none⟩)) (h := fun _ w' _ hI _ _ _ _ => by obtain ⟨x0, x1, x2, x3, x4⟩ := ir_blk ((hI.below.block X (block_lt HXb.out)).trans HXb.out); go_simp; rfl)
        · refine SpecE.gen (fun e => [(58, .agg #[.string x.src, .string x.dst, .bool x.allow, .int .u64 (x.made : Int), .int .u64 (x.ix : Int)])]) rfl rfl (fun _ => by kernel_rfl) fun f w' e hI hf hdesc hanc hle hX K hK => ?_
          go_simp
          exact hK _ _ trivial (fun e' hp => hI.op4 rfl hp) trivial
        · refine SpecE.gen (fun e => [(57, e 2), (59, e 4)]) rfl rfl (fun _ => by kernel_rfl) fun f w' e hI hf hdesc hanc hle hX K hK => ?_
          have z2 : f 2 = true := hanc 60 2 (by kernel_rfl)
          have z4 : f 4 = true := hanc 60 4 (by kernel_rfl)
          have r2 := hI.r2 z2 hf
          obtain ⟨Y, k1, k2, k3⟩ := hI.r4 z4 hf
          obtain ⟨v3, w3, hr3, ho3, hg3⟩ := run_append_sk (P := Try.prog) 32 32 i0 _ 56 Try.underlying32 Hi.out.1 Hi.out.2.1 Hi.out.2.2.1 Hi.out.2.2.2 rfl (by decide) irC_len [x] (fun y _ => irC_one y) w7.heap.size _ l r2 (some ⟨Y, 0, none⟩) 1 (sk_one k3) (fun e => by cases e) (by have := HLen.out; unfold maxLen; simp; omega) (by have := HLen.out; simp; omega) hI.below.size
          exact runs_append (.tmp 57) (.tmp 59) 32 rfl rfl k1 hr3 (hK _ _ trivial (fun e' hp => hI.op5 z2 ho3 (hI.below.grown hg3 hI.below.size (fun k e => (r2.from k e).1)) rfl hp) trivial)
        · refine SpecE.gen (fun e => [(60, e 5), (61, .string s), (62, .string d)]) rfl rfl (fun _ => by kernel_rfl) fun f w' e hI hf hdesc hanc hle hX K hK => ?_
          go_simp
          have r5 := hI.r5 (hanc 60 5 (by kernel_rfl))
          obtain ⟨A5, c5, e9, hS5, _⟩ := SK.of_row irC_len r5
          rw [e9]
          refine (HCt.out A5 c5 w' hS5).mono ?_
          rintro e8 w9 ⟨rfl, hb9⟩
          exact hK _ _ trivial (fun e' hp => (hI.down hb9).keep (by decide) hp) rfl
      · intro f w8 e hall hJ hle hv
        have HJ := Lib.hid hJ.below
        have v9 := hv 9 rfl
        have v10 := hv 10 rfl
        have v11 := hv 11 rfl
        have v12 := hv 12 rfl
        have v13 := hv 13 rfl
        simp only [Go.Rel.finL, List.setIfInBounds_toArray, List.set_cons_succ, List.set_cons_zero]
        rw [show e 12 = .bool a from v12]
        clear hv hall hle hJ v9 v10 v11 v12 v13
        have HB8 : Hid (Below w.heap.size w w8) := Lib.hid (HB7.out.trans (HJ.out.mono HB7.out.size))
        go_wp2_with fail
        refine (HWk.out w8).mono ?_
        rintro e w9 ⟨rfl, hb9⟩
        have HB9 := Lib.hid (HB8.out.trans (hb9.mono HB8.out.size))
        clear hb9
        go_wp2
        go_ret
        exact ⟨rfl, HB9.out⟩
end Go.Proofs.Ytmegfkclpjddgaa
