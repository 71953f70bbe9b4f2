/-
  Choose: a range over what applies, walked (layer 17).
-/
import Derived.Test.YtmegfkclpjddgaaZj35
import Derived.Test.YtmegfkclpjddgaaZj18
import Derived.Test.YtmegfkclpjddgaaZj36
import Derived.Sort.BigQuietIn
namespace Go.Proofs.Ytmegfkclpjddgaa
open Go.RowKit Go.Shelf Go.Rel
set_option linter.unusedSimpArgs false
set_option linter.unusedVariables false
attribute [local go_sem] Oper.semAt_some

def chN : Nat → Value → Prop
  | 0, v => v = .int .i64 (-1)
  | 1, v => v = .bool true
  | 2, v => v = .bool true
  | 11, v => v = .bool true
  | _, _ => True
def chB (X : Nat) (Bx : Nat) (bb : Nat) (off : Nat) (L : Nat) (c : Nat) (k0 : Nat) (p : Nat × Ir) (y : Ir) (u : Bool) : Nat → Value → Prop
  | 0, v => v = .int .i64 (k0 : Int)
  | 1, v => v = .bool false
  | 2, v => v = .bool false
  | 3, v => v = .agg #[.string p.2.src, .string p.2.dst, .bool p.2.allow, .int .u64 (p.2.made : Int), .int .u64 (p.2.ix : Int)]
  | 4, v => v = .int .i64 (p.2.rank : Int)
  | 5, v => v = .slice (some ⟨bb, off, none⟩) L c
  | 6, v => v = .int .i64 (k0 : Int)
  | 7, v => v = .pointer (some ⟨bb, off + k0 * 5, none⟩)
  | 8, v => v = .agg #[.string y.src, .string y.dst, .bool y.allow, .int .u64 (y.made : Int), .int .u64 (y.ix : Int)]
  | 9, v => v = .int .i64 (y.rank : Int)
  | 10, v => v = .bool u
  | 11, v => v = .bool u
  | _, _ => True
/-- A round's frame. -/
def chMk (sv : Value) (s d : ByteArray) (b : Bool) (X : Nat) (fv : Value) (p : Nat × Ir) (Bx : Nat) : Act := { tmps := #[sv, .string s, .string d, .bool b, .pointer (some ⟨X, 0, none⟩), undef, undef, undef, .bool false, .int .i64 0, .pointer (some ⟨X + 1, 0, none⟩), .pointer (some ⟨X + 1 + 1, 0, none⟩), .int .i64 (p.1 : Int), .pointer (some ⟨Bx, 0, none⟩), .bool b, sv, .string s, .string d, fv, .int .i64 (p.1 : Int), irV p.2, undef, undef, undef, undef, undef, undef, undef, undef, undef, undef, undef, undef, undef, undef, undef, undef, undef], defers := [] }
/-- What a round's frame knows. -/
def chAx (l : List Ir) (s d : ByteArray) (sv : Value) (b : Bool) (X : Nat) (fv : Value) (pre : List (Nat × Ir)) (p : Nat × Ir) (a : Act) (W : World) : Prop := nextA l s d pre p W ∧ ∃ Bx, W.heap[Bx]? = some (.cells #[.string p.2.src, .string p.2.dst, .bool p.2.allow, .int .u64 (p.2.made : Int), .int .u64 (p.2.ix : Int)] TIn (0, 0)) ∧ a = chMk sv s d b X fv p Bx
/-- What holds between two rounds. -/
def ChI (b : Bool) (X : Nat) (W1 : World) (pre : List (Nat × Ir)) (W : World) : Prop := W.heap[X + 1]? = some (.cells #[.bool (saidB b (bestI pre))] 4 (0, 0)) ∧ W.heap[X + 1 + 1]? = some (.cells #[.int .i64 (saidK (bestI pre))] 3 (0, 0)) ∧ Below (X + 1) W1 W
theorem rowsB_ir {W : World} {A : Option Addr} {n : Nat} {l : List Ir} (h : SK irC 5 W A n l) : ∀ k, RowsB A n k → k < W.heap.size := fun k ⟨off, e, hn⟩ => by
  obtain ⟨b, off', e', hb, _⟩ := h.2 hn
  rw [e] at e'
  cases e'
  exact hb
theorem keepsI {B : Nat} {W W' : World} {D : Nat → Prop} (hb : But D W W') (hD : ∀ k, D k → ∃ o, W.heap[k]? = some o ∧ o.isCells = true) : KeepsFrom B W W' :=
  ⟨hb.size, fun k o _ hk hc => (hb.block k (block_lt hk) (fun e => by
    obtain ⟨o2, h2, h3⟩ := hD k e
    rw [hk] at h2
    cases h2
    rw [hc] at h3
    cases h3)).trans hk⟩
theorem ChI.own {b : Bool} {X B : Nat} {W1 : World} (h1 : X + 1 ≤ W1.heap.size) (hB : X + 3 ≤ B) : OwnFrom B (ChI b X W1) := fun s W W' row hs hg hr =>
  ⟨(grownBy_keeps_cells hg (fun r e => (hr r e).2) hs.1 rfl).trans hs.1, (grownBy_keeps_cells hg (fun r e => (hr r e).2) hs.2.1 rfl).trans hs.2.1, hs.2.2.grown hg (Nat.le_trans h1 hs.2.2.size) (fun k e => by have := (hr k e).1; omega)⟩
theorem chAx_own (l : List Ir) (s d : ByteArray) (sv : Value) (b : Bool) (X B : Nat) (fv : Value) (pre : List (Nat × Ir)) (p : Nat × Ir) (a : Act) : OwnFrom B (fun (_ : Unit) W => chAx l s d sv b X fv pre p a W) := fun _ _ _ _ ⟨hx, Bx, h, e⟩ hg hr =>
  ⟨hx, Bx, (grownBy_keeps_cells hg (fun r e => (hr r e).2) h rfl).trans h, e⟩
set_option maxHeartbeats 8000000 in
set_option maxRecDepth 100000 in
theorem choose_any (A : Option Addr) (n c : Nat) (l : List Ir) (s d : ByteArray) (b : Bool) (w : World) (hS : SK irC 5 w A n l) (hn : n ≤ maxLen) (hs : s.size ≤ maxLen) (hd : d.size ≤ maxLen) :
    Calls Try.prog 19 #[.slice A n c, .string s, .string d, .bool b] w (ChPost w l s d b) := by
  refine (callsIn_wide (n := 5)).1 ?_
  obtain rfl : l.length = n := hS.1
  obtain ⟨X, hX⟩ : ∃ X, w.heap.size = X := ⟨_, rfl⟩
  obtain ⟨W1, hW1⟩ : ∃ W1, w.alloc (.cells #[.slice A l.length c] 32) = W1 := ⟨_, rfl⟩
  have b1 : Below w.heap.size w W1 := by rw [← hW1]; exact below1 _ _ _
  have s1 : W1.heap.size = X + 1 := by rw [← hW1, ← hX]; simp
  have k1 : W1.heap[X]? = some (.cells #[.slice A l.length c] 32 (0, 0)) := by rw [← hW1, ← hX]; exact heap_alloc_new w _
  obtain ⟨W3, hW3⟩ : ∃ W3, (W1.alloc (.cells #[.bool b] 4)).alloc (.cells #[.int .i64 (-1)] 3) = W3 := ⟨_, rfl⟩
  have k2 : W3.heap[X + 1]? = some (.cells #[.bool b] 4 (0, 0)) ∧ W3.heap[X + 1 + 1]? = some (.cells #[.int .i64 (-1)] 3 (0, 0)) ∧ Below (X + 1) W1 W3 ∧ W3.heap.size = X + 3 := by
    have q1 : (W1.alloc (.cells #[.bool b] 4)).heap[X + 1]? = some (.cells #[.bool b] 4 (0, 0)) := by rw [← s1]; exact heap_alloc_new _ _
    have z2 : (W1.alloc (.cells #[.bool b] 4)).heap.size = X + 1 + 1 := by simp [s1]
    have q2 : ((W1.alloc (.cells #[.bool b] 4)).alloc (.cells #[.int .i64 (-1)] 3)).heap[X + 1 + 1]? = some (.cells #[.int .i64 (-1)] 3 (0, 0)) := by rw [← z2]; exact heap_alloc_new _ _
    have q3 := ((below1 (W1.alloc (.cells #[.bool b] 4)) #[.int .i64 (-1)] 3).block (X + 1) (by rw [z2]; omega)).trans q1
    refine ⟨by rw [← hW3]; exact q3, by rw [← hW3]; exact q2, ?_, by rw [← hW3]; simp [s1]⟩
    rw [← hW3, ← s1]
    exact ((Below.refl _ W1).alloc (Nat.le_refl _) _).alloc (by simp) _
  obtain ⟨k2, k3, b3, s3⟩ := k2
  have HAp := Lib.hid (applying_any A l.length c s d W3)
  obtain ⟨W6, hW6⟩ : ∃ W6, ((W3.alloc (.cells #[.slice A l.length c] 32)).alloc (.cells #[.string s] 9)).alloc (.cells #[.string d] 9) = W6 := ⟨_, rfl⟩
  rw [hW6, s3] at HAp
  have k6 : W6.heap[X + 3]? = some (.cells #[.slice A l.length c] 32 (0, 0)) ∧ W6.heap[X + 3 + 1]? = some (.cells #[.string s] 9 (0, 0)) ∧ W6.heap[X + 3 + 2]? = some (.cells #[.string d] 9 (0, 0)) ∧ Below W3.heap.size W3 W6 ∧ W6.heap.size = X + 6 := by
    obtain ⟨V1, hV1⟩ : ∃ V1, W3.alloc (.cells #[.slice A l.length c] 32) = V1 := ⟨_, rfl⟩
    obtain ⟨V2, hV2⟩ : ∃ V2, V1.alloc (.cells #[.string s] 9) = V2 := ⟨_, rfl⟩
    rw [hV1, hV2] at hW6
    have z1 : V1.heap.size = X + 4 := by rw [← hV1]; simp [s3]
    have z2 : V2.heap.size = X + 5 := by rw [← hV2]; simp [z1]
    have y1 : V1.heap[X + 3]? = some (.cells #[.slice A l.length c] 32 (0, 0)) := by rw [← hV1, ← s3]; exact heap_alloc_new _ _
    have y2 : V2.heap[X + 3 + 1]? = some (.cells #[.string s] 9 (0, 0)) := by rw [← hV2, show X + 3 + 1 = V1.heap.size by omega]; exact heap_alloc_new _ _
    have y3 : W6.heap[X + 3 + 2]? = some (.cells #[.string d] 9 (0, 0)) := by rw [← hW6, show X + 3 + 2 = V2.heap.size by omega]; exact heap_alloc_new _ _
    have g1 : Below W3.heap.size W3 V1 := by rw [← hV1]; exact below1 _ _ _
    have g2 : Below V1.heap.size V1 V2 := by rw [← hV2]; exact below1 _ _ _
    have g3 : Below V2.heap.size V2 W6 := by rw [← hW6]; exact below1 _ _ _
    exact ⟨(g3.block _ (by omega)).trans ((g2.block _ (by omega)).trans y1), (g3.block _ (by omega)).trans y2, y3, (g1.trans (g2.mono g1.size)).trans (g3.mono (by omega)), by rw [← hW6]; simp [z2]⟩
  obtain ⟨y1, y2, y3, b6, s6⟩ := k6
  have b13 : Below (X + 1) W1 W6 := b3.trans (b6.mono (by omega))
  have hR6 : SK irC 5 W6 A l.length l := (hS.below b1).below (by rw [s1]; exact b13)
  have HSeq := Lib.hid (apply_tells (fun k => k = X + 1 ∨ k = X + 1 + 1) 4 (by omega) (X + 3) c A l s d W6 hn hs hd (fun k hk => by have := rowsB_ir hS k hk; omega) (by omega) (by omega) y1 y2 y3 hR6)
  have HI0 : Hid (ChI b X W1 [] W6) := Lib.hid ⟨(b6.block _ (by omega)).trans k2, (b6.block _ (by omega)).trans k3, b13⟩
  have HB1 := Lib.hid b1
  have HS1 := Lib.hid s1
  have HK1 := Lib.hid k1
  have HX := Lib.hid hX
  have HW1 := Lib.hid hW1
  have HW3 := Lib.hid hW3
  have HW6 := Lib.hid hW6
  have HS3 := Lib.hid s3
  have HS6 := Lib.hid s6
  have HSl := Lib.hid (And.intro hS hn)
  clear hS hn hs hd hX hW1 b1 s1 k1 hW3 k2 k3 b3 s3 hW6 y1 y2 y3 b6 s6 b13 hR6
  refine callsIn_of_wp_marks Try.func19 rfl trivial ?_ rfl
  simp only [Try.ntmps19, List.size_toArray, List.length_cons, List.length_nil, Nat.reduceAdd, Nat.reduceSub, Array.replicate_succ, Array.replicate_zero, List.push_toArray, List.append_toArray, List.nil_append, List.cons_append]
  gi_wp2_with fail
  rw [HW1.out, HX.out, HW3.out]
  refine ⟨trivial, (callsIn_wide.2 HAp.out).mono ?_⟩
  rintro e w6 ⟨rfl, rfl⟩
  gi_wp2
  refine wpIn_range_p rfl (by omega) (gf := 70) (lb := #[.pointer (some ⟨X + 3, 0, none⟩), .pointer (some ⟨X + 3 + 1, 0, none⟩), .pointer (some ⟨X + 3 + 2, 0, none⟩)]) (by simp [go_sem]) trivial (enters_of Try.func70 (by kernel_rfl) rfl) HSeq.out kpD_t (fun W o' o h => kpD_b W o' o h) (Below.refl _ _) (fun _ => rfl)
    (ChI b X W1)
    (fun _ _ _ => False)
    (ChI.own (by have := HS1.out; omega) (by have := HS6.out; omega))
    (fun _ _ _ _ _ hs _ _ => hs)
    HI0.out
    (chAx l s d (.slice A l.length c) b X (.func (.func 70) #[] #[.pointer (some ⟨X + 3, 0, none⟩), .pointer (some ⟨X + 3 + 1, 0, none⟩), .pointer (some ⟨X + 3 + 2, 0, none⟩)]))
    (chAx_own _ _ _ _ _ _ _ _) ?assign ?body ?done ?stop
  case assign =>
    rintro l2 pre p Wc K hI hnx hK
    unfold apEncs irV
    have hb := below1 Wc #[.string p.2.src, .string p.2.dst, .bool p.2.allow, .int .u64 (p.2.made : Int), .int .u64 (p.2.ix : Int)] TIn
    have hn := heap_alloc_new Wc (.cells #[.string p.2.src, .string p.2.dst, .bool p.2.allow, .int .u64 (p.2.made : Int), .int .u64 (p.2.ix : Int)] TIn)
    have hkk : KpD (fun k => k = X + 1 ∨ k = X + 1 + 1) Wc (Wc.alloc (.cells #[.string p.2.src, .string p.2.dst, .bool p.2.allow, .int .u64 (p.2.made : Int), .int .u64 (p.2.ix : Int)] TIn)) := kpD_of hb
    have hI2 : ChI b X W1 pre (Wc.alloc (.cells #[.string p.2.src, .string p.2.dst, .bool p.2.allow, .int .u64 (p.2.made : Int), .int .u64 (p.2.ix : Int)] TIn)) := ChI.own (B := X + 3) (by have := HS1.out; omega) (Nat.le_refl _) pre _ _ none hI (World.grownBy_alloc _ _ none) (fun r e => by cases e)
    have H := Lib.hid (And.intro hb (And.intro hn hkk))
    have HKK := Lib.hid hK
    have HI2 := Lib.hid hI2
    have HNx := Lib.hid hnx
    clear hb hn hK hI hI2 hkk hnx
    gi_wp2
    exact HKK.out _ _ (keepsFrom_below H.out.1) H.out.2.2 HI2.out ⟨HNx.out, _, H.out.2.1, rfl⟩
  case body =>
    rintro l2 pre p a' W hl ⟨r0, hr0⟩ ⟨hA, hT, hB⟩ ⟨hnx, Bx, hx, rfl⟩ hlt
    obtain ⟨hp1, hp2, hp3⟩ := hnx
    have HA := Lib.hid hA
    have HXt := Lib.hid hT
    have HBx := Lib.hid hx
    have hp9 : p.1 < l.length := (List.getElem?_eq_some_iff.1 hp2).1
    have HXl := Lib.hid ((hB.block X (by omega)).trans HK1.out)
    have hSW : SK irC 5 W A l.length l := (HSl.out.1.below HB1.out).below (by rw [HS1.out]; exact hB)
    have HRx := Lib.hid (fun W => (rank_any p.2 W).mono fun e w2 ⟨h1, h2⟩ => (show e = Ending.returned (.int .i64 (p.2.rank : Int)) ∧ Below W.heap.size W w2 from ⟨h1, by rw [h2]; exact below1 _ _ _⟩))
    unfold irV at HRx
    have HSn := Lib.hid (best_snoc pre p)
    have HFin : Hid (∀ w9 w8, Below W.heap.size W w9 → But (fun k => k = X + 1 ∨ k = X + 1 + 1) w9 w8 → w8.heap[X + 1]? = some (.cells #[.bool (saidB b (bestI (pre ++ [p])))] 4 (0, 0)) → w8.heap[X + 1 + 1]? = some (.cells #[.int .i64 (saidK (bestI (pre ++ [p])))] 3 (0, 0)) → KeepsFrom w6.heap.size W w8 ∧ KpD (fun k => k = X + 1 ∨ k = X + 1 + 1) W w8 ∧ ChI b X W1 (pre ++ [p]) w8) := Lib.hid fun w9 w8 k1 k2 k3 k4 => by
      have k5 : But (fun k => k = X + 1 ∨ k = X + 1 + 1) W w8 := (But.of_below k1).trans k2
      refine ⟨keepsI k5 fun k e => ?_, kpD_but k5, k3, k4, hB.trans (k5.below (Nat.le_trans (by have := HS1.out; omega) hB.size) fun k hk e => by omega)⟩
      rcases e with rfl | rfl
      · exact ⟨_, hA, rfl⟩
      · exact ⟨_, hT, rfl⟩
    unfold chMk irV
    cases hbest : bestI pre with
    | none =>
      rw [hbest] at HA HXt HSn
      have HXt : Hid (W.heap[X + 1 + 1]? = some (.cells #[.int .i64 (-1)] 3 (0, 0))) := HXt
      have e1 : bestI (pre ++ [p]) = some p := HSn.out
      rw [e1] at HFin
      have HF := Lib.hid HFin.out
      clear hA hT hB hx hp1 hp2 hp3 hSW hr0 hlt hbest e1 HFin HSn
      gi_wp2_with fail
      refine Go.Rel.wpIn_region_grew (by kernel_rfl) (by kernel_rfl) (by kernel_rfl) (by kernel_rfl) (fun i v _ => chN  i v) (fun _ _ _ _ h _ => h) ?hsn ?hen
      case hsn =>
        refine .cons ?_ (.cons ?_ (.cons ?_ (.cons ?_ (.cons ?_ (.cons ?_ (.cons ?_ (.cons ?_ (.cons ?_ (.cons ?_ (.cons ?_ (.cons ?_ (.nil))))))))))))
        · intro a w' hle hs' hd K hK
          have f11 : a.tmps[11]? = some (.pointer (some ⟨X + 1 + 1, 0, none⟩)) := hs'.2.2 11 (by kernel_rfl)
          have ct := cellsN ((hle.block (X + 1 + 1) (block_lt HXt.out)).trans HXt.out) 0 _ rfl
          unfold Go.Rel.stepIn
          go_simp
          exact hK _ _ (Go.Rel.Grew.refl _) rfl
        · intro a w' hle hs' hd K hK
          obtain ⟨_, t0, rfl⟩ := hd 0 21 (by kernel_rfl)
          unfold Go.Rel.stepIn
          go_simp
          exact hK _ _ (Go.Rel.Grew.refl _) rfl
        · intro a w' hle hs' hd K hK
          obtain ⟨_, t1, rfl⟩ := hd 1 22 (by kernel_rfl)
          unfold Go.Rel.stepIn
          go_simp
          exact hK _ _ (Go.Rel.Grew.refl _) rfl
        · intro a w' hle hs' hd K hK
          obtain ⟨_, tg, rfl⟩ := hd 2 23 (by kernel_rfl)
          unfold Go.Rel.stepIn
          go_simp
          first
            | exact hK _ _ (Go.Rel.Grew.refl _) trivial
            | exact ⟨trivial, hK _ _ (Go.Rel.Grew.refl _) trivial⟩
            | exact ⟨(fun _ h => by cases h), hK _ _ (Go.Rel.Grew.refl _) trivial⟩
        · intro a w' hle hs' hd K hK
          obtain ⟨_, tg, rfl⟩ := hd 2 23 (by kernel_rfl)
          unfold Go.Rel.stepIn
          go_simp
          first
            | exact hK _ _ (Go.Rel.Grew.refl _) trivial
            | exact ⟨trivial, hK _ _ (Go.Rel.Grew.refl _) trivial⟩
            | exact ⟨(fun _ h => by cases h), hK _ _ (Go.Rel.Grew.refl _) trivial⟩
        · intro a w' hle hs' hd K hK
          obtain ⟨_, tg, rfl⟩ := hd 2 23 (by kernel_rfl)
          unfold Go.Rel.stepIn
          go_simp
          first
            | exact hK _ _ (Go.Rel.Grew.refl _) trivial
            | exact ⟨trivial, hK _ _ (Go.Rel.Grew.refl _) trivial⟩
            | exact ⟨(fun _ h => by cases h), hK _ _ (Go.Rel.Grew.refl _) trivial⟩
        · intro a w' hle hs' hd K hK
          obtain ⟨_, tg, rfl⟩ := hd 2 23 (by kernel_rfl)
          unfold Go.Rel.stepIn
          go_simp
          first
            | exact hK _ _ (Go.Rel.Grew.refl _) trivial
            | exact ⟨trivial, hK _ _ (Go.Rel.Grew.refl _) trivial⟩
            | exact ⟨(fun _ h => by cases h), hK _ _ (Go.Rel.Grew.refl _) trivial⟩
        · intro a w' hle hs' hd K hK
          obtain ⟨_, tg, rfl⟩ := hd 2 23 (by kernel_rfl)
          unfold Go.Rel.stepIn
          go_simp
          first
            | exact hK _ _ (Go.Rel.Grew.refl _) trivial
            | exact ⟨trivial, hK _ _ (Go.Rel.Grew.refl _) trivial⟩
            | exact ⟨(fun _ h => by cases h), hK _ _ (Go.Rel.Grew.refl _) trivial⟩
        · intro a w' hle hs' hd K hK
          obtain ⟨_, tg, rfl⟩ := hd 2 23 (by kernel_rfl)
          unfold Go.Rel.stepIn
          go_simp
          first
            | exact hK _ _ (Go.Rel.Grew.refl _) trivial
            | exact ⟨trivial, hK _ _ (Go.Rel.Grew.refl _) trivial⟩
            | exact ⟨(fun _ h => by cases h), hK _ _ (Go.Rel.Grew.refl _) trivial⟩
        · intro a w' hle hs' hd K hK
          obtain ⟨_, tg, rfl⟩ := hd 2 23 (by kernel_rfl)
          unfold Go.Rel.stepIn
          go_simp
          first
            | exact hK _ _ (Go.Rel.Grew.refl _) trivial
            | exact ⟨trivial, hK _ _ (Go.Rel.Grew.refl _) trivial⟩
            | exact ⟨(fun _ h => by cases h), hK _ _ (Go.Rel.Grew.refl _) trivial⟩
        · intro a w' hle hs' hd K hK
          obtain ⟨_, tg, rfl⟩ := hd 2 23 (by kernel_rfl)
          unfold Go.Rel.stepIn
          go_simp
          first
            | exact hK _ _ (Go.Rel.Grew.refl _) trivial
            | exact ⟨trivial, hK _ _ (Go.Rel.Grew.refl _) trivial⟩
            | exact ⟨(fun _ h => by cases h), hK _ _ (Go.Rel.Grew.refl _) trivial⟩
        · intro a w' hle hs' hd K hK
          obtain ⟨_, t2, rfl⟩ := hd 2 23 (by kernel_rfl)
          unfold Go.Rel.stepIn
          go_simp
          exact hK _ _ (Go.Rel.Grew.refl _) rfl
      case hen =>
        intro a w9 hle hs' hR2
        obtain ⟨_, s21, rfl⟩ := hR2 0 21 (by kernel_rfl)
        obtain ⟨_, s22, rfl⟩ := hR2 1 22 (by kernel_rfl)
        obtain ⟨_, s23, rfl⟩ := hR2 2 23 (by kernel_rfl)
        obtain ⟨u24, s24, _⟩ := hR2 3 24 (by kernel_rfl)
        obtain ⟨u25, s25, _⟩ := hR2 4 25 (by kernel_rfl)
        obtain ⟨u26, s26, _⟩ := hR2 5 26 (by kernel_rfl)
        obtain ⟨u27, s27, _⟩ := hR2 6 27 (by kernel_rfl)
        obtain ⟨u28, s28, _⟩ := hR2 7 28 (by kernel_rfl)
        obtain ⟨u29, s29, _⟩ := hR2 8 29 (by kernel_rfl)
        obtain ⟨u30, s30, _⟩ := hR2 9 30 (by kernel_rfl)
        obtain ⟨u31, s31, _⟩ := hR2 10 31 (by kernel_rfl)
        obtain ⟨_, s32, rfl⟩ := hR2 11 32 (by kernel_rfl)
        have e := hs'.shape
        simp only [List.toList_toArray, List.foldl, Go.Rel.reset, Array.getD_eq_getD_getElem?, s21, s22, s23, s24, s25, s26, s27, s28, s29, s30, s31, s32, Option.getD_some] at e
        simp at e
        have HLE := Lib.hid hle
        clear hR2 hs' hle s21 s22 s23 s24 s25 s26 s27 s28 s29 s30 s31 s32
        subst e
        have ha9 := (HLE.out.block (X + 1) (block_lt HA.out)).trans HA.out
        have ht9 := (HLE.out.block (X + 1 + 1) (block_lt HXt.out)).trans HXt.out
        have hx9 := (HLE.out.block Bx (block_lt HBx.out)).trans HBx.out
        obtain ⟨x0, x1, x2, x3, x4⟩ := ir_blk hx9
        have z1 := blk_froz ha9 0
        have z2 := blk_froz ht9 0
        have v1 := cellsN ha9 0 _ rfl
        have v2 := cellsN ht9 0 _ rfl
        have l1 := block_lt ha9
        have l2 := block_lt ht9
        have H9 := Lib.hid (And.intro ha9 ht9)
        clear ha9 ht9 hx9
        gi_wp2
        have q1 := block_set H9.out.1 0 (.bool p.2.allow)
        have q2 := ((But.set (S := (· = X + 1)) w9 (p := ⟨X + 1, 0, none⟩) rfl (.bool p.2.allow)).block (X + 1 + 1) (block_lt H9.out.2) (by omega)).trans H9.out.2
        have q3 := block_set q2 0 (.int .i64 (p.1 : Int))
        have q4 := ((But.set (S := (· = X + 1 + 1)) (w9.setCell ⟨X + 1, 0, none⟩ (.bool p.2.allow)) (p := ⟨X + 1 + 1, 0, none⟩) rfl (.int .i64 (p.1 : Int))).block (X + 1) (block_lt q1) (by omega)).trans q1
        exact HF.out _ _ HLE.out (((But.set (S := (· = X + 1)) _ rfl _).mono (fun _ e => .inl e)).trans ((But.set (S := (· = X + 1 + 1)) _ rfl _).mono (fun _ e => .inr e))) q4 q3
    | some py =>
      obtain ⟨k0, y⟩ := py
      obtain ⟨hk0, hy0⟩ := best_at (l := l) (s := s) (d := d) (j := p.1) (by omega) (by rw [← hp1]; exact hbest)
      rw [hbest] at HA HXt HSn
      have HXt : Hid (W.heap[X + 1 + 1]? = some (.cells #[.int .i64 (k0 : Int)] 3 (0, 0))) := HXt
      have hkl : k0 < l.length := by omega
      obtain ⟨bb, off, hAe, hbl, hit⟩ := hSW.at_ hkl hkl
      have hyk : l[k0] = y := by rw [List.getElem?_eq_getElem hkl] at hy0; exact Option.some.inj hy0
      rw [hyk] at hit
      have HIt : Hid (∀ w2, Below W.heap.size W w2 → ItAt irC w2 bb (off + k0 * 5) y) := Lib.hid fun w2 h2 => hit.of_block (h2.block bb hbl)
      have HRy := Lib.hid (fun W => (rank_any y W).mono fun e w2 ⟨h1, h2⟩ => (show e = Ending.returned (.int .i64 (y.rank : Int)) ∧ Below W.heap.size W w2 from ⟨h1, by rw [h2]; exact below1 _ _ _⟩))
      unfold irV at HRy
      obtain ⟨L, hL⟩ : ∃ L, l.length = L := ⟨_, rfl⟩
      rw [hL] at hkl
      have HKL := Lib.hid hkl
      have hcases : ∃ u : Bool, decide ((y.rank : Int) < (p.2.rank : Int)) = u ∧ bestI (pre ++ [p]) = if u then some p else some (k0, y) := by
        refine ⟨decide ((y.rank : Int) < (p.2.rank : Int)), rfl, ?_⟩
        rw [HSn.out]
        unfold betI
        simp only
        by_cases hr : y.rank < p.2.rank
        · rw [if_pos hr, if_pos (by simpa using hr)]
        · rw [if_neg hr, if_neg (by simpa using hr)]
      obtain ⟨u, hu, e1⟩ := hcases
      have HU : Hid (decide (y.rank < p.2.rank) = u) := Lib.hid (by rw [← hu, decide_eq_decide]; exact Int.ofNat_lt.symm)
      rw [e1] at HFin
      have HF := Lib.hid HFin.out
      rw [hAe, hL] at HXl ⊢
      clear hA hT hB hx hp1 hp2 hp3 hSW hr0 hlt hbest e1 HFin HSn hAe hbl hit hyk hy0 hkl hL hu
      gi_wp2_with fail
      refine Go.Rel.wpIn_region_grew (by kernel_rfl) (by kernel_rfl) (by kernel_rfl) (by kernel_rfl) (fun i v _ => chB X Bx bb off L c k0 p y u i v) (fun _ _ _ _ h _ => h) ?hsb ?heb
      case hsb =>
        refine .cons ?_ (.cons ?_ (.cons ?_ (.cons ?_ (.cons ?_ (.cons ?_ (.cons ?_ (.cons ?_ (.cons ?_ (.cons ?_ (.cons ?_ (.cons ?_ (.nil))))))))))))
        · intro a w' hle hs' hd K hK
          have f11 : a.tmps[11]? = some (.pointer (some ⟨X + 1 + 1, 0, none⟩)) := hs'.2.2 11 (by kernel_rfl)
          have ct := cellsN ((hle.block (X + 1 + 1) (block_lt HXt.out)).trans HXt.out) 0 _ rfl
          unfold Go.Rel.stepIn
          go_simp
          exact hK _ _ (Go.Rel.Grew.refl _) rfl
        · intro a w' hle hs' hd K hK
          obtain ⟨_, t0, rfl⟩ := hd 0 21 (by kernel_rfl)
          have hlt0 : decide ((k0 : Int) < 0) = false := decide_eq_false (by omega)
          unfold Go.Rel.stepIn
          go_simp
          exact hK _ _ (Go.Rel.Grew.refl _) rfl
        · intro a w' hle hs' hd K hK
          obtain ⟨_, t1, rfl⟩ := hd 1 22 (by kernel_rfl)
          unfold Go.Rel.stepIn
          go_simp
          exact hK _ _ (Go.Rel.Grew.refl _) rfl
        · intro a w' hle hs' hd K hK
          obtain ⟨_, tg, rfl⟩ := hd 2 23 (by kernel_rfl)
          have f13 : a.tmps[13]? = some (.pointer (some ⟨Bx, 0, none⟩)) := hs'.2.2 13 (by kernel_rfl)
          obtain ⟨x0, x1, x2, x3, x4⟩ := ir_blk ((hle.block Bx (block_lt HBx.out)).trans HBx.out)
          unfold Go.Rel.stepIn
          go_simp
          exact hK _ _ (Go.Rel.Grew.refl _) rfl
        · intro a w' hle hs' hd K hK
          obtain ⟨_, tg, rfl⟩ := hd 2 23 (by kernel_rfl)
          obtain ⟨_, t3, rfl⟩ := hd 3 24 (by kernel_rfl)
          unfold Go.Rel.stepIn
          go_simp
          refine ⟨trivial, (callsIn_wide.2 (HRx.out w')).mono ?_⟩
          rintro e w2 ⟨rfl, hb2⟩
          exact hK _ _ hb2 rfl
        · intro a w' hle hs' hd K hK
          obtain ⟨_, tg, rfl⟩ := hd 2 23 (by kernel_rfl)
          have f4 : a.tmps[4]? = some (.pointer (some ⟨X, 0, none⟩)) := hs'.2.2 4 (by kernel_rfl)
          have cl := cellsN ((hle.block X (block_lt HXl.out)).trans HXl.out) 0 _ rfl
          unfold Go.Rel.stepIn
          go_simp
          exact hK _ _ (Go.Rel.Grew.refl _) rfl
        · intro a w' hle hs' hd K hK
          obtain ⟨_, tg, rfl⟩ := hd 2 23 (by kernel_rfl)
          have f11 : a.tmps[11]? = some (.pointer (some ⟨X + 1 + 1, 0, none⟩)) := hs'.2.2 11 (by kernel_rfl)
          have ct := cellsN ((hle.block (X + 1 + 1) (block_lt HXt.out)).trans HXt.out) 0 _ rfl
          unfold Go.Rel.stepIn
          go_simp
          exact hK _ _ (Go.Rel.Grew.refl _) rfl
        · intro a w' hle hs' hd K hK
          obtain ⟨_, tg, rfl⟩ := hd 2 23 (by kernel_rfl)
          obtain ⟨_, t5, rfl⟩ := hd 5 26 (by kernel_rfl)
          obtain ⟨_, t6, rfl⟩ := hd 6 27 (by kernel_rfl)
          have hkl := HKL.out
          have hkl2 : (k0 : Int) < (L : Int) := by omega
          unfold Go.Rel.stepIn
          go_simp
          exact hK _ _ (Go.Rel.Grew.refl _) rfl
        · intro a w' hle hs' hd K hK
          obtain ⟨_, tg, rfl⟩ := hd 2 23 (by kernel_rfl)
          obtain ⟨_, t7, rfl⟩ := hd 7 28 (by kernel_rfl)
          obtain ⟨y0, y1, y2, y3, y4⟩ := ir_cells (HIt.out w' hle)
          unfold Go.Rel.stepIn
          go_simp
          exact hK _ _ (Go.Rel.Grew.refl _) rfl
        · intro a w' hle hs' hd K hK
          obtain ⟨_, tg, rfl⟩ := hd 2 23 (by kernel_rfl)
          obtain ⟨_, t8, rfl⟩ := hd 8 29 (by kernel_rfl)
          unfold Go.Rel.stepIn
          go_simp
          refine ⟨trivial, (callsIn_wide.2 (HRy.out w')).mono ?_⟩
          rintro e w2 ⟨rfl, hb2⟩
          exact hK _ _ hb2 rfl
        · intro a w' hle hs' hd K hK
          obtain ⟨_, tg, rfl⟩ := hd 2 23 (by kernel_rfl)
          obtain ⟨_, t4, rfl⟩ := hd 4 25 (by kernel_rfl)
          obtain ⟨_, t9, rfl⟩ := hd 9 30 (by kernel_rfl)
          have hu := HU.out
          unfold Go.Rel.stepIn
          go_simp
          exact hK _ _ (Go.Rel.Grew.refl _) rfl
        · intro a w' hle hs' hd K hK
          obtain ⟨_, t2, rfl⟩ := hd 2 23 (by kernel_rfl)
          obtain ⟨_, t10, rfl⟩ := hd 10 31 (by kernel_rfl)
          unfold Go.Rel.stepIn
          go_simp
          exact hK _ _ (Go.Rel.Grew.refl _) rfl
      case heb =>
        intro a w9 hle hs' hR2
        obtain ⟨_, s21, rfl⟩ := hR2 0 21 (by kernel_rfl)
        obtain ⟨_, s22, rfl⟩ := hR2 1 22 (by kernel_rfl)
        obtain ⟨_, s23, rfl⟩ := hR2 2 23 (by kernel_rfl)
        obtain ⟨_, s24, rfl⟩ := hR2 3 24 (by kernel_rfl)
        obtain ⟨_, s25, rfl⟩ := hR2 4 25 (by kernel_rfl)
        obtain ⟨_, s26, rfl⟩ := hR2 5 26 (by kernel_rfl)
        obtain ⟨_, s27, rfl⟩ := hR2 6 27 (by kernel_rfl)
        obtain ⟨_, s28, rfl⟩ := hR2 7 28 (by kernel_rfl)
        obtain ⟨_, s29, rfl⟩ := hR2 8 29 (by kernel_rfl)
        obtain ⟨_, s30, rfl⟩ := hR2 9 30 (by kernel_rfl)
        obtain ⟨_, s31, rfl⟩ := hR2 10 31 (by kernel_rfl)
        obtain ⟨_, s32, rfl⟩ := hR2 11 32 (by kernel_rfl)
        have e := hs'.shape
        simp only [List.toList_toArray, List.foldl, Go.Rel.reset, Array.getD_eq_getD_getElem?, s21, s22, s23, s24, s25, s26, s27, s28, s29, s30, s31, s32, Option.getD_some] at e
        simp at e
        have HLE := Lib.hid hle
        clear hR2 hs' hle s21 s22 s23 s24 s25 s26 s27 s28 s29 s30 s31 s32
        subst e
        have ha9 := (HLE.out.block (X + 1) (block_lt HA.out)).trans HA.out
        have ht9 := (HLE.out.block (X + 1 + 1) (block_lt HXt.out)).trans HXt.out
        have hx9 := (HLE.out.block Bx (block_lt HBx.out)).trans HBx.out
        obtain ⟨x0, x1, x2, x3, x4⟩ := ir_blk hx9
        have z1 := blk_froz ha9 0
        have z2 := blk_froz ht9 0
        have v1 := cellsN ha9 0 _ rfl
        have v2 := cellsN ht9 0 _ rfl
        have l1 := block_lt ha9
        have l2 := block_lt ht9
        have H9 := Lib.hid (And.intro ha9 ht9)
        clear ha9 ht9 hx9
        cases u with
        | true =>
          gi_wp2
          have q1 := block_set H9.out.1 0 (.bool p.2.allow)
          have q2 := ((But.set (S := (· = X + 1)) w9 (p := ⟨X + 1, 0, none⟩) rfl (.bool p.2.allow)).block (X + 1 + 1) (block_lt H9.out.2) (by omega)).trans H9.out.2
          have q3 := block_set q2 0 (.int .i64 (p.1 : Int))
          have q4 := ((But.set (S := (· = X + 1 + 1)) (w9.setCell ⟨X + 1, 0, none⟩ (.bool p.2.allow)) (p := ⟨X + 1 + 1, 0, none⟩) rfl (.int .i64 (p.1 : Int))).block (X + 1) (block_lt q1) (by omega)).trans q1
          exact HF.out _ _ HLE.out (((But.set (S := (· = X + 1)) _ rfl _).mono (fun _ e => .inl e)).trans ((But.set (S := (· = X + 1 + 1)) _ rfl _).mono (fun _ e => .inr e))) q4 q3
        | false =>
          gi_wp2
          exact HF.out _ _ HLE.out (But.refl _ _) H9.out.1 H9.out.2
  case done =>
    rintro D ys Wc hD hSy ⟨hA, hT, hB⟩ hK
    have hSy2 : ys = tellI l s d l.length := hSy
    subst hSy2
    have c1 := cellsN hA 0 _ rfl
    have c2 := cellsN hT 0 _ rfl
    have hx := best_chosen l s d
    obtain ⟨o, ho⟩ : ∃ o, bestI (tellI l s d l.length) = o := ⟨_, rfl⟩
    rw [ho] at c1 c2 hx
    have HO := Lib.hid ho
    have HCx := Lib.hid hx
    have HB := Lib.hid hB
    have HK := Lib.hid hK
    obtain ⟨av, hav⟩ : ∃ av, saidB b o = av := ⟨_, rfl⟩
    obtain ⟨kv, hkv⟩ : ∃ kv, saidK o = kv := ⟨_, rfl⟩
    rw [hav] at c1
    rw [hkv] at c2
    have HAv := Lib.hid hav
    have HKv := Lib.hid hkv
    clear hA hT hB hK hSy hx ho hav hkv
    gi_wp2
    gi_big_quiet_th (fail)
    gi_wp2
    refine ⟨by simp, .inl ⟨_, _, rfl, run_takeDeferred HK.out, ?_⟩⟩
    refine ⟨_, results_tmp2 rfl _ _ _, ?_⟩
    have hbw : Below w.heap.size w ((Wc.drewN nq).putObj D (.deferred none)) := HB1.out.trans (Below.mono (HB.out.trans (by
      have h9 := belowK_b (w := w6) (Nat.le_refl _) (Wc.drewN nq) D _ (.deferred none) hD HK.out rfl rfl
      exact (below_drewN (Below.refl _ _) nq).trans (h9.mono (by have := HS6.out; omega)))) (by have := HX.out; have := HS1.out; omega))
    cases o with
    | none =>
      obtain rfl : b = av := HAv.out
      obtain rfl : (-1 : Int) = kv := HKv.out
      exact .no HCx.out hbw
    | some py =>
      obtain ⟨k0, y⟩ := py
      obtain rfl : y.allow = av := HAv.out
      obtain rfl : (k0 : Int) = kv := HKv.out
      exact .yes HCx.out (best_at (Nat.le_refl _) HO.out).2 hbw
  case stop =>
    rintro D c' pre W _ _ h _
    exact h.elim
end Go.Proofs.Ytmegfkclpjddgaa
