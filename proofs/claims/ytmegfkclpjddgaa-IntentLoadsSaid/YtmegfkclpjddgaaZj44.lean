/-
  The document's intentions in memory; New, raise, walked (layer 17).
-/
import Derived.Test.YtmegfkclpjddgaaZj18
import Derived.Test.YtmegfkclpjddgaaZj12
import Derived.Lib.QuietBelow
import Derived.BigQuiet
namespace Go.Proofs.Ytmegfkclpjddgaa
open Go.RowKit
set_option linter.unusedSimpArgs false
set_option linter.unusedVariables false

abbrev TRi : TypeId := 36
/-- The document's intentions t behind block B, its rows in S. -/
abbrev RiIs := DcIs irC 5 TRi
/-- Rows lie in a block that may be written to. -/
def Frz (w : World) (A : Option Addr) (n : Nat) : Prop := ∀ b off, A = some ⟨b, off, none⟩ → 0 < n → ∃ cur t, w.heap[b]? = some (.cells cur t (0, 0))
theorem Frz.of_row {w : World} {base : Nat} {A : Option Addr} {c : Nat} {l : List Ir} (h : irRow w base (.slice A l.length c) l) : Frz w A l.length := fun b off e hn => by
  rcases h.2 with ⟨e1, h1⟩ | ⟨g, cap, cur, e1, hg, hh, _⟩
  · omega
  · simp only [Value.slice.injEq] at e1
    rw [e1.1] at e
    simp only [Option.some.injEq, Addr.mk.injEq] at e
    obtain ⟨rfl, _⟩ := e
    exact ⟨cur, _, hh⟩
theorem Frz.but {S : Nat → Prop} {w w' : World} {A : Option Addr} {n : Nat} (h : Frz w A n) (hb : But S w w') (hS : ∀ b off, A = some ⟨b, off, none⟩ → 0 < n → ¬ S b) : Frz w' A n := fun b off e hn => by
  obtain ⟨cur, T, hc⟩ := h b off e hn
  exact ⟨cur, T, (hb.block b (block_lt hc) (hS b off e hn)).trans hc⟩
def RiAt (S : Nat → Prop) (w : World) (B : Nat) (t : Im) : Prop := ImOk t ∧ ∃ A c, RiIs S w B A c t ∧ Frz w A t.l.length
section
variable {S S' : Nat → Prop} {w w' : World} {B : Nat} {A : Option Addr} {c : Nat} {t : Im}
theorem RiAt.but (h : RiAt S w B t) (hb : But S' w w') (hS : ∀ k, S' k → ¬ S k) : RiAt S w' B t := by
  obtain ⟨h0, A, c, h1, h2⟩ := h
  refine ⟨h0, A, c, h1.but hb hS, fun b off e hn => ?_⟩
  obtain ⟨cur, T, hc⟩ := h2 b off e hn
  exact ⟨cur, T, (hb.block b (block_lt hc) fun z => hS b z (h1.own b off e hn).1).trans hc⟩
theorem RiAt.below (h : RiAt S w B t) (hb : Below w.heap.size w w') : RiAt S w' B t := h.but (S' := fun _ => False) (But.of_below hb) (fun _ h => h.elim)
theorem RiAt.narrow (h : RiAt S w B t) (hs : ∀ k, k < w.heap.size → S k → S' k) : RiAt S' w B t := by
  obtain ⟨h0, A, c, h1, h2⟩ := h
  exact ⟨h0, A, c, h1.narrow hs, h2⟩
theorem RiAt.lt (h : RiAt S w B t) : B < w.heap.size := by
  obtain ⟨_, A, c, h1, _⟩ := h
  exact h1.lt
theorem RiAt.mine (h : RiAt S w B t) : S B := by
  obtain ⟨_, A, c, h1, _⟩ := h
  exact h1.mine
end
theorem ImOk.new (m : Int) : ImOk ⟨mostT m, [], 0⟩ := ⟨mostT_le m, Nat.zero_le _, .nil, by simp, by simp, by simp⟩
set_option maxHeartbeats 1000000 in
theorem rinew_any (m : Int) (w : World) (hm : -9223372036854775808 ≤ m ∧ m ≤ 9223372036854775807) :
    Calls Try.prog 11 #[.int .i64 m] w fun e w' => e = .returned (.pointer (some ⟨w.heap.size, 0, none⟩)) ∧ RiAt (· = w.heap.size) w' w.heap.size ⟨mostT m, [], 0⟩ ∧ Below w.heap.size w w' := by
  obtain ⟨X, hX⟩ : ∃ X, w.heap.size = X := ⟨_, rfl⟩
  have HX := Lib.hid hX
  obtain ⟨M, hM⟩ : ∃ M, mostT m = M := ⟨_, rfl⟩
  have HM := Lib.hid hM
  have hm1 := hm.1
  have hm2 := hm.2
  have fin : ∀ k : Int, (k = (mostT m : Int)) → Hid (RiAt (· = w.heap.size) (w.alloc (.cells #[.int .i64 k, .slice none 0 0, .int .u64 0] TRi)) w.heap.size ⟨mostT m, [], 0⟩ ∧ Below w.heap.size w (w.alloc (.cells #[.int .i64 k, .slice none 0 0, .int .u64 0] TRi))) := fun k hk => Lib.hid ⟨⟨ImOk.new m, none, 0, ⟨rfl, by rw [hk]; exact heap_alloc_new _ _, .zero, fun _ _ e => (by cases e), Nat.le_refl _, Nat.zero_le _⟩, fun _ _ e => (by cases e)⟩, (Below.refl _ w).alloc (Nat.le_refl _) _⟩
  rw [hX, hM] at fin
  rw [hX, hM]
  have FIN := Lib.hid fin
  clear hX hM fin hm
  go_enter Try.func11, Try.ntmps11
  by_cases h1 : m < 1
  · go_wp2
    go_ret
    obtain ⟨f1, f2⟩ := (FIN.out 1 (by rw [← HM.out]; unfold mostT; split <;> (try split) <;> omega)).out
    exact ⟨by rw [← HX.out]; rfl, f1, f2⟩
  · by_cases h2 : 64 < m
    · go_wp2
      go_ret
      obtain ⟨f1, f2⟩ := (FIN.out 64 (by rw [← HM.out]; unfold mostT; split <;> (try split) <;> omega)).out
      exact ⟨by rw [← HX.out]; rfl, f1, f2⟩
    · go_wp2
      go_ret
      obtain ⟨f1, f2⟩ := (FIN.out m (by rw [← HM.out]; unfold mostT; split <;> (try split) <;> omega)).out
      exact ⟨by rw [← HX.out]; rfl, f1, f2⟩
set_option maxHeartbeats 1000000 in
theorem riraise_any {S : Nat → Prop} {B : Nat} {t : Im} {A : Option Addr} {c : Nat} (i : Nat) (w : World) (h : RiIs S w B A c t) (hl : t.last < 18446744073709551616) (hi : i < 18446744073709551616) :
    Calls Try.prog 60 #[.pointer (some ⟨B, 0, none⟩), .int .u64 (i : Int)] w fun e w' => e = .returned (.tuple #[]) ∧ RiIs S w' B A c (t.raise i) ∧ But (· = B) w w' := by
  have H := Lib.hid h
  have c2 := h.c2
  have z2 := h.froz 2
  clear h
  go_enter Try.func60, Try.ntmps60
  by_cases h1 : t.last < i
  · have q : (t.last : Int) < (i : Int) := by omega
    go_wp2
    refine bodyPost_end (results_none rfl _ _ _) rfl ?_
    refine ⟨rfl, ?_, But.set (S := (· = B)) w (p := ⟨B, 2, none⟩) rfl _⟩
    rw [Ls.raise_max h1]
    exact H.out.setLast i
  · have q : ¬ (t.last : Int) < (i : Int) := by omega
    go_wp2
    refine bodyPost_end (results_none rfl _ _ _) rfl ?_
    refine ⟨rfl, ?_, But.refl _ _⟩
    rw [Ls.raise_same h1]
    exact H.out
end Go.Proofs.Ytmegfkclpjddgaa
/-
  The document's Ahead, find, May, walked (layer 17).
-/
namespace Go.Proofs.Ytmegfkclpjddgaa
open Go.RowKit Go.Sort
set_option linter.unusedSimpArgs false
set_option linter.unusedVariables false

set_option maxHeartbeats 4000000 in
set_option maxRecDepth 100000 in
theorem rahead_any (a b : Ir) (w : World) : Calls Try.prog 53 #[irV a, irV b] w fun e w' => e = .returned (.bool (aheadI a b)) ∧ Below w.heap.size w w' := by
  unfold irV
  obtain ⟨X, hX⟩ : ∃ X, w.heap.size = X := ⟨_, rfl⟩
  obtain ⟨W2, hW2⟩ : ∃ W2, (w.alloc (.cells #[.string a.src, .string a.dst, .bool a.allow, .int .u64 (a.made : Int), .int .u64 (a.ix : Int)] TIn)).alloc (.cells #[.string b.src, .string b.dst, .bool b.allow, .int .u64 (b.made : Int), .int .u64 (b.ix : Int)] TIn) = W2 := ⟨_, rfl⟩
  have z1 : (w.alloc (.cells #[.string a.src, .string a.dst, .bool a.allow, .int .u64 (a.made : Int), .int .u64 (a.ix : Int)] TIn)).heap.size = X + 1 := by simp [hX]
  have ka : W2.heap[X]? = some (.cells #[.string a.src, .string a.dst, .bool a.allow, .int .u64 (a.made : Int), .int .u64 (a.ix : Int)] TIn (0, 0)) := by
    rw [← hW2]
    exact ((below1 _ _ _).block X (by omega)).trans (by rw [← hX]; exact heap_alloc_new w _)
  have kb : W2.heap[X + 1]? = some (.cells #[.string b.src, .string b.dst, .bool b.allow, .int .u64 (b.made : Int), .int .u64 (b.ix : Int)] TIn (0, 0)) := by rw [← hW2, ← z1]; exact heap_alloc_new _ _
  have HB2 : Hid (Below w.heap.size w W2) := Lib.hid (by rw [← hW2]; exact (below1 w _ _).alloc (by simp) _)
  have HXa := Lib.hid ka
  have HXb := Lib.hid kb
  have HW2 := Lib.hid hW2
  have HX := Lib.hid hX
  obtain ⟨x0, x1, x2, x3, x4⟩ := ir_blk ka
  obtain ⟨y0, y1, y2, y3, y4⟩ := ir_blk kb
  have qx0 := cell_regrown x0
  have qx1 := cell_regrown x1
  have qx2 := cell_regrown x2
  have qx3 := cell_regrown x3
  have qx4 := cell_regrown x4
  have qy0 := cell_regrown y0
  have qy1 := cell_regrown y1
  have qy2 := cell_regrown y2
  have qy3 := cell_regrown y3
  have qy4 := cell_regrown y4
  have HRk : Hid (∀ (x : Ir) d os, Calls Try.prog 22 #[.agg #[.string x.src, .string x.dst, .bool x.allow, .int .u64 (x.made : Int), .int .u64 (x.ix : Int)]] (grow (redrawn W2 d) os) fun e w2 => e = .returned (.int .i64 (x.rank : Int)) ∧ ∃ p : Regrown, w2 = grow (redrawn W2 p.d) p.os) := Lib.hid fun x d os => Calls.regrown_of (rrank_any x _)
  clear hX hW2 z1 ka kb x0 x1 x2 x3 x4 y0 y1 y2 y3 y4
  unfold aheadI
  by_cases hr : a.rank = b.rank
  · rw [if_pos hr]
    have zz : ((a.rank : Int) != (b.rank : Int)) = false := by rw [hr]; simp
    clear hr
    obtain ⟨u1, h1⟩ : ∃ u, ltT a.dst b.dst = u := ⟨_, rfl⟩
    obtain ⟨u2, h2⟩ : ∃ u, (a.dst.toList == b.dst.toList) = u := ⟨_, rfl⟩
    obtain ⟨u3, h3⟩ : ∃ u, ltT a.src b.src = u := ⟨_, rfl⟩
    rw [h1, h2, h3]
    have g1 : Op.bytesLess a.dst.toList b.dst.toList = u1 := h1
    have g3 : Op.bytesLess a.src.toList b.src.toList = u3 := h3
    clear h1 h3
    cases u1 <;> cases u2
    all_goals
      go_enter Try.func53, Try.ntmps53
      go_wp2_with fail
      rw [HW2.out, HX.out]
      refine wp_region_quiet_below (by kernel_rfl) (by kernel_rfl) ?_
      repeat (go_big_quiet_step (exact HRk.out _ _ _))
      refine wpQuiet_nil ?_
      rintro _ ⟨⟨dq, osq⟩, rfl⟩
      obtain ⟨W3, hW3⟩ : ∃ W3, grow (redrawn W2 dq) osq = W3 := ⟨_, rfl⟩
      have hb3 : Below W2.heap.size W2 W3 := by rw [← hW3]; exact below_regrown _ _ _
      rw [hW3]
      clear hW3
      obtain ⟨x0, x1, x2, x3, x4⟩ := ir_blk ((hb3.block X (block_lt HXa.out)).trans HXa.out)
      obtain ⟨y0, y1, y2, y3, y4⟩ := ir_blk ((hb3.block (X + 1) (block_lt HXb.out)).trans HXb.out)
      have HB3 := Lib.hid (HB2.out.trans (hb3.mono HB2.out.size))
      clear hb3
      go_wp2
      go_ret
      exact ⟨rfl, HB3.out⟩
  · rw [if_neg hr]
    have zz : ((a.rank : Int) != (b.rank : Int)) = true := by rw [bne_iff_ne]; omega
    obtain ⟨u, hu⟩ : ∃ u, decide (b.rank < a.rank) = u := ⟨_, rfl⟩
    have hu2 : decide ((b.rank : Int) < (a.rank : Int)) = u := by rw [← hu, decide_eq_decide]; exact Int.ofNat_lt
    rw [hu]
    clear hr
    go_enter Try.func53, Try.ntmps53
    go_wp2_with fail
    rw [HW2.out, HX.out]
    refine wp_region_quiet_below (by kernel_rfl) (by kernel_rfl) ?_
    repeat (go_big_quiet_step (exact HRk.out _ _ _))
    refine wpQuiet_nil ?_
    rintro _ ⟨⟨dq, osq⟩, rfl⟩
    obtain ⟨W3, hW3⟩ : ∃ W3, grow (redrawn W2 dq) osq = W3 := ⟨_, rfl⟩
    have hb3 : Below W2.heap.size W2 W3 := by rw [← hW3]; exact below_regrown _ _ _
    rw [hW3]
    clear hW3
    obtain ⟨x0, x1, x2, x3, x4⟩ := ir_blk ((hb3.block X (block_lt HXa.out)).trans HXa.out)
    obtain ⟨y0, y1, y2, y3, y4⟩ := ir_blk ((hb3.block (X + 1) (block_lt HXb.out)).trans HXb.out)
    have qx0 := cell_regrown x0
    have qx1 := cell_regrown x1
    have qx2 := cell_regrown x2
    have qx3 := cell_regrown x3
    have qx4 := cell_regrown x4
    have qy0 := cell_regrown y0
    have qy1 := cell_regrown y1
    have qy2 := cell_regrown y2
    have qy3 := cell_regrown y3
    have qy4 := cell_regrown y4
    have HRk3 : Hid (∀ (x : Ir) d os, Calls Try.prog 22 #[.agg #[.string x.src, .string x.dst, .bool x.allow, .int .u64 (x.made : Int), .int .u64 (x.ix : Int)]] (grow (redrawn W3 d) os) fun e w2 => e = .returned (.int .i64 (x.rank : Int)) ∧ ∃ p : Regrown, w2 = grow (redrawn W3 p.d) p.os) := Lib.hid fun x d os => Calls.regrown_of (rrank_any x _)
    have HB3 := Lib.hid (HB2.out.trans (hb3.mono HB2.out.size))
    clear hb3 x0 x1 x2 x3 x4 y0 y1 y2 y3 y4
    go_wp2_with fail
    refine wp_region_quiet_below (by kernel_rfl) (by kernel_rfl) ?_
    repeat (go_big_quiet_step (exact HRk3.out _ _ _))
    refine wpQuiet_nil ?_
    rintro _ ⟨⟨dq, osq⟩, rfl⟩
    have HB4 := Lib.hid (HB3.out.trans ((below_regrown W3 dq osq).mono HB3.out.size))
    go_wp2
    go_ret
    exact ⟨rfl, HB4.out⟩
/-- A place, -1 for none. -/
def plI (o : Option Nat) : Int := match o with | none => -1 | some k => (k : Int)
set_option maxHeartbeats 2000000 in
theorem rifind_any {S : Nat → Prop} {B : Nat} {t : Im} {A : Option Addr} {c : Nat} (s d : ByteArray) (w : World) (h : RiIs S w B A c t) :
    Calls Try.prog 59 #[.pointer (some ⟨B, 0, none⟩), .string s, .string d] w fun e w' => e = .returned (.int .i64 (plI (findI t.l s d))) ∧ w = w' := by
  have c1 := h.c1
  have hm : t.l.length ≤ 9223372036854775807 := by have := h.le; have := h.max; unfold maxLen at this; omega
  have HS := Lib.hid h.row
  obtain ⟨L, hL⟩ : ∃ L, t.l.length = L := ⟨_, rfl⟩
  obtain ⟨r, hr⟩ : ∃ r, plI (findI t.l s d) = r := ⟨_, rfl⟩
  rw [hL] at c1 hm
  rw [hr]
  have HL := Lib.hid hL
  have HR := Lib.hid hr
  clear h hL hr
  go_enter Try.func59, Try.ntmps59
  go_wp2
  go_loopw [7] (fun iv wr => ∃ k : Nat, k ≤ L ∧ iv = .int .i64 (k : Int) ∧ Hid (∀ j, ∀ hj : j < t.l.length, j < k → samI t.l[j] s d = false) ∧ wr = w) (fun iv _ => L - (intOf iv).toNat)
  case atStart => exact ⟨0, Nat.zero_le _, rfl, Lib.hid (fun j _ h => absurd h (Nat.not_lt_zero j)), rfl⟩
  case round =>
    obtain ⟨k, hk, rfl, hno, rfl⟩ := hrel
    by_cases hlt : k < L
    · have hkl : k < t.l.length := by rw [HL.out]; exact hlt
      obtain ⟨bb, off, rfl, hbl, hit⟩ := HS.out.at_ hkl hkl
      obtain ⟨x, hx⟩ : ∃ x, t.l[k] = x := ⟨_, rfl⟩
      rw [hx] at hit
      obtain ⟨e0, e1, _⟩ := ir_cells hit
      have HX := Lib.hid hx
      have HNx : Hid (samI x s d = false → ∀ j, ∀ hj : j < t.l.length, j < k + 1 → samI t.l[j] s d = false) := Lib.hid fun h j hj hjk => by
        by_cases e : j < k
        · exact hno.out j hj e
        · obtain rfl : j = k := by omega
          rw [hx]; exact h
      clear hx hit
      cases q1 : (x.src.toList == s.toList) with
      | false =>
        have HN := Lib.hid (HNx.out (by unfold samI; rw [q1]; rfl))
        go_wp2
        go_roundw
        case rel => exact ⟨k + 1, by omega, by go_num, HN, trivial⟩
        case measure => simp [intOf]; omega
      | true =>
        cases q2 : (x.dst.toList == d.toList) with
        | false =>
          have HN := Lib.hid (HNx.out (by unfold samI; rw [q1, q2]; rfl))
          go_wp2
          go_roundw
          case rel => exact ⟨k + 1, by omega, by go_num, HN, trivial⟩
          case measure => simp [intOf]; omega
        | true =>
          obtain rfl : (k : Int) = r := by
            rw [← HR.out, findI_some hkl (by rw [HX.out]; unfold samI; rw [q1, q2]; rfl) (fun j hj => hno.out j (by omega) hj)]
            rfl
          go_wp2
          go_ret
          exact ⟨rfl, rfl⟩
    · obtain rfl : (-1 : Int) = r := by
        rw [← HR.out, findI_none (fun j hj => hno.out j hj (by have := HL.out; omega))]
        rfl
      go_wp2
      go_ret
      exact ⟨rfl, rfl⟩
end Go.Proofs.Ytmegfkclpjddgaa
