/-
  The document's sessions in memory; New, raise, Get, Same, walked (layer 18).
-/
import Derived.Test.YtnobpbbedclbkaaZj28
namespace Go.Proofs.Ytnobpbbedclbkaa
open Go.RowKit
set_option linter.unusedSimpArgs false
set_option linter.unusedVariables false

abbrev TRs : TypeId := 45
/-- The document's sessions t behind block B, its rows in S. -/
abbrev RsIs := DcIs snC 4 TRs
/-- Rows lie in a block that may be written to. -/
def FrzS (w : World) (A : Option Addr) (n : Nat) : Prop := ∀ b off, A = some ⟨b, off, none⟩ → 0 < n → ∃ cur t, w.heap[b]? = some (.cells cur t (0, 0))
theorem FrzS.of_row {w : World} {base : Nat} {A : Option Addr} {c : Nat} {l : List Sn} (h : snRow w base (.slice A l.length c) l) : FrzS w A l.length := fun b off e hn => by
  rcases h.2 with ⟨e1, h1⟩ | ⟨g, cap, cur, e1, hg, hh, _⟩
  · omega
  · simp only [Value.slice.injEq] at e1
    rw [e1.1] at e
    simp only [Option.some.injEq, Addr.mk.injEq] at e
    obtain ⟨rfl, _⟩ := e
    exact ⟨cur, _, hh⟩
theorem FrzS.but {S : Nat → Prop} {w w' : World} {A : Option Addr} {n : Nat} (h : FrzS w A n) (hb : But S w w') (hS : ∀ b off, A = some ⟨b, off, none⟩ → 0 < n → ¬ S b) : FrzS w' A n := fun b off e hn => by
  obtain ⟨cur, T, hc⟩ := h b off e hn
  exact ⟨cur, T, (hb.block b (block_lt hc) (hS b off e hn)).trans hc⟩
def RsAt (S : Nat → Prop) (w : World) (B : Nat) (t : Sm) : Prop := SmOk t ∧ ∃ A c, RsIs S w B A c t ∧ FrzS w A t.l.length
section
variable {S S' : Nat → Prop} {w w' : World} {B : Nat} {A : Option Addr} {c : Nat} {t : Sm}
theorem RsAt.but (h : RsAt S w B t) (hb : But S' w w') (hS : ∀ k, S' k → ¬ S k) : RsAt S w' B t := by
  obtain ⟨h0, A, c, h1, h2⟩ := h
  refine ⟨h0, A, c, h1.but hb hS, fun b off e hn => ?_⟩
  obtain ⟨cur, T, hc⟩ := h2 b off e hn
  exact ⟨cur, T, (hb.block b (block_lt hc) fun z => hS b z (h1.own b off e hn).1).trans hc⟩
theorem RsAt.below (h : RsAt S w B t) (hb : Below w.heap.size w w') : RsAt S w' B t := h.but (S' := fun _ => False) (But.of_below hb) (fun _ h => h.elim)
theorem RsAt.narrow (h : RsAt S w B t) (hs : ∀ k, k < w.heap.size → S k → S' k) : RsAt S' w B t := by
  obtain ⟨h0, A, c, h1, h2⟩ := h
  exact ⟨h0, A, c, h1.narrow hs, h2⟩
theorem RsAt.lt (h : RsAt S w B t) : B < w.heap.size := by
  obtain ⟨_, A, c, h1, _⟩ := h
  exact h1.lt
theorem RsAt.mine (h : RsAt S w B t) : S B := by
  obtain ⟨_, A, c, h1, _⟩ := h
  exact h1.mine
end
set_option maxHeartbeats 1000000 in
theorem rsnew_any (m : Int) (w : World) (hm : -9223372036854775808 ≤ m ∧ m ≤ 9223372036854775807) :
    Calls Try.prog 8 #[.int .i64 m] w fun e w' => e = .returned (.pointer (some ⟨w.heap.size, 0, none⟩)) ∧ RsAt (· = w.heap.size) w' w.heap.size ⟨mostT m, [], 0⟩ ∧ Below w.heap.size w w' := by
  obtain ⟨X, hX⟩ : ∃ X, w.heap.size = X := ⟨_, rfl⟩
  have HX := Lib.hid hX
  obtain ⟨M, hM⟩ : ∃ M, mostT m = M := ⟨_, rfl⟩
  have HM := Lib.hid hM
  have hm1 := hm.1
  have hm2 := hm.2
  have fin : ∀ k : Int, (k = (mostT m : Int)) → Hid (RsAt (· = w.heap.size) (w.alloc (.cells #[.int .i64 k, .slice none 0 0, .int .u64 0] TRs)) w.heap.size ⟨mostT m, [], 0⟩ ∧ Below w.heap.size w (w.alloc (.cells #[.int .i64 k, .slice none 0 0, .int .u64 0] TRs))) := fun k hk => Lib.hid ⟨⟨SmOk.new _ (mostT_le m), none, 0, ⟨rfl, by rw [hk]; exact heap_alloc_new _ _, .zero, fun _ _ e => (by cases e), Nat.le_refl _, Nat.zero_le _⟩, fun _ _ e => (by cases e)⟩, below1 _ _ _⟩
  rw [hX, hM] at fin
  rw [hX, hM]
  have FIN := Lib.hid fin
  clear hX hM fin hm
  go_enter Try.func8, Try.ntmps8
  by_cases h1 : m < 1
  · go_wp2
    go_ret
    obtain ⟨f1, f2⟩ := (FIN.out 1 (by rw [← HM.out]; unfold mostT; split <;> (try split) <;> omega)).out
    exact ⟨by rw [← HX.out]; rfl, f1, f2⟩
  · by_cases h2 : 64 < m
    · go_wp2
      go_ret
      obtain ⟨f1, f2⟩ := (FIN.out 64 (by rw [← HM.out]; unfold mostT; split <;> (try split) <;> omega)).out
      exact ⟨by rw [← HX.out]; rfl, f1, f2⟩
    · go_wp2
      go_ret
      obtain ⟨f1, f2⟩ := (FIN.out m (by rw [← HM.out]; unfold mostT; split <;> (try split) <;> omega)).out
      exact ⟨by rw [← HX.out]; rfl, f1, f2⟩
set_option maxHeartbeats 1000000 in
theorem rsraise_any {S : Nat → Prop} {B : Nat} {t : Sm} {A : Option Addr} {c : Nat} (i : Nat) (w : World) (h : RsIs S w B A c t) (hl : t.last < 18446744073709551616) (hi : i < 18446744073709551616) :
    Calls Try.prog 30 #[.pointer (some ⟨B, 0, none⟩), .int .u64 (i : Int)] w fun e w' => e = .returned (.tuple #[]) ∧ RsIs S w' B A c (t.raise i) ∧ But (· = B) w w' := by
  have H := Lib.hid h
  have c2 := h.c2
  have z2 := h.froz 2
  clear h
  go_enter Try.func30, Try.ntmps30
  by_cases h1 : t.last < i
  · have q : (t.last : Int) < (i : Int) := by omega
    go_wp2
    refine bodyPost_end (results_none rfl _ _ _) rfl ?_
    refine ⟨rfl, ?_, But.set (S := (· = B)) w (p := ⟨B, 2, none⟩) rfl _⟩
    rw [Ls.raise_max h1]
    exact H.out.setLast i
  · have q : ¬ (t.last : Int) < (i : Int) := by omega
    go_wp2
    refine bodyPost_end (results_none rfl _ _ _) rfl ?_
    refine ⟨rfl, ?_, But.refl _ _⟩
    rw [Ls.raise_same h1]
    exact H.out
/-- What Get tells. -/
def getV (o : Option Sn) : Value := match o with | some x => .tuple #[snV x, .bool true] | none => .tuple #[.agg #[.int .u64 0, .int .i64 0, .int .u64 0, .int .u64 0], .bool false]
set_option maxHeartbeats 2000000 in
theorem rsget_any {S : Nat → Prop} {B : Nat} {t : Sm} {A : Option Addr} {c : Nat} (id : Nat) (w : World) (h : RsIs S w B A c t) :
    Calls Try.prog 21 #[.pointer (some ⟨B, 0, none⟩), .int .u64 (id : Int)] w fun e w' => e = .returned (getV (getS t.l id)) ∧ Below w.heap.size w w' := by
  obtain ⟨X, hX⟩ : ∃ X, w.heap.size = X := ⟨_, rfl⟩
  obtain ⟨W, hW⟩ : ∃ W, w.alloc (.cells #[.int .u64 0, .int .i64 0, .int .u64 0, .int .u64 0] TSn) = W := ⟨_, rfl⟩
  have hs0 : W.heap.size = X + 1 := by rw [← hW]; simp [hX]
  have k0 : W.heap[X]? = some (.cells #[.int .u64 0, .int .i64 0, .int .u64 0, .int .u64 0] TSn (0, 0)) := by rw [← hW, ← hX]; exact heap_alloc_new w _
  have hb0 : Below w.heap.size w W := by rw [← hW]; exact below1 _ _ _
  have HB0 := Lib.hid hb0
  have HS0 := Lib.hid hs0
  have HK0 := Lib.hid k0
  have HW := Lib.hid hW
  have HX := Lib.hid hX
  have HT := Lib.hid (h.below hb0)
  obtain ⟨L, hL⟩ : ∃ L, t.l.length = L := ⟨_, rfl⟩
  have hm : L ≤ 9223372036854775807 := by have := h.le; have := h.max; unfold maxLen at this; omega
  have HL := Lib.hid hL
  obtain ⟨r, hr⟩ : ∃ r, getS t.l id = r := ⟨_, rfl⟩
  rw [hr]
  have HR := Lib.hid hr
  clear h hX hL hr hW hb0 hs0 k0
  go_enter Try.func21, Try.ntmps21
  go_wp2_with fail
  rw [HW.out, HX.out]
  go_loopw [6] (fun iv wr => ∃ k : Nat, k ≤ L ∧ iv = .int .i64 (k : Int) ∧ Hid (∀ j, ∀ hj : j < t.l.length, j < k → t.l[j].id ≠ id) ∧ Hid (Below (X + 1) W wr)) (fun iv _ => L - (intOf iv).toNat)
  case atStart => exact ⟨0, Nat.zero_le _, rfl, Lib.hid (fun j _ h => absurd h (Nat.not_lt_zero j)), Lib.hid (HS0.out ▸ Below.refl _ _)⟩
  case round =>
    obtain ⟨k, hk, rfl, hno, hb⟩ := hrel
    have ht := HT.out.below (by rw [HS0.out]; exact hb.out)
    have c1 : wr.cell? ⟨B, 1, none⟩ = some (.slice A L c) := by have := ht.c1; rw [HL.out] at this; exact this
    have hj0 := (hb.out.block X (by omega)).trans HK0.out
    obtain ⟨d0, d1, d2, d3⟩ := sn_blk hj0
    have z0 := blk_froz hj0 0
    have z1 := blk_froz hj0 1
    have z2 := blk_froz hj0 2
    have z3 := blk_froz hj0 3
    have hXl := block_lt hj0
    have hbw : Hid (Below w.heap.size w wr) := Lib.hid (HB0.out.trans (hb.out.mono (by have := HX.out; omega)))
    by_cases hlt : k < L
    · have hkl : k < t.l.length := by rw [HL.out]; exact hlt
      obtain ⟨bb, off, rfl, hbl, hit⟩ := ht.row.at_ hkl hkl
      have hget := getS_at (id := id) hkl
      have hnx : t.l[k].id ≠ id → ∀ j, ∀ hj : j < t.l.length, j < k + 1 → t.l[j].id ≠ id := fun h j hj hjk => by
        by_cases e : j < k
        · exact hno.out j hj e
        · obtain rfl : j = k := by omega
          exact h
      obtain ⟨x, hx⟩ : ∃ x, t.l[k] = x := ⟨_, rfl⟩
      rw [hx] at hit hget hnx
      obtain ⟨e0, e1, e2, e3⟩ := sn_cells hit
      have HNx := Lib.hid hnx
      have HGet := Lib.hid hget
      clear hx hit hget hnx ht
      by_cases he : x.id = id
      · obtain rfl : some x = r := by rw [← HR.out, HGet.out he fun j hj => hno.out j (by omega) hj]
        subst he
        have HQ := Lib.hid (setL_all hj0 [.int .u64 (x.id : Int), .int .i64 x.node, .int .u64 (x.made : Int), .int .u64 (x.ix : Int)] rfl)
        clear HNx HGet HR hj0
        go_wp2
        obtain ⟨q0, q1, q2, q3⟩ := sn_blk HQ.out
        simp only [setL] at q0 q1 q2 q3
        refine bodyPost_ret (v := .tuple #[snV x, .bool true]) (by simp [results, Try.results21, go_sem, q0, q1, q2, q3, snV]) rfl ⟨rfl, ?_⟩
        have hb9 := hbw.out
        rw [HX.out] at hb9 ⊢
        exact below_setL hb9 (by rw [HX.out]; exact Nat.le_refl _) [.int .u64 (x.id : Int), .int .i64 x.node, .int .u64 (x.made : Int), .int .u64 (x.ix : Int)] 0
      · have q : ¬ (x.id : Int) = (id : Int) := by omega
        have HN := Lib.hid (HNx.out he)
        clear HNx HGet hj0 z0 z1 z2 z3 d0 d1 d2 d3 he
        go_wp2
        go_roundw
        case rel => exact ⟨k + 1, by omega, by go_num, HN, hb⟩
        case measure => simp [intOf]; omega
    · obtain rfl : none = r := by rw [← HR.out, getS_none.2 fun j hj => hno.out j hj (by have := HL.out; omega)]
      have HQ := Lib.hid (setL_all hj0 [.int .u64 0, .int .i64 0, .int .u64 0, .int .u64 0] rfl)
      clear HR hj0 ht
      go_wp2
      obtain ⟨q0, q1, q2, q3⟩ := sn_blk HQ.out
      simp only [setL] at q0 q1 q2 q3
      refine bodyPost_ret (v := .tuple #[.agg #[.int .u64 0, .int .i64 0, .int .u64 0, .int .u64 0], .bool false]) (by simp [results, Try.results21, go_sem, q0, q1, q2, q3]) rfl ⟨rfl, ?_⟩
      have hb9 := hbw.out
      rw [HX.out] at hb9 ⊢
      exact below_setL hb9 (by rw [HX.out]; exact Nat.le_refl _) [.int .u64 0, .int .i64 0, .int .u64 0, .int .u64 0] 0
set_option maxHeartbeats 2000000 in
theorem rssame_any (A : Option Addr) (n c : Nat) (l : List Sn) (A2 : Option Addr) (c2 : Nat) (w : World) (hS : SK snC 4 w A n l) (hS2 : SK snC 4 w A2 n l) (hn : n ≤ maxLen) :
    Calls Try.prog 17 #[.slice A n c, .slice A2 n c2] w fun e w' => e = .returned (.bool true) ∧ Below w.heap.size w w' := by
  unfold maxLen at hn
  have hm : n ≤ 9223372036854775807 := by omega
  have HL := Lib.hid hS.1
  have HS := Lib.hid hS
  have HS2 := Lib.hid hS2
  have zz2 : (n != n) = false := by simp
  clear hS hS2 hn
  go_enter Try.func17, Try.ntmps17
  go_wp2
  go_loopw [5] (fun i wr => ∃ k : Nat, k ≤ n ∧ i = .int .i64 (k : Int) ∧ Hid (Below w.heap.size w wr)) (fun i _ => n - (intOf i).toNat)
  case atStart => exact ⟨0, Nat.zero_le _, rfl, Lib.hid (Below.refl _ _)⟩
  case round =>
    obtain ⟨k, hk, rfl, hb⟩ := hrel
    by_cases hlt : k < n
    · have hkl : k < l.length := by have := HL.out; omega
      obtain ⟨b, off, rfl, hbl, hit⟩ := (HS.out.below hb.out).at_ hlt hkl
      obtain ⟨b2, off2, rfl, hbl2, hit2⟩ := (HS2.out.below hb.out).at_ hlt hkl
      obtain ⟨x, hx⟩ : ∃ x, l[k] = x := ⟨_, rfl⟩
      rw [hx] at hit hit2
      obtain ⟨c0, c1, c2, c3⟩ := sn_cells hit
      obtain ⟨d0, d1, d2, d3⟩ := sn_cells hit2
      have q1 : (k : Int) < (n : Int) := by omega
      have q0 : (0 : Int) ≤ (k : Int) := by omega
      clear hx hit hit2
      have ug := sn_guard
      have ue := sn_eq x x
      rw [(eqSn_iff x x).2 rfl] at ue
      unfold snV at ue
      go_wp2
      go_quiet (fail)
      go_wp2
      go_roundw
      case rel => exact ⟨k + 1, by omega, by go_num, Lib.hid (below_drewN hb.out nq)⟩
      case measure => simp [intOf]; omega
    · go_wp2
      go_ret
      exact ⟨rfl, hb.out⟩
end Go.Proofs.Ytnobpbbedclbkaa
