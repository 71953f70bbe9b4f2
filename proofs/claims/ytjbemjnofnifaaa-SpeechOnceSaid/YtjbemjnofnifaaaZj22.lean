/-
  Right of the program, and of the document, walked (layer 13).
-/
import Derived.Test.YtjbemjnofnifaaaZj20
import Derived.Test.YtjbemjnofnifaaaZj21
namespace Go.Proofs.Ytjbemjnofnifaaa
open Go.RowKit
set_option linter.unusedSimpArgs false
set_option linter.unusedVariables false

theorem blk6 {W : World} {X : Nat} {a b c d e f : Value} {t : TypeId} (h : W.heap[X]? = some (.cells #[a, b, c, d, e, f] t (0, 0))) :
    W.cell? ⟨X, 0, none⟩ = some a ∧ W.cell? ⟨X, 1, none⟩ = some b ∧ W.cell? ⟨X, 2, none⟩ = some c ∧ W.cell? ⟨X, 3, none⟩ = some d ∧ W.cell? ⟨X, 4, none⟩ = some e ∧ W.cell? ⟨X, 5, none⟩ = some f := by
  refine ⟨?_, ?_, ?_, ?_, ?_, ?_⟩ <;> (rw [cell_of_row _ _ _ _ _ _ h]; rfl)
/-- A message in a block of its own. -/
def MiB (w : World) (B : Nat) (x : Mi) : Prop := w.heap[B]? = some (.cells #[.int .i64 x.kind, .int .u32 (x.seq : Int), .int .i64 x.src, .int .i64 x.tgt, .bool x.rep, .slice x.us.A x.us.l.length x.us.c] 25 (0, 0))
theorem MiB.lt {w : World} {B : Nat} {x : Mi} (h : MiB w B x) : B < w.heap.size := block_lt h
theorem MiB.below {w w' : World} {B : Nat} {x : Mi} (h : MiB w B x) (hb : Below w.heap.size w w') : MiB w' B x := (hb.block B h.lt).trans h
theorem MiB.new (w : World) (x : Mi) : MiB (w.alloc (.cells #[.int .i64 x.kind, .int .u32 (x.seq : Int), .int .i64 x.src, .int .i64 x.tgt, .bool x.rep, .slice x.us.A x.us.l.length x.us.c] 25)) w.heap.size x := heap_alloc_new w _
theorem MiB.cells {w : World} {B : Nat} {x : Mi} (h : MiB w B x) : w.cell? ⟨B, 0, none⟩ = some (.int .i64 x.kind) ∧ w.cell? ⟨B, 1, none⟩ = some (.int .u32 (x.seq : Int)) ∧ w.cell? ⟨B, 2, none⟩ = some (.int .i64 x.src) ∧ w.cell? ⟨B, 3, none⟩ = some (.int .i64 x.tgt) ∧ w.cell? ⟨B, 4, none⟩ = some (.bool x.rep) ∧ w.cell? ⟨B, 5, none⟩ = some (.slice x.us.A x.us.l.length x.us.c) := blk6 h

theorem partB_true {m : Ms} {p : Int} (h : (partsL m.kind).contains p = true) : partB m p = true := by unfold partB; rw [h]; rfl
theorem partB_false {m : Ms} {p : Int} (h : (partsL m.kind).contains p = false) : partB m p = emptyB m p := by unfold partB; rw [h]; rfl
set_option maxHeartbeats 4000000 in
theorem right_any (x : Mi) (w : World) (h : UsOk w x.us) (r : Bool) (hr : x.m.right = r) :
    Calls Try.prog 10 #[miV x] w fun e w' => e = .returned (.bool r) ∧ Below w.heap.size w w' := by
  have HR := Lib.hid hr
  have HU := Lib.hid h
  have ek : x.m.kind = x.kind := rfl
  have HEk := Lib.hid ek
  obtain ⟨B, hB⟩ : ∃ B, w.heap.size = B := ⟨_, rfl⟩
  have HB := Lib.hid hB
  unfold miV
  clear hr h ek hB
  go_enter Try.func10, Try.ntmps10
  go_wp2_with fail
  refine (partsOf_any x.kind _).mono ?_
  rintro e w1 ⟨A, c, rfl, hp, hb⟩
  have HM : Hid (MiB w1 B x) := Lib.hid (by have := (MiB.new w x).below hb; rwa [HB.out] at this)
  have HW : Hid (Below w.heap.size w w1) := Lib.hid ((below1 w _).trans (hb.mono (by simp)))
  have HP := Lib.hid hp
  rw [HB.out]
  clear hp hb
  have hl3 := partsL_le x.kind
  go_wp2
  go_loopw [8] (fun kv wr => ∃ k : Nat, kv = .int .i64 (k : Int) ∧ k ≤ 5 ∧ Hid (∀ p : Nat, p < k → partB x.m (p : Int) = true) ∧ Hid (Below w1.heap.size w1 wr)) (fun kv _ => 5 - (RowKit.intOf kv).toNat)
  case atStart => exact ⟨0, rfl, Nat.zero_le _, Lib.hid (fun p hp => absurd hp (Nat.not_lt_zero _)), Lib.hid (Below.refl _ _)⟩
  case round =>
    obtain ⟨k, rfl, hk, hno, hbe⟩ := hrel
    obtain ⟨c0, c1, c2, c3, c4, c5⟩ := (HM.out.below hbe.out).cells
    by_cases hlt : k < 5
    · have q2 : (k : Int) < 5 := by omega
      have q0 : (0 : Int) ≤ (k : Int) := by omega
      have S1 := Lib.hid (containsP_any A c (partsL x.kind) (k : Int) wr (HP.out.below hbe.out))
      cases hcon : (partsL x.kind).contains (k : Int) with
      | true =>
        rw [hcon] at S1
        have HT : Hid (∀ p : Nat, p < k + 1 → partB x.m (p : Int) = true) := Lib.hid (fun p hp => by
          by_cases hpk : p < k
          · exact hno.out p hpk
          · obtain rfl : p = k := by omega
            exact partB_true (by rw [HEk.out]; exact hcon))
        clear hcon
        go_wp2_with fail
        refine S1.out.mono ?_
        rintro e w2 ⟨rfl, rfl⟩
        go_wp2
        go_roundw
        case rel => exact ⟨k + 1, by go_num, by omega, HT, hbe⟩
        case measure => simp [RowKit.intOf]; omega
      | false =>
        rw [hcon] at S1
        have HC := Lib.hid hcon
        clear hcon
        cases hem : emptyB x.m (k : Int) with
        | true =>
          have S2 := Lib.hid (empty_any x k hlt wr true hem)
          unfold miV at S2
          have HT : Hid (∀ p : Nat, p < k + 1 → partB x.m (p : Int) = true) := Lib.hid (fun p hp => by
            by_cases hpk : p < k
            · exact hno.out p hpk
            · obtain rfl : p = k := by omega
              rw [partB_false (by rw [HEk.out]; exact HC.out)]
              exact hem)
          clear hem
          go_wp2_with fail
          refine S1.out.mono ?_
          rintro e w2 ⟨rfl, rfl⟩
          go_wp2_with fail
          refine S2.out.mono ?_
          rintro e w3 ⟨rfl, hb⟩
          have HB3 := Lib.hid (hbe.out.trans (hb.mono hbe.out.size))
          clear hb
          go_wp2
          go_roundw
          case rel => exact ⟨k + 1, by go_num, by omega, HT, HB3⟩
          case measure => simp [RowKit.intOf]; omega
        | false =>
          have S2 := Lib.hid (empty_any x k hlt wr false hem)
          unfold miV at S2
          obtain rfl : r = false := by
            rw [← HR.out]
            cases hq : x.m.right with
            | false => rfl
            | true =>
              have h1 := ((right_parts x.m).1 hq).1 k hlt
              rw [partB_false (by rw [HEk.out]; exact HC.out), hem] at h1
              cases h1
          clear hem
          go_wp2_with fail
          refine S1.out.mono ?_
          rintro e w2 ⟨rfl, rfl⟩
          go_wp2_with fail
          refine S2.out.mono ?_
          rintro e w3 ⟨rfl, hb⟩
          have HB3 := Lib.hid (hbe.out.trans (hb.mono hbe.out.size))
          clear hb
          go_wp2
          go_ret
          exact ⟨rfl, HW.out.trans (HB3.out.mono HW.out.size)⟩
    · obtain rfl : k = 5 := by omega
      have HBE : Hid (Below w.heap.size w wr) := Lib.hid (HW.out.trans (hbe.out.mono HW.out.size))
      have HI : Hid (r = true ↔ 0 < (partsL x.kind).length ∧ nodeB x.src = true ∧ nodeB x.tgt = true ∧ upsB x.us.l = true) := Lib.hid (by
        rw [← HR.out, right_parts]
        exact ⟨fun h => h.2, fun h => ⟨hno.out, h⟩⟩)
      have HUr : Hid (UsOk wr x.us) := Lib.hid (HU.out.below HBE.out)
      obtain ⟨n, hn⟩ : ∃ n, (partsL x.kind).length = n := ⟨_, rfl⟩
      rw [hn] at HI hl3 ⊢
      clear hn
      by_cases h0 : 0 < n
      · have z0 : (0 : Int) < (n : Int) := by omega
        cases h1 : nodeB x.src with
        | false =>
          have S1 := Lib.hid (fun W => isNode_any x.src W false h1)
          obtain rfl : r = false := by
            cases r with
            | false => rfl
            | true => have := (HI.out.1 rfl).2.1; rw [h1] at this; cases this
          clear h1
          go_wp2_with fail
          refine (S1.out _).mono ?_
          rintro e w2 ⟨rfl, rfl⟩
          go_wp2
          go_ret
          exact ⟨rfl, HBE.out⟩
        | true =>
          have S1 := Lib.hid (fun W => isNode_any x.src W true h1)
          cases h2 : nodeB x.tgt with
          | false =>
            have S2 := Lib.hid (fun W => isNode_any x.tgt W false h2)
            obtain rfl : r = false := by
              cases r with
              | false => rfl
              | true => have := (HI.out.1 rfl).2.2.1; rw [h2] at this; cases this
            clear h1 h2
            go_wp2_with fail
            refine (S1.out _).mono ?_
            rintro e w2 ⟨rfl, rfl⟩
            go_wp2_with fail
            refine (S2.out _).mono ?_
            rintro e w2 ⟨rfl, rfl⟩
            go_wp2
            go_ret
            exact ⟨rfl, HBE.out⟩
          | true =>
            have S2 := Lib.hid (fun W => isNode_any x.tgt W true h2)
            cases h3 : upsB x.us.l with
            | false =>
              have S3 := Lib.hid (areUpdates_any wr x.us HUr.out false h3)
              obtain rfl : r = false := by
                cases r with
                | false => rfl
                | true => have := (HI.out.1 rfl).2.2.2; rw [h3] at this; cases this
              clear h1 h2 h3
              go_wp2_with fail
              refine (S1.out _).mono ?_
              rintro e w2 ⟨rfl, rfl⟩
              go_wp2_with fail
              refine (S2.out _).mono ?_
              rintro e w2 ⟨rfl, rfl⟩
              go_wp2_with fail
              refine S3.out.mono ?_
              rintro e w3 ⟨rfl, hb⟩
              have HB3 := Lib.hid (HBE.out.trans (hb.mono HBE.out.size))
              clear hb
              go_wp2
              go_ret
              exact ⟨rfl, HB3.out⟩
            | true =>
              have S3 := Lib.hid (areUpdates_any wr x.us HUr.out true h3)
              obtain rfl : r = true := HI.out.2 ⟨h0, h1, h2, h3⟩
              clear h1 h2 h3
              go_wp2_with fail
              refine (S1.out _).mono ?_
              rintro e w2 ⟨rfl, rfl⟩
              go_wp2_with fail
              refine (S2.out _).mono ?_
              rintro e w2 ⟨rfl, rfl⟩
              go_wp2_with fail
              refine S3.out.mono ?_
              rintro e w3 ⟨rfl, hb⟩
              have HB3 := Lib.hid (HBE.out.trans (hb.mono HBE.out.size))
              clear hb
              go_wp2
              go_ret
              exact ⟨rfl, HB3.out⟩
      · obtain rfl : n = 0 := by omega
        obtain rfl : r = false := by
          cases r with
          | false => rfl
          | true => exact absurd (HI.out.1 rfl).1 h0
        go_wp2
        go_ret
        exact ⟨rfl, HBE.out⟩
end Go.Proofs.Ytjbemjnofnifaaa

/-
  Right of the document, walked (layer 13).
-/
namespace Go.Proofs.Ytjbemjnofnifaaa
open Go.RowKit
set_option linter.unusedSimpArgs false
set_option linter.unusedVariables false

theorem Ms.not_right {m : Ms} {r : Bool} (hr : m.right = r) (h : ¬ m.Ok) : r = false := by
  cases r with
  | false => rfl
  | true => exact absurd ((Ms.right_iff m).1 hr) h
set_option maxHeartbeats 8000000 in
set_option maxRecDepth 100000 in
theorem rRight_any (x : Mi) (w : World) (h : UsOk w x.us) (r : Bool) (hr : x.m.right = r) :
    Calls Try.prog 11 #[miV x] w fun e w' => e = .returned (.bool r) ∧ Below w.heap.size w w' := by
  have hlen : x.us.l.length ≤ maxLen := Nat.le_trans h.le h.max
  unfold maxLen at hlen
  have HR := Lib.hid hr
  have HU := Lib.hid h
  have HM : Hid (∀ T : TypeId, T = 25 → MiB (w.alloc (.cells #[.int .i64 x.kind, .int .u32 (x.seq : Int), .int .i64 x.src, .int .i64 x.tgt, .bool x.rep, .slice x.us.A x.us.l.length x.us.c] T)) w.heap.size x) := Lib.hid (fun T e => by rw [e]; exact MiB.new w x)
  have HN : Hid (¬ x.m.Ok → r = false) := Lib.hid (Ms.not_right hr)
  have HK : Hid (r = true ↔ x.m.Ok) := Lib.hid (by rw [← hr]; exact Ms.right_iff _)
  unfold miV
  clear h hr
  obtain ⟨B, hB⟩ : ∃ B, w.heap.size = B := ⟨_, rfl⟩
  have HB := Lib.hid hB
  rw [hB] at HM
  clear hB
  obtain ⟨k, q, f, t, rp, A, c, l⟩ := x
  simp only at *
  obtain ⟨n, hn⟩ : ∃ n, l.length = n := ⟨_, rfl⟩
  have HL := Lib.hid hn
  rw [hn] at HM hlen ⊢
  clear hn
  by_cases d0 : k < 1
  · obtain rfl : r = false := HN.out (fun h => by have h1 := h.kind.1; simp only [Mi.m] at h1; omega)
    go_enter Try.func11, Try.ntmps11
    go_wp2
    go_ret
    exact ⟨rfl, below1 w _⟩
  by_cases d1 : 6 < k
  · obtain rfl : r = false := HN.out (fun h => by have h1 := h.kind.2; simp only [Mi.m] at h1; omega)
    go_enter Try.func11, Try.ntmps11
    go_wp2
    go_ret
    exact ⟨rfl, below1 w _⟩
  by_cases d2 : f < 0
  · obtain rfl : r = false := HN.out (fun h => by have h1 := h.src.1; simp only [Mi.m] at h1; omega)
    go_enter Try.func11, Try.ntmps11
    go_wp2
    go_ret
    exact ⟨rfl, below1 w _⟩
  by_cases d3 : 7 < f
  · obtain rfl : r = false := HN.out (fun h => by have h1 := h.src.2; simp only [Mi.m] at h1; omega)
    go_enter Try.func11, Try.ntmps11
    go_wp2
    go_ret
    exact ⟨rfl, below1 w _⟩
  by_cases d4 : t < 0
  · obtain rfl : r = false := HN.out (fun h => by have h1 := h.tgt.1; simp only [Mi.m] at h1; omega)
    go_enter Try.func11, Try.ntmps11
    go_wp2
    go_ret
    exact ⟨rfl, below1 w _⟩
  by_cases d5 : 7 < t
  · obtain rfl : r = false := HN.out (fun h => by have h1 := h.tgt.2; simp only [Mi.m] at h1; omega)
    go_enter Try.func11, Try.ntmps11
    go_wp2
    go_ret
    exact ⟨rfl, below1 w _⟩
  by_cases d6 : (16 : Int) < (n : Int)
  · obtain rfl : r = false := HN.out (fun h => by have h1 := h.many; have h2 := HL.out; simp only [Mi.m] at h1; omega)
    go_enter Try.func11, Try.ntmps11
    go_wp2
    go_ret
    exact ⟨rfl, below1 w _⟩
  have e0 : 1 ≤ k := by omega
  have e1 : k ≤ 6 := by omega
  have e2 : 0 ≤ f := by omega
  have e3 : f ≤ 7 := by omega
  have e4 : 0 ≤ t := by omega
  have e5 : t ≤ 7 := by omega
  have e6 : (n : Int) ≤ 16 := by omega
  clear d0 d1 d2 d3 d4 d5 d6
  go_enter Try.func11, Try.ntmps11
  go_wp2
  have HW : Hid (Below w.heap.size w (w.alloc (.cells #[.int .i64 k, .int .u32 (q : Int), .int .i64 f, .int .i64 t, .bool rp, .slice A n c] 25))) := Lib.hid (below1 w _)
  have HM1 := Lib.hid (HM.out _ rfl)
  generalize hw1 : w.alloc (.cells #[.int .i64 k, .int .u32 (q : Int), .int .i64 f, .int .i64 t, .bool rp, .slice A n c] 25) = w1 at HW HM1 ⊢
  have HUr : Hid (UsOk w1 ⟨A, c, l⟩) := Lib.hid (HU.out.below HW.out)
  clear hw1
  rw [HB.out]
  go_loopw [3] (fun kv wr => ∃ j : Nat, kv = .int .i64 (j : Int) ∧ j ≤ n ∧ Hid (∀ u ∈ l.take j, u.right = true) ∧ Hid (Below w1.heap.size w1 wr)) (fun kv _ => n - (RowKit.intOf kv).toNat)
  case atStart => exact ⟨0, rfl, Nat.zero_le _, Lib.hid (fun p hp => by simp at hp), Lib.hid (Below.refl _ _)⟩
  case round =>
    obtain ⟨j, rfl, hj, hno, hbe⟩ := hrel
    obtain ⟨c0, c1, c2, c3, c4, c5⟩ := (HM1.out.below hbe.out).cells
    simp only [HL.out] at c0 c1 c2 c3 c4 c5
    have HBE : Hid (Below w.heap.size w wr) := Lib.hid (HW.out.trans (hbe.out.mono HW.out.size))
    by_cases hlt : j < n
    · have hjl : j < l.length := by rw [HL.out]; exact hlt
      have hs := (HUr.out.us.of_block hbe.out)
      simp only [HL.out] at hs
      obtain ⟨b, off, rfl, hbl, u0, u1, u2⟩ := hs.at_ hlt hjl
      obtain ⟨u, hu⟩ : ∃ u, l[j] = u := ⟨_, rfl⟩
      rw [hu] at u0 u1 u2
      have HUu := Lib.hid hu
      clear hu hs
      have q2 : (j : Int) < (n : Int) := by omega
      have q0 : (0 : Int) ≤ (j : Int) := by omega
      cases hru : u.right with
      | true =>
        have S1 := Lib.hid (rright_any u wr true hru)
        have HT : Hid (∀ u ∈ l.take (j + 1), u.right = true) := Lib.hid (by
          rw [List.take_succ_eq_append_getElem hjl, HUu.out]
          intro y hy
          rcases List.mem_append.1 hy with hy | hy
          · exact hno.out y hy
          · obtain rfl := List.mem_singleton.1 hy
            exact hru)
        clear hru
        go_wp2_with fail
        refine S1.out.mono ?_
        rintro e w2 ⟨rfl, hb⟩
        have HB3 := Lib.hid (hbe.out.trans (hb.mono hbe.out.size))
        clear hb
        go_wp2
        go_roundw
        case rel => exact ⟨j + 1, by go_num, by omega, HT, HB3⟩
        case measure => simp [RowKit.intOf]; omega
      | false =>
        have S1 := Lib.hid (rright_any u wr false hru)
        obtain rfl : r = false := HN.out (fun h => by
          have h1 := h.each u (by rw [← HUu.out]; exact List.getElem_mem _)
          rw [hru] at h1
          cases h1)
        clear hru
        go_wp2_with fail
        refine S1.out.mono ?_
        rintro e w2 ⟨rfl, hb⟩
        have HB3 := Lib.hid (HBE.out.trans (hb.mono HBE.out.size))
        clear hb
        go_wp2
        go_ret
        exact ⟨rfl, HB3.out⟩
    · obtain rfl : j = n := by omega
      have h1 := hno.out
      rw [List.take_of_length_le (by rw [HL.out]; exact Nat.le_refl _)] at h1
      have HI : Hid (r = true ↔ (5 ≤ k → q = 0 ∧ t = 0) ∧ (k < 5 → j = 0) ∧ (k ≠ 6 → rp = false) ∧ (k ≠ 1 → k ≠ 3 → t = 0)) := Lib.hid (by
        rw [HK.out]
        constructor
        · intro h
          refine ⟨h.late, fun h5 => ?_, h.rep, h.to⟩
          have h2 := h.early h5
          simp only [Mi.m] at h2
          rw [← HL.out, h2]
          rfl
        · rintro ⟨a1, a2, a3, a4⟩
          exact ⟨⟨e0, e1⟩, ⟨e2, e3⟩, ⟨e4, e5⟩, by show l.length ≤ 16; rw [HL.out]; omega, h1, a1, fun h5 => by
            have := a2 h5
            exact List.eq_nil_of_length_eq_zero (show l.length = 0 by rw [HL.out]; exact this), a3, a4⟩)
      clear h1
      clear e2 e3 e4 e5 hlt hj
      go_wp2
      all_goals go_ret
      all_goals refine ⟨ret_bool ?_, HBE.out⟩
      all_goals (rw [Bool.eq_iff_iff, HI.out]; clear c0 c1 c2 c3 c4 c5; simp_all <;> omega)
end Go.Proofs.Ytjbemjnofnifaaa
