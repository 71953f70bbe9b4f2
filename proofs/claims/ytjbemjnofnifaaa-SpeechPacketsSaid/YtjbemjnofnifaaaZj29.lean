/-
  Put of the program, walked (layer 13).
-/
import Derived.Test.YtjbemjnofnifaaaZj25
import Derived.Test.YtjbemjnofnifaaaZj28
namespace Go.Proofs.Ytjbemjnofnifaaa
open Go.RowKit
set_option linter.unusedSimpArgs false
set_option linter.unusedVariables false

def PutNo (w : World) (e : Ending) (w' : World) : Prop := e = .returned (.tuple #[.agg #[.int .u8 0, .slice none 0 0], .int .i64 2]) ∧ Below w.heap.size w w'
def PutYes (m : Ms) (w : World) (e : Ending) (w' : World) : Prop := ∃ A c, e = .returned (.tuple #[.agg #[.int .u8 m.kind, .slice A (bodyM m).length c], .int .i64 0]) ∧ Bs w' A c (bodyM m) ∧ c ≤ maxLen ∧ Below w.heap.size w w'
theorem put_setup {w w1 : World} {o : Obj} {a b : Value} {t : TypeId} (hb : Below ((w.alloc o).alloc (.cells #[a, b] t)).heap.size ((w.alloc o).alloc (.cells #[a, b] t)) w1) :
    Below w.heap.size w w1 ∧ w1.heap[w.heap.size + 1]? = some (.cells #[a, b] t (0, 0)) := by
  refine ⟨(below2 w _ _).trans (hb.mono (by simp; omega)), ?_⟩
  have := heap_alloc_new (w.alloc o) (.cells #[a, b] t)
  rw [World.size_alloc] at this
  exact (hb.block _ (by simp)).trans this
theorem blk2 {W : World} {X : Nat} {a b : Value} {t : TypeId} (h : W.heap[X]? = some (.cells #[a, b] t (0, 0))) : W.cell? ⟨X, 0, none⟩ = some a ∧ W.cell? ⟨X, 1, none⟩ = some b := by
  refine ⟨?_, ?_⟩ <;> (rw [cell_of_row _ _ _ _ _ _ h]; rfl)
theorem partsL_at (k : Int) {j : Nat} (hj : j < (partsL k).length) : ∃ p : Nat, p < 5 ∧ (partsL k)[j] = (p : Int) := by
  have : ∀ q ∈ partsL k, ∃ p : Nat, p < 5 ∧ q = (p : Int) := by
    unfold partsL
    intro q hq
    repeat' split at hq
    all_goals simp only [List.mem_cons, List.not_mem_nil, or_false] at hq
    · rcases hq with rfl | rfl | rfl
      · exact ⟨0, by decide, rfl⟩
      · exact ⟨1, by decide, rfl⟩
      · exact ⟨2, by decide, rfl⟩
    · rcases hq with rfl | rfl
      · exact ⟨0, by decide, rfl⟩
      · exact ⟨1, by decide, rfl⟩
    · rcases hq with rfl | rfl
      · exact ⟨1, by decide, rfl⟩
      · exact ⟨4, by decide, rfl⟩
    · rcases hq with rfl | rfl | rfl
      · exact ⟨1, by decide, rfl⟩
      · exact ⟨3, by decide, rfl⟩
      · exact ⟨4, by decide, rfl⟩
  exact this _ (List.getElem_mem hj)
theorem partsY_length {m : Ms} (h : m.Ok) (hw : m.wide) : ∀ l : List Int, (l.flatMap (fun p => partY m p.toNat)).length ≤ 441 * l.length
  | [] => by simp
  | p :: l => by
    have h1 := partsY_length h hw l
    have h2 := partY_length h hw p.toNat
    rw [List.flatMap_cons, List.length_append, List.length_cons]
    omega
set_option maxHeartbeats 4000000 in
theorem put_no (x : Mi) (w : World) (h : UsOk w x.us) (hr : x.m.right = false) :
    Calls Try.prog 9 #[miV x] w (PutNo w) := by
  have HU := Lib.hid h
  have S1 := Lib.hid (fun W (hb : Below w.heap.size w W) => right_any x W (HU.out.below hb) false hr)
  unfold miV at S1 ⊢
  obtain ⟨X, hX⟩ : ∃ X, w.heap.size = X := ⟨_, rfl⟩
  have HX := Lib.hid hX
  clear h hr hX
  go_enter Try.func9, Try.ntmps9
  go_wp2_with fail
  refine (S1.out _ (below2 w _ _)).mono ?_
  rintro e w1 ⟨rfl, hb⟩
  obtain ⟨hb1, hf⟩ := put_setup hb
  rw [HX.out] at hf
  rw [HX.out]
  obtain ⟨c0, c1⟩ := blk2 hf
  have g0 := blk_froz hf 0
  have g1 := blk_froz hf 1
  have HB := Lib.hid hb1
  clear hb hb1 hf
  go_wp2
  obtain ⟨d0, d1⟩ := set2 c0 c1 (.int .u8 0) (.slice none 0 0)
  refine bodyPost_ret (v := .tuple #[.agg #[.int .u8 0, .slice none 0 0], .int .i64 2]) (by simp [results, Try.results9, go_sem, d0, d1]) rfl ⟨rfl, ?_⟩
  exact (HB.out.setCell (p := ⟨X + 1, 0, none⟩) (by rw [HX.out]; exact Nat.le_succ X) _).setCell (p := ⟨X + 1, 1, none⟩) (by rw [HX.out]; exact Nat.le_succ X) _
set_option maxHeartbeats 8000000 in
set_option maxRecDepth 100000 in
theorem put_yes (x : Mi) (w : World) (h : UsOk w x.us) (hok : x.m.Ok) (hw : x.m.wide) :
    Calls Try.prog 9 #[miV x] w (PutYes x.m w) := by
  have HU := Lib.hid h
  have S1 := Lib.hid (fun W (hb : Below w.heap.size w W) => right_any x W (HU.out.below hb) true ((Ms.right_iff _).2 hok))
  have SL := Lib.hid (fun (W : World) (A : Option Addr) (c : Nat) (xs : List UInt8) (p : Nat) (hp : p < 5) (hB : Bs W A c xs) (hl : xs.length ≤ 10000) (hb : Below w.heap.size w W) => mlay_any A c xs x p hp W hB hl (HU.out.below hb) hok hw)
  have HY : Hid (bodyM x.m = (partsL x.m.kind).flatMap (fun p => partY x.m p.toNat)) := Lib.hid (body_parts hok)
  have HLn := Lib.hid (partsY_length hok hw)
  have hk : 1 ≤ x.kind ∧ x.kind ≤ 6 := hok.kind
  have HK : Hid (x.m.kind = x.kind) := Lib.hid rfl
  have ek : x.m.kind = x.kind := rfl
  unfold PutYes
  rw [ek]
  obtain ⟨Y, hY⟩ : ∃ Y, bodyM x.m = Y := ⟨_, rfl⟩
  obtain ⟨Z, hZ⟩ : ∃ Z, x.m = Z := ⟨_, rfl⟩
  rw [hY] at HY ⊢
  rw [hZ] at HY HLn HK
  have HZ := Lib.hid hZ
  rw [HK.out] at HY
  have hl3 := partsL_le x.kind
  have HM : Hid (∀ (T : TypeId) (o : Obj), T = 25 → MiB ((w.alloc (.cells #[.int .i64 x.kind, .int .u32 (x.seq : Int), .int .i64 x.src, .int .i64 x.tgt, .bool x.rep, .slice x.us.A x.us.l.length x.us.c] T)).alloc o) w.heap.size x) := Lib.hid (fun T o e => by rw [e]; exact (MiB.new w x).below (below1 _ _))
  unfold miV at S1 SL ⊢
  obtain ⟨X, hX⟩ : ∃ X, w.heap.size = X := ⟨_, rfl⟩
  have HX := Lib.hid hX
  rw [hX] at HM
  obtain ⟨k1, k6⟩ := hk
  clear h hX hok hw hY hZ ek
  generalize hPY : (fun w e w' => ∃ A c, e = Ending.returned (.tuple #[.agg #[.int .u8 x.kind, .slice A Y.length c], .int .i64 0]) ∧ Bs w' A c Y ∧ c ≤ maxLen ∧ Below w.heap.size w w' : World → Ending → World → Prop) = PY
  have HPY := Lib.hid hPY
  clear hPY
  show Calls _ _ _ w (fun e w' => ∃ A c, e = Ending.returned (.tuple #[.agg #[.int .u8 x.kind, .slice A Y.length c], .int .i64 0]) ∧ Bs w' A c Y ∧ c ≤ maxLen ∧ Below w.heap.size w w')
  have hP : (fun e w' => ∃ A c, e = Ending.returned (.tuple #[.agg #[.int .u8 x.kind, .slice A Y.length c], .int .i64 0]) ∧ Bs w' A c Y ∧ c ≤ maxLen ∧ Below w.heap.size w w') = PY w := by rw [← HPY.out]
  rw [hP]
  clear hP
  go_enter Try.func9, Try.ntmps9
  go_wp2_with fail
  refine (S1.out _ (below2 w _ _)).mono ?_
  rintro e w1 ⟨rfl, hb⟩
  obtain ⟨hb1, hf⟩ := put_setup hb
  have HM1 : Hid (MiB w1 X x) := Lib.hid ((HM.out _ _ rfl).below hb)
  rw [HX.out] at hf
  rw [HX.out]
  have HF := Lib.hid hf
  have HB := Lib.hid hb1
  obtain ⟨m0, m1, m2, m3, m4, m5⟩ := HM1.out.cells
  clear hb hb1 hf
  go_wp2_with fail
  refine (partsOf_any x.kind w1).mono ?_
  rintro e w2 ⟨A, c, rfl, hp, hb⟩
  have HP := Lib.hid hp
  have HB2 := Lib.hid hb
  obtain ⟨n, hn⟩ : ∃ n, (partsL x.kind).length = n := ⟨_, rfl⟩
  have HN := Lib.hid hn
  rw [hn] at hl3 ⊢
  clear hp hb hn m0 m1 m2 m3 m4 m5
  go_wp2
  go_loopw [4, 15] (fun bv kv wr => ∃ (j : Nat) (A2 : Option Addr) (c2 : Nat) (Yj : List UInt8), j ≤ n ∧ kv = .int .i64 (j : Int) ∧ Hid (Yj = ((partsL x.kind).take j).flatMap (fun p => partY Z p.toNat)) ∧ bv = .slice A2 Yj.length c2 ∧ Hid (Bs wr A2 c2 Yj) ∧ Hid (Below w2.heap.size w2 wr) ∧ Hid (c2 ≤ maxLen ∧ ∀ b off, A2 = some ⟨b, off, none⟩ → X + 2 ≤ b)) (fun _ kv _ => n - (RowKit.intOf kv).toNat)
  case atStart => exact ⟨0, none, 0, [], Nat.zero_le _, rfl, Lib.hid (by simp), rfl, Lib.hid (Bs.zero _), Lib.hid (Below.refl _ _), Lib.hid ⟨Nat.zero_le _, fun _ _ e => by cases e⟩⟩
  case round =>
    obtain ⟨j, A2, c2, Yj, hj, rfl, hYj, rfl, hB2, hb2, hm2⟩ := hrel
    have HBr : Hid (Below w1.heap.size w1 wr) := Lib.hid (HB2.out.trans (hb2.out.mono HB2.out.size))
    have HBw : Hid (Below w.heap.size w wr) := Lib.hid (HB.out.trans (HBr.out.mono HB.out.size))
    obtain ⟨m0, m1, m2, m3, m4, m5⟩ := (HM1.out.below HBr.out).cells
    by_cases hlt : j < n
    · have hjl : j < (partsL x.kind).length := by rw [HN.out]; exact hlt
      obtain ⟨b, off, rfl, hbl, hc⟩ := (HP.out.below hb2.out).at_ hjl
      obtain ⟨p, hp5, hpe⟩ := partsL_at x.kind hjl
      rw [hpe] at hc
      have q2 : (j : Int) < (n : Int) := by omega
      have q0 : (0 : Int) ≤ (j : Int) := by omega
      have lY : Yj.length ≤ 441 * j := by
        rw [hYj.out]
        have := HLn.out ((partsL x.kind).take j)
        rw [List.length_take] at this
        exact Nat.le_trans this (Nat.mul_le_mul_left _ (Nat.min_le_left _ _))
      obtain ⟨Yn, hYn⟩ : ∃ Yn, Yj ++ partY x.m p = Yn := ⟨_, rfl⟩
      have S2 := Lib.hid (SL.out wr A2 c2 Yj p hp5 hB2.out (by omega) HBw.out)
      rw [hYn] at S2
      have HYn : Hid (Yn = ((partsL x.kind).take (j + 1)).flatMap (fun p => partY Z p.toNat)) := Lib.hid (by
        rw [List.take_succ_eq_append_getElem hjl, List.flatMap_append, ← hYj.out, hpe, ← hYn, HZ.out]
        simp)
      clear hpe hYn lY
      go_wp2_with fail
      refine S2.out.mono ?_
      rintro e w3 ⟨A3, c3, rfl, h1, h2, h3⟩
      have HS3 := Lib.hid h1
      have HB3 := Lib.hid (hb2.out.trans (h3.mono hb2.out.size))
      have HM3 : Hid (c3 ≤ maxLen ∧ ∀ b off, A3 = some ⟨b, off, none⟩ → X + 2 ≤ b) := Lib.hid ⟨h2.1, fun b off e => by
        have h8 := h2.2 b off e
        have h9 := block_lt HF.out
        have h10 := HBr.out.size
        omega⟩
      clear h1 h2 h3
      go_wp2
      go_roundw
      case rel => exact ⟨j + 1, A3, c3, Yn, by omega, by go_num, HYn, rfl, HS3, HB3, HM3⟩
      case measure => simp [RowKit.intOf]; omega
    · obtain rfl : j = n := by omega
      have h1 := hYj.out
      rw [List.take_of_length_le (by rw [HN.out]; exact Nat.le_refl _), ← HY.out] at h1
      subst h1
      have hf := (HBr.out.block _ (block_lt HF.out)).trans HF.out
      obtain ⟨c0, c1⟩ := blk2 hf
      have g0 := blk_froz hf 0
      have g1 := blk_froz hf 1
      have k8 : x.kind < 256 := by omega
      clear hf
      go_wp2
      obtain ⟨d0, d1⟩ := set2 c0 c1 (.int .u8 x.kind) (.slice A2 Yj.length c2)
      refine bodyPost_ret (v := .tuple #[.agg #[.int .u8 x.kind, .slice A2 Yj.length c2], .int .i64 0]) (by simp [results, Try.results9, go_sem, d0, d1]) rfl ?_
      rw [← HPY.out]
      have hX1 : w.heap.size ≤ X + 1 := by rw [HX.out]; exact Nat.le_succ X
      have hbs : Below w.heap.size w ((wr.setCell ⟨X + 1, 0, none⟩ (.int .u8 x.kind)).setCell ⟨X + 1, 1, none⟩ (.slice A2 Yj.length c2)) := (HBw.out.setCell (p := ⟨X + 1, 0, none⟩) hX1 _).setCell (p := ⟨X + 1, 1, none⟩) hX1 _
      have hbut : But (· = X + 1) wr ((wr.setCell ⟨X + 1, 0, none⟩ (.int .u8 x.kind)).setCell ⟨X + 1, 1, none⟩ (.slice A2 Yj.length c2)) := (But.set (S := (· = X + 1)) wr (p := ⟨X + 1, 0, none⟩) rfl _).trans (But.set (S := (· = X + 1)) _ (p := ⟨X + 1, 1, none⟩) rfl _)
      refine ⟨A2, c2, rfl, ⟨hB2.out.rb.but hbut (fun b off e _ hb => ?_), hB2.out.nil, hB2.out.le, hB2.out.ty.but hbut (fun b off e hb => ?_)⟩, hm2.out.1, hbs⟩
      all_goals
        have := hm2.out.2 b off e
        omega
end Go.Proofs.Ytjbemjnofnifaaa
