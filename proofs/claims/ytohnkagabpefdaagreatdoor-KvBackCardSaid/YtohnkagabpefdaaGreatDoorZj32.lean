/-
  The document's store: put, walked (layer 16).
-/
import Derived.Test.YtohnkagabpefdaaGreatDoorZj31
import Derived.Test.YtohnkagabpefdaaGreatDoorZj25
import Derived.Deep.CutRange
import Derived.Deep.DeepCutAuto
namespace Go.Proofs.YtohnkagabpefdaaGreatDoor
open Go.RowKit
set_option linter.unusedSimpArgs false
set_option linter.unusedVariables false


theorem full_ofK {t : Tb Kp} {k : ByteArray} (h : t.fullB k = false) : ¬ t.full k := fun e => by
  rw [(full_iff t k).2 e] at h
  cases h
theorem gtr_less (x y : ByteArray) (b : Bool) (h1 : ltT y x = b) (h2 : (x.toList == y.toList) = false) : Op.bytesLess x.toList y.toList = !b := by
  cases b with
  | true => exact ltT_asymm h1
  | false =>
    cases e : ltT x y
    · exact absurd (ltT_tri e h1) (text_other.1 h2)
    · exact e
theorem row_key {t : Tb Kp} (e0 : En) (i m : Nat) (h : m = ((getR t.l e0.key).map (·.made)).getD i) : t.row e0.key e0.val i = { e0 with made := m, ix := i } := by
  unfold Tb.row
  rw [h]
set_option maxHeartbeats 8000000 in
set_option maxRecDepth 100000 in
theorem krput_any {S : Nat → Prop} {B : Nat} {t : Tb Kp} (e0 : En) (i : Nat) (w : World) (h : KrAt S w B t) (hi : i < 18446744073709551616) (hk : e0.key.size ≤ maxLen) :
    Calls Tryz.prog 48 #[.pointer (some ⟨B, 0, none⟩), enV e0, .int .u64 (i : Int)] w fun e w' => e = .returned (.int .i64 ((putK t e0.key e0.val i).1 : Int)) ∧ KrAt (fun k => S k ∨ w.heap.size ≤ k) w' B (putK t e0.key e0.val i).2 ∧ But (· = B) w w' := by
  obtain ⟨hok, A, c, h⟩ := h
  have h64 : t.l.length ≤ 64 := Nat.le_trans hok.len hok.most.2
  have hmost := hok.most
  have HOk := Lib.hid hok
  obtain ⟨X, hX⟩ : ∃ X, w.heap.size = X := ⟨_, rfl⟩
  have H : Hid (KrIs (fun k => S k ∧ k < X) w B A c t) := Lib.hid (h.narrow fun k hk hs => ⟨hs, hX ▸ hk⟩)
  obtain ⟨W, hW⟩ : ∃ W, w.alloc (.cells #[.string e0.key, .string e0.val.v, .int .u64 (e0.val.ses : Int), .int .u64 (e0.val.lck : Int), .int .u64 (e0.made : Int), .int .u64 (e0.ix : Int)] TEn) = W := ⟨_, rfl⟩
  have hb0 : Below w.heap.size w W := by rw [← hW]; exact below1 _ _ _
  have hs0 : W.heap.size = X + 1 := by rw [← hW, ← hX]; simp
  have k0 : W.heap[X]? = some (.cells #[.string e0.key, .string e0.val.v, .int .u64 (e0.val.ses : Int), .int .u64 (e0.val.lck : Int), .int .u64 (e0.made : Int), .int .u64 (e0.ix : Int)] TEn (0, 0)) := by rw [← hW, ← hX]; exact heap_alloc_new w _
  have HG := Lib.hid (krget_any e0.key W (h.below hb0))
  have HB0 := Lib.hid hb0
  have HS0 := Lib.hid hs0
  have HK0 := Lib.hid k0
  have HW := Lib.hid hW
  have HX := Lib.hid hX
  have hBX : B < X := hX ▸ h.lt
  obtain ⟨L, hL⟩ : ∃ L, t.l.length = L := ⟨_, rfl⟩
  rw [hL] at h64
  have HL := Lib.hid hL
  obtain ⟨o, ho⟩ : ∃ o, getR t.l e0.key = o := ⟨_, rfl⟩
  rw [ho] at HG
  rw [hX]
  have HO := Lib.hid ho
  have HKy := Lib.hid hk
  obtain ⟨x0, x1, x2, x3, x4, x5⟩ := Kt.blk k0
  have hXl0 := block_lt k0
  unfold enV Kt.trV
  clear hok h hX hL ho hb0 hs0 k0 hW hk
  go_enter Tryz.func48, Tryz.ntmps48
  go_wp2_with fail
  rw [HW.out, HX.out]
  clear x0 x1 x2 x3 x4 x5 hXl0
  refine HG.out.mono ?_
  rintro e w1 ⟨rfl, hb1⟩
  obtain ⟨gr, hgr⟩ : ∃ gr, o.getD noEn = gr := ⟨_, rfl⟩
  unfold gotE
  rw [hgr]
  unfold enV Kt.trV
  have hs1 : X + 1 ≤ w1.heap.size := by rw [← HS0.out]; exact hb1.size
  obtain ⟨Y, hY⟩ : ∃ Y, w1.heap.size = Y := ⟨_, rfl⟩
  rw [hY] at hs1
  obtain ⟨W2, hW2⟩ : ∃ W2, w1.alloc (.cells #[.string gr.key, .string gr.val.v, .int .u64 (gr.val.ses : Int), .int .u64 (gr.val.lck : Int), .int .u64 (gr.made : Int), .int .u64 (gr.ix : Int)] TEn) = W2 := ⟨_, rfl⟩
  have HB2 : Hid (Below (X + 1) W W2) := Lib.hid (by rw [← hW2, ← HS0.out]; exact hb1.alloc hb1.size _)
  have ky : W2.heap[Y]? = some (.cells #[.string gr.key, .string gr.val.v, .int .u64 (gr.val.ses : Int), .int .u64 (gr.val.lck : Int), .int .u64 (gr.made : Int), .int .u64 (gr.ix : Int)] TEn (0, 0)) := by rw [← hW2, ← hY]; exact heap_alloc_new w1 _
  have hs2 : W2.heap.size = Y + 1 := by rw [← hW2, ← hY]; simp
  have HW2 := Lib.hid hW2
  have HY := Lib.hid hY
  have HS2 := Lib.hid hs2
  have HGr := Lib.hid hgr
  have HKy2 := Lib.hid ky
  have ht2 : KrIs (fun k => S k ∧ k < X) W2 B A c t := (H.out.below HB0.out).below (by rw [HS0.out]; exact HB2.out)
  have c0 := ht2.c0
  have c1 : W2.cell? ⟨B, 1, none⟩ = some (.slice A L c) := by have := ht2.c1; rw [HL.out] at this; exact this
  have HT2 := Lib.hid ht2
  have HK2 := Lib.hid ((HB2.out.block X (by omega)).trans HK0.out)
  clear hgr hW2 hY ky hs2 hb1 HG ht2
  have hm : L ≤ 9223372036854775807 := by omega
  rcases (show (o = none ∧ t.most ≤ L) ∨ (o = none ∧ ¬ t.most ≤ L) ∨ (∃ r0, o = some r0) by
    cases o with
    | none => by_cases q : t.most ≤ L <;> simp [q]
    | some r => simp) with ⟨rfl, hf⟩ | ⟨rfl, hf⟩ | ⟨r0, rfl⟩
  · simp only [Option.isSome_none]
    have d1 : decide ((t.most : Int) ≤ (L : Int)) = true := decide_eq_true (by omega)
    go_wp2_with fail
    rw [HW2.out, HY.out]
    go_quiet (fail)
    generalize hW3 : W2.drewN _ = W3
    have f3 : W3.heap = W2.heap := by rw [← hW3]; rfl
    have HT3 : Hid (KrIs (fun k => S k ∧ k < X) W3 B A c t) := Lib.hid (by rw [← hW3]; exact HT2.out.below (below_drewN (Below.refl _ _) _))
    have HB3 : Hid (Below (X + 1) W W3) := Lib.hid (by rw [← hW3]; exact below_drewN HB2.out _)
    have hs3 : W3.heap.size = Y + 1 := by rw [f3]; exact HS2.out
    have kx : W3.heap[X]? = some (.cells #[.string e0.key, .string e0.val.v, .int .u64 (e0.val.ses : Int), .int .u64 (e0.val.lck : Int), .int .u64 (e0.made : Int), .int .u64 (e0.ix : Int)] TEn (0, 0)) := by rw [f3]; exact HK2.out
    have ky : W3.heap[Y]? = some (.cells #[.string gr.key, .string gr.val.v, .int .u64 (gr.val.ses : Int), .int .u64 (gr.val.lck : Int), .int .u64 (gr.made : Int), .int .u64 (gr.ix : Int)] TEn (0, 0)) := by rw [f3]; exact HKy2.out
    have HKX := Lib.hid kx
    have HS3 := Lib.hid hs3
    clear hW3 f3 c0 c1
    clear kx ky hs3
    go_wp2
    go_ret
    have hF : t.fullB e0.key = true := by
      unfold Tb.fullB
      rw [HO.out, HL.out, decide_eq_true hf]
      rfl
    unfold putK
    rw [if_pos hF]
    have hb3 : Below w.heap.size w W3 := HB0.out.trans (HB3.out.mono (by have := HX.out; omega))
    exact ⟨rfl, ⟨HOk.out, A, c, (H.out.below hb3).narrow fun k _ z => .inl z.1⟩, But.of_below hb3⟩
  case' inr.inl =>
    simp only [Option.isSome_none]
    have d1 : decide ((t.most : Int) ≤ (L : Int)) = false := decide_eq_false (by omega)
    go_wp2_with fail
    rw [HW2.out, HY.out]
    go_quiet (fail)
    generalize hW3 : W2.drewN _ = W3
    have f3 : W3.heap = W2.heap := by rw [← hW3]; rfl
    have HT3 : Hid (KrIs (fun k => S k ∧ k < X) W3 B A c t) := Lib.hid (by rw [← hW3]; exact HT2.out.below (below_drewN (Below.refl _ _) _))
    have HB3 : Hid (Below (X + 1) W W3) := Lib.hid (by rw [← hW3]; exact below_drewN HB2.out _)
    have hs3 : W3.heap.size = Y + 1 := by rw [f3]; exact HS2.out
    have kx : W3.heap[X]? = some (.cells #[.string e0.key, .string e0.val.v, .int .u64 (e0.val.ses : Int), .int .u64 (e0.val.lck : Int), .int .u64 (e0.made : Int), .int .u64 (e0.ix : Int)] TEn (0, 0)) := by rw [f3]; exact HK2.out
    have ky : W3.heap[Y]? = some (.cells #[.string gr.key, .string gr.val.v, .int .u64 (gr.val.ses : Int), .int .u64 (gr.val.lck : Int), .int .u64 (gr.made : Int), .int .u64 (gr.ix : Int)] TEn (0, 0)) := by rw [f3]; exact HKy2.out
    have HKX := Lib.hid kx
    have HS3 := Lib.hid hs3
    clear hW3 f3 c0 c1
    obtain ⟨x0, x1, x2, x3, x4, x5⟩ := Kt.blk kx
    have y4 := (Kt.blk ky).2.2.2.2.1
    have g4 := blk_froz kx 4
    have g5 := blk_froz kx 5
    have hXl := block_lt kx
    have hYl := block_lt ky
    have k4 : (W3.setCell ⟨X, 4, none⟩ (.int .u64 (i : Int))).heap[X]? = some (.cells #[.string e0.key, .string e0.val.v, .int .u64 (e0.val.ses : Int), .int .u64 (e0.val.lck : Int), .int .u64 (i : Int), .int .u64 (e0.ix : Int)] TEn (0, 0)) := block_set kx 4 _
    have k5 : ((W3.setCell ⟨X, 4, none⟩ (.int .u64 (i : Int))).setCell ⟨X, 5, none⟩ (.int .u64 (i : Int))).heap[X]? = some (.cells #[.string e0.key, .string e0.val.v, .int .u64 (e0.val.ses : Int), .int .u64 (e0.val.lck : Int), .int .u64 (i : Int), .int .u64 (i : Int)] TEn (0, 0)) := block_set k4 5 _
    have hb5 : Below X W3 ((W3.setCell ⟨X, 4, none⟩ (.int .u64 (i : Int))).setCell ⟨X, 5, none⟩ (.int .u64 (i : Int))) := ((Below.refl X W3).setCell (by exact Nat.le_refl X) _).setCell (by exact Nat.le_refl X) _
    obtain ⟨rr, hrr⟩ : ∃ rr, t.row e0.key e0.val i = rr := ⟨_, rfl⟩
    have hrr2 : rr = { e0 with made := i, ix := i } := by rw [← hrr, row_key e0 i i (by rw [HO.out]; rfl)]
    have HX5 : Hid (((W3.setCell ⟨X, 4, none⟩ (.int .u64 (i : Int))).setCell ⟨X, 5, none⟩ (.int .u64 (i : Int))).heap[X]? = some (.cells #[.string rr.key, .string rr.val.v, .int .u64 (rr.val.ses : Int), .int .u64 (rr.val.lck : Int), .int .u64 (rr.made : Int), .int .u64 (rr.ix : Int)] TEn (0, 0))) := Lib.hid (by rw [hrr2]; exact k5)
    have HT5 := Lib.hid (HT3.out.but (S' := (· = X)) (w' := (W3.setCell ⟨X, 4, none⟩ (.int .u64 (i : Int))).setCell ⟨X, 5, none⟩ (.int .u64 (i : Int))) ((But.set (S := (· = X)) _ rfl _).trans (But.set (S := (· = X)) _ rfl _)) fun k e z => by omega)
    have HB5 : Hid (Below X W ((W3.setCell ⟨X, 4, none⟩ (.int .u64 (i : Int))).setCell ⟨X, 5, none⟩ (.int .u64 (i : Int)))) := Lib.hid ((HB3.out.mono (by omega)).trans hb5)
    have HS5 : Hid (((W3.setCell ⟨X, 4, none⟩ (.int .u64 (i : Int))).setCell ⟨X, 5, none⟩ (.int .u64 (i : Int))).heap.size = Y + 1) := Lib.hid (by simp [World.setCell, hs3])
    have HRr := Lib.hid hrr
    have HRk := Lib.hid (show rr.key = e0.key by rw [hrr2])
    have HF : Hid (t.fullB e0.key = false) := Lib.hid (by
      unfold Tb.fullB
      rw [HL.out, decide_eq_false hf, Bool.and_false])
    clear hrr hrr2 hb5 k5 kx ky hs3 hf k4
    go_wp2
    obtain ⟨W5, hW5⟩ : ∃ W5, (W3.setCell ⟨X, 4, none⟩ (.int .u64 (i : Int))).setCell ⟨X, 5, none⟩ (.int .u64 (i : Int)) = W5 := ⟨_, rfl⟩
    rw [hW5] at HX5 HT5 HB5 HS5
    rw [hW5]
    clear hW5 x0 x1 x2 x3 x4 x5 y4 g4 g5 hXl hYl
  case' inr.inr =>
    simp only [Option.isSome_some]
    go_wp2_with fail
    rw [HW2.out, HY.out]
    go_quiet (fail)
    generalize hW3 : W2.drewN _ = W3
    have f3 : W3.heap = W2.heap := by rw [← hW3]; rfl
    have HT3 : Hid (KrIs (fun k => S k ∧ k < X) W3 B A c t) := Lib.hid (by rw [← hW3]; exact HT2.out.below (below_drewN (Below.refl _ _) _))
    have HB3 : Hid (Below (X + 1) W W3) := Lib.hid (by rw [← hW3]; exact below_drewN HB2.out _)
    have hs3 : W3.heap.size = Y + 1 := by rw [f3]; exact HS2.out
    have kx : W3.heap[X]? = some (.cells #[.string e0.key, .string e0.val.v, .int .u64 (e0.val.ses : Int), .int .u64 (e0.val.lck : Int), .int .u64 (e0.made : Int), .int .u64 (e0.ix : Int)] TEn (0, 0)) := by rw [f3]; exact HK2.out
    have ky : W3.heap[Y]? = some (.cells #[.string gr.key, .string gr.val.v, .int .u64 (gr.val.ses : Int), .int .u64 (gr.val.lck : Int), .int .u64 (gr.made : Int), .int .u64 (gr.ix : Int)] TEn (0, 0)) := by rw [f3]; exact HKy2.out
    have HKX := Lib.hid kx
    have HS3 := Lib.hid hs3
    clear hW3 f3 c0 c1
    obtain ⟨x0, x1, x2, x3, x4, x5⟩ := Kt.blk kx
    have y4 := (Kt.blk ky).2.2.2.2.1
    have g4 := blk_froz kx 4
    have g5 := blk_froz kx 5
    have hXl := block_lt kx
    have hYl := block_lt ky
    have k4 : (W3.setCell ⟨X, 4, none⟩ (.int .u64 (i : Int))).heap[X]? = some (.cells #[.string e0.key, .string e0.val.v, .int .u64 (e0.val.ses : Int), .int .u64 (e0.val.lck : Int), .int .u64 (i : Int), .int .u64 (e0.ix : Int)] TEn (0, 0)) := block_set kx 4 _
    have k4' : ((W3.setCell ⟨X, 4, none⟩ (.int .u64 (i : Int))).setCell ⟨X, 4, none⟩ (.int .u64 (gr.made : Int))).heap[X]? = some (.cells #[.string e0.key, .string e0.val.v, .int .u64 (e0.val.ses : Int), .int .u64 (e0.val.lck : Int), .int .u64 (gr.made : Int), .int .u64 (e0.ix : Int)] TEn (0, 0)) := block_set k4 4 _
    have k5 : (((W3.setCell ⟨X, 4, none⟩ (.int .u64 (i : Int))).setCell ⟨X, 4, none⟩ (.int .u64 (gr.made : Int))).setCell ⟨X, 5, none⟩ (.int .u64 (i : Int))).heap[X]? = some (.cells #[.string e0.key, .string e0.val.v, .int .u64 (e0.val.ses : Int), .int .u64 (e0.val.lck : Int), .int .u64 (gr.made : Int), .int .u64 (i : Int)] TEn (0, 0)) := block_set k4' 5 _
    have hb5 : Below X W3 (((W3.setCell ⟨X, 4, none⟩ (.int .u64 (i : Int))).setCell ⟨X, 4, none⟩ (.int .u64 (gr.made : Int))).setCell ⟨X, 5, none⟩ (.int .u64 (i : Int))) := (((Below.refl X W3).setCell (by exact Nat.le_refl X) _).setCell (by exact Nat.le_refl X) _).setCell (by exact Nat.le_refl X) _
    obtain ⟨rr, hrr⟩ : ∃ rr, t.row e0.key e0.val i = rr := ⟨_, rfl⟩
    have hrr2 : rr = { e0 with made := gr.made, ix := i } := by rw [← hrr, row_key e0 i gr.made (by rw [HO.out, ← HGr.out]; rfl)]
    have HX5 : Hid ((((W3.setCell ⟨X, 4, none⟩ (.int .u64 (i : Int))).setCell ⟨X, 4, none⟩ (.int .u64 (gr.made : Int))).setCell ⟨X, 5, none⟩ (.int .u64 (i : Int))).heap[X]? = some (.cells #[.string rr.key, .string rr.val.v, .int .u64 (rr.val.ses : Int), .int .u64 (rr.val.lck : Int), .int .u64 (rr.made : Int), .int .u64 (rr.ix : Int)] TEn (0, 0))) := Lib.hid (by rw [hrr2]; exact k5)
    have HT5 := Lib.hid (HT3.out.but (S' := (· = X)) (w' := ((W3.setCell ⟨X, 4, none⟩ (.int .u64 (i : Int))).setCell ⟨X, 4, none⟩ (.int .u64 (gr.made : Int))).setCell ⟨X, 5, none⟩ (.int .u64 (i : Int))) (((But.set (S := (· = X)) _ rfl _).trans (But.set (S := (· = X)) _ rfl _)).trans (But.set (S := (· = X)) _ rfl _)) fun k e z => by omega)
    have HB5 : Hid (Below X W (((W3.setCell ⟨X, 4, none⟩ (.int .u64 (i : Int))).setCell ⟨X, 4, none⟩ (.int .u64 (gr.made : Int))).setCell ⟨X, 5, none⟩ (.int .u64 (i : Int)))) := Lib.hid ((HB3.out.mono (by omega)).trans hb5)
    have HS5 : Hid ((((W3.setCell ⟨X, 4, none⟩ (.int .u64 (i : Int))).setCell ⟨X, 4, none⟩ (.int .u64 (gr.made : Int))).setCell ⟨X, 5, none⟩ (.int .u64 (i : Int))).heap.size = Y + 1) := Lib.hid (by simp [World.setCell, hs3])
    have HRr := Lib.hid hrr
    have HRk := Lib.hid (show rr.key = e0.key by rw [hrr2])
    have HF : Hid (t.fullB e0.key = false) := Lib.hid (by
      unfold Tb.fullB
      rw [HO.out]
      rfl)
    clear hrr hrr2 hb5 k5 kx ky hs3 k4 k4'
    go_wp2
    obtain ⟨W5, hW5⟩ : ∃ W5, ((W3.setCell ⟨X, 4, none⟩ (.int .u64 (i : Int))).setCell ⟨X, 4, none⟩ (.int .u64 (gr.made : Int))).setCell ⟨X, 5, none⟩ (.int .u64 (i : Int)) = W5 := ⟨_, rfl⟩
    rw [hW5] at HX5 HT5 HB5 HS5
    rw [hW5]
    clear hW5 x0 x1 x2 x3 x4 x5 y4 g4 g5 hXl hYl
  all_goals
    have hm2 : (L : Int) ≤ 9223372036854775807 := by omega
    go_loopw [9, 10, 11] (fun vv bv iv wr => ∃ (k : Nat) (bb : Bool) (ls : List En), k ≤ L ∧ iv = .int .i64 (k : Int) ∧ bv = .bool bb ∧ Hid (layR rr false t.l = ls ++ layR rr bb (t.l.drop k)) ∧ Hid (ls.length ≤ 2 * k) ∧ Hid (enRow wr (Y + 1) vv ls) ∧ Hid (Below (Y + 1) W5 wr)) (fun _ _ iv _ => L - (intOf iv).toNat)
    case atStart => exact ⟨0, false, [], Nat.zero_le _, rfl, rfl, Lib.hid rfl, Lib.hid (Nat.le_refl _), Lib.hid (rowK.nil _ _), Lib.hid (HS5.out ▸ Below.refl _ _)⟩
    case round =>
      obtain ⟨k, bb, ls, hk, rfl, rfl, hinv, hls, hrow, hb⟩ := hrel
      have ht := HT5.out.below (by rw [HS5.out]; exact hb.out)
      have c1 : wr.cell? ⟨B, 1, none⟩ = some (.slice A L c) := by have := ht.c1; rw [HL.out] at this; exact this
      by_cases hlt : k < L
      · have hkl : k < t.l.length := by rw [HL.out]; exact hlt
        obtain ⟨b, off, rfl, hbl, hit⟩ := ht.row.at_ hkl hkl
        have hd : t.l.drop k = t.l[k] :: t.l.drop (k + 1) := List.drop_eq_getElem_cons hkl
        obtain ⟨y, hy⟩ : ∃ y, t.l[k] = y := ⟨_, rfl⟩
        have HF' : Hid (∀ wx, Below (Y + 1) W5 wx → wx.cell? ⟨B, 1, none⟩ = some (.slice (some ⟨b, off, none⟩) L c) ∧ ItAt enC wx b (off + k * 6) y ∧ wx.heap[X]? = some (.cells #[.string rr.key, .string rr.val.v, .int .u64 (rr.val.ses : Int), .int .u64 (rr.val.lck : Int), .int .u64 (rr.made : Int), .int .u64 (rr.ix : Int)] TEn (0, 0))) := Lib.hid fun wx hx => by
          have h1 := HT5.out.below (w' := wx) (by rw [HS5.out]; exact hx)
          obtain ⟨b', off', e, _, h2⟩ := h1.row.at_ hkl hkl
          cases e
          rw [hy] at h2
          have h3 := h1.c1
          rw [HL.out] at h3
          exact ⟨h3, h2, (hx.block X (by omega)).trans HX5.out⟩
        rw [hy] at hd
        have HD := Lib.hid hd
        clear hd hy hit ht c1
        have hlb : ls.length ≤ 1000 := by have := hls.out; omega
        by_cases hz : y.key = e0.key
        · have zz : (y.key.toList == rr.key.toList) = true := by rw [HRk.out]; exact text_same.2 hz
          have HI1 : Hid (layR rr false t.l = (ls ++ [rr]) ++ layR rr true (t.l.drop (k + 1))) := Lib.hid (by
            rw [hinv.out, HD.out, layR, if_pos zz, List.append_assoc]
            rfl)
          clear hz
          obtain ⟨c1, hit, kz⟩ := HF'.out wr hb.out
          obtain ⟨e0', e1, e2, e3, e4, e5⟩ := Kt.tr_cells hit
          obtain ⟨z0, z1, z2, z3, z4, z5⟩ := Kt.blk kz
          have hzl := block_lt kz
          clear hit kz
          go_wp2
          go_quiet (fail)
          generalize hWq : wr.drewN _ = wq
          have HBq : Hid (Below (Y + 1) W5 wq) := Lib.hid (by rw [← hWq]; exact below_drewN hb.out _)
          have HRq : Hid (enRow wq (Y + 1) u9 ls) := Lib.hid (by rw [← hWq]; exact hrow.out.below (below_drewN (Below.refl _ _) _))
          clear hWq c1 e0' e1 e2 e3 e4 e5 z0 z1 z2 z3 z4 z5 hzl
          obtain ⟨c1, hit, kz⟩ := HF'.out wq HBq.out
          obtain ⟨e0', e1, e2, e3, e4, e5⟩ := Kt.tr_cells hit
          obtain ⟨z0, z1, z2, z3, z4, z5⟩ := Kt.blk kz
          have hzl := block_lt kz
          clear hit kz
          go_wp2_with (at_builtin; refine wpList_append_en rfl (.tmp 61) (.tmp 63) rfl (Y + 1) _ _ rfl ?qa wq.heap.size rr rfl ?qb hlb ?qc ?_)
          case qa => exact HRq.out.below ((Below.refl _ _).alloc (Nat.le_refl _) _)
          case qb => exact en_new wq rr _
          case qc => have := HBq.out.size; have := HS5.out; simp; omega
          refine Lib.hid ?_
          intro vwn wn hown hgr
          have HBn := Lib.hid (enRow.snoc_below HRq.out HBq.out (by have := HBq.out.size; have := HS5.out; omega) hgr)
          have HRn := Lib.hid hown
          clear hown hgr c1 e0' e1 e2 e3 e4 e5 z0 z1 z2 z3 z4 z5 hzl
          go_wp2
          go_roundw
          case rel => exact ⟨k + 1, true, ls ++ [rr], by omega, by go_num, rfl, HI1, Lib.hid (by simp; have := hls.out; omega), HRn, HBn⟩
          case measure => simp [intOf]; omega
        · have zz : (y.key.toList == rr.key.toList) = false := by rw [HRk.out]; exact text_other.2 hz
          have HZn := Lib.hid (show ¬ (y.key.toList == rr.key.toList) = true by rw [zz]; simp)
          clear hz
          cases bb with
          | true =>
            have HI1 : Hid (layR rr false t.l = (ls ++ [y]) ++ layR rr true (t.l.drop (k + 1))) := Lib.hid (by
              rw [hinv.out, HD.out, layR, if_neg HZn.out, if_neg (by simp), List.append_assoc]
              rfl)
            obtain ⟨c1, hit, kz⟩ := HF'.out wr hb.out
            obtain ⟨e0', e1, e2, e3, e4, e5⟩ := Kt.tr_cells hit
            obtain ⟨z0, z1, z2, z3, z4, z5⟩ := Kt.blk kz
            have hzl := block_lt kz
            clear hit kz
            go_wp2
            go_quiet (fail)
            generalize hWq : wr.drewN _ = wq
            have HBq : Hid (Below (Y + 1) W5 wq) := Lib.hid (by rw [← hWq]; exact below_drewN hb.out _)
            have HRq : Hid (enRow wq (Y + 1) u9 ls) := Lib.hid (by rw [← hWq]; exact hrow.out.below (below_drewN (Below.refl _ _) _))
            clear hWq c1 e0' e1 e2 e3 e4 e5 z0 z1 z2 z3 z4 z5 hzl
            obtain ⟨c1, hit, kz⟩ := HF'.out wq HBq.out
            obtain ⟨e0', e1, e2, e3, e4, e5⟩ := Kt.tr_cells hit
            obtain ⟨z0, z1, z2, z3, z4, z5⟩ := Kt.blk kz
            have hzl := block_lt kz
            clear hit kz
            go_wp2
            go_quiet (fail)
            generalize hWq : wq.drewN _ = wq2
            have HBq2 : Hid (Below (Y + 1) W5 wq2) := Lib.hid (by rw [← hWq]; exact below_drewN HBq.out _)
            have HRq2 : Hid (enRow wq2 (Y + 1) u9 ls) := Lib.hid (by rw [← hWq]; exact HRq.out.below (below_drewN (Below.refl _ _) _))
            clear hWq c1 e0' e1 e2 e3 e4 e5 z0 z1 z2 z3 z4 z5 hzl
            obtain ⟨c1, hit, kz⟩ := HF'.out wq2 HBq2.out
            obtain ⟨e0', e1, e2, e3, e4, e5⟩ := Kt.tr_cells hit
            obtain ⟨z0, z1, z2, z3, z4, z5⟩ := Kt.blk kz
            have hzl := block_lt kz
            clear hit kz
            go_wp2_with (at_builtin; refine wpList_append_en rfl (.tmp 84) (.tmp 92) rfl (Y + 1) _ _ rfl ?qa wq2.heap.size y rfl ?qb hlb ?qc ?_)
            case qa => exact HRq2.out.below ((Below.refl _ _).alloc (Nat.le_refl _) _)
            case qb => exact en_new wq2 y _
            case qc => have := HBq2.out.size; have := HS5.out; simp; omega
            refine Lib.hid ?_
            intro vwn wn hown hgr
            have HBn := Lib.hid (enRow.snoc_below HRq2.out HBq2.out (by have := HBq2.out.size; have := HS5.out; omega) hgr)
            have HRn := Lib.hid hown
            clear hown hgr c1 e0' e1 e2 e3 e4 e5 z0 z1 z2 z3 z4 z5 hzl
            go_wp2
            go_roundw
            case rel => exact ⟨k + 1, true, ls ++ [y], by omega, by go_num, rfl, HI1, Lib.hid (by simp; have := hls.out; omega), HRn, HBn⟩
            case measure => simp [intOf]; omega
          | false =>
            cases hg : ltT rr.key y.key with
            | true =>
              have g : Op.bytesLess y.key.toList rr.key.toList = false := gtr_less y.key rr.key true hg zz
              have HI1 : Hid (layR rr false t.l = (ls ++ [rr, y]) ++ layR rr true (t.l.drop (k + 1))) := Lib.hid (by
                rw [hinv.out, HD.out, layR, if_neg HZn.out, if_pos (by rw [hg]; rfl)]
                simp)
              clear hg
              obtain ⟨c1, hit, kz⟩ := HF'.out wr hb.out
              obtain ⟨e0', e1, e2, e3, e4, e5⟩ := Kt.tr_cells hit
              obtain ⟨z0, z1, z2, z3, z4, z5⟩ := Kt.blk kz
              have hzl := block_lt kz
              clear hit kz
              go_wp2
              go_quiet (fail)
              generalize hWq : wr.drewN _ = wq
              have HBq : Hid (Below (Y + 1) W5 wq) := Lib.hid (by rw [← hWq]; exact below_drewN hb.out _)
              have HRq : Hid (enRow wq (Y + 1) u9 ls) := Lib.hid (by rw [← hWq]; exact hrow.out.below (below_drewN (Below.refl _ _) _))
              clear hWq c1 e0' e1 e2 e3 e4 e5 z0 z1 z2 z3 z4 z5 hzl
              obtain ⟨c1, hit, kz⟩ := HF'.out wq HBq.out
              obtain ⟨e0', e1, e2, e3, e4, e5⟩ := Kt.tr_cells hit
              obtain ⟨z0, z1, z2, z3, z4, z5⟩ := Kt.blk kz
              have hzl := block_lt kz
              clear hit kz
              go_wp2
              go_quiet (fail)
              generalize hWq : wq.drewN _ = wq2
              have HBq2 : Hid (Below (Y + 1) W5 wq2) := Lib.hid (by rw [← hWq]; exact below_drewN HBq.out _)
              have HRq2 : Hid (enRow wq2 (Y + 1) u9 ls) := Lib.hid (by rw [← hWq]; exact HRq.out.below (below_drewN (Below.refl _ _) _))
              clear hWq c1 e0' e1 e2 e3 e4 e5 z0 z1 z2 z3 z4 z5 hzl
              obtain ⟨c1, hit, kz⟩ := HF'.out wq2 HBq2.out
              obtain ⟨e0', e1, e2, e3, e4, e5⟩ := Kt.tr_cells hit
              obtain ⟨z0, z1, z2, z3, z4, z5⟩ := Kt.blk kz
              have hzl := block_lt kz
              clear hit kz
              go_wp2_with (at_builtin; refine wpList_append_en rfl (.tmp 80) (.tmp 82) rfl (Y + 1) _ _ rfl ?qa wq2.heap.size rr rfl ?qb hlb ?qc ?_)
              case qa => exact HRq2.out.below ((Below.refl _ _).alloc (Nat.le_refl _) _)
              case qb => exact en_new wq2 rr _
              case qc => have := HBq2.out.size; have := HS5.out; simp; omega
              refine Lib.hid ?_
              intro vwn wn hown hgr
              have HBn := Lib.hid (enRow.snoc_below HRq2.out HBq2.out (by have := HBq2.out.size; have := HS5.out; omega) hgr)
              have HRn := Lib.hid hown
              clear hown hgr c1 e0' e1 e2 e3 e4 e5 z0 z1 z2 z3 z4 z5 hzl
              obtain ⟨c1, hit, kz⟩ := HF'.out wn HBn.out
              obtain ⟨e0', e1, e2, e3, e4, e5⟩ := Kt.tr_cells hit
              obtain ⟨z0, z1, z2, z3, z4, z5⟩ := Kt.blk kz
              have hzl := block_lt kz
              clear hit kz
              have hlb2 : (ls ++ [rr]).length ≤ 1000 := by simp; have := hls.out; omega
              go_wp2_with (at_builtin; refine wpList_append_en rfl (.tmp 84) (.tmp 92) rfl (Y + 1) _ _ rfl ?qa wn.heap.size y rfl ?qb hlb2 ?qc ?_)
              case qa => exact HRn.out.below ((Below.refl _ _).alloc (Nat.le_refl _) _)
              case qb => exact en_new wn y _
              case qc => have := HBn.out.size; have := HS5.out; simp; omega
              refine Lib.hid ?_
              intro vwm wm hown hgr
              have HBm := Lib.hid (enRow.snoc_below HRn.out HBn.out (by have := HBn.out.size; have := HS5.out; omega) hgr)
              have HRm := Lib.hid hown
              clear hown hgr c1 e0' e1 e2 e3 e4 e5 z0 z1 z2 z3 z4 z5 hzl
              go_wp2
              go_roundw
              case rel => exact ⟨k + 1, true, ls ++ [rr, y], by omega, by go_num, rfl, HI1, Lib.hid (by simp; have := hls.out; omega), HRm, HBm⟩
              case measure => simp [intOf]; omega
            | false =>
              have g : Op.bytesLess y.key.toList rr.key.toList = true := gtr_less y.key rr.key false hg zz
              have HI1 : Hid (layR rr false t.l = (ls ++ [y]) ++ layR rr false (t.l.drop (k + 1))) := Lib.hid (by
                rw [hinv.out, HD.out, layR, if_neg HZn.out, if_neg (by rw [hg]; simp), List.append_assoc]
                rfl)
              clear hg
              obtain ⟨c1, hit, kz⟩ := HF'.out wr hb.out
              obtain ⟨e0', e1, e2, e3, e4, e5⟩ := Kt.tr_cells hit
              obtain ⟨z0, z1, z2, z3, z4, z5⟩ := Kt.blk kz
              have hzl := block_lt kz
              clear hit kz
              go_wp2
              go_quiet (fail)
              generalize hWq : wr.drewN _ = wq
              have HBq : Hid (Below (Y + 1) W5 wq) := Lib.hid (by rw [← hWq]; exact below_drewN hb.out _)
              have HRq : Hid (enRow wq (Y + 1) u9 ls) := Lib.hid (by rw [← hWq]; exact hrow.out.below (below_drewN (Below.refl _ _) _))
              clear hWq c1 e0' e1 e2 e3 e4 e5 z0 z1 z2 z3 z4 z5 hzl
              obtain ⟨c1, hit, kz⟩ := HF'.out wq HBq.out
              obtain ⟨e0', e1, e2, e3, e4, e5⟩ := Kt.tr_cells hit
              obtain ⟨z0, z1, z2, z3, z4, z5⟩ := Kt.blk kz
              have hzl := block_lt kz
              clear hit kz
              go_wp2
              go_quiet (fail)
              generalize hWq : wq.drewN _ = wq2
              have HBq2 : Hid (Below (Y + 1) W5 wq2) := Lib.hid (by rw [← hWq]; exact below_drewN HBq.out _)
              have HRq2 : Hid (enRow wq2 (Y + 1) u9 ls) := Lib.hid (by rw [← hWq]; exact HRq.out.below (below_drewN (Below.refl _ _) _))
              clear hWq c1 e0' e1 e2 e3 e4 e5 z0 z1 z2 z3 z4 z5 hzl
              obtain ⟨c1, hit, kz⟩ := HF'.out wq2 HBq2.out
              obtain ⟨e0', e1, e2, e3, e4, e5⟩ := Kt.tr_cells hit
              obtain ⟨z0, z1, z2, z3, z4, z5⟩ := Kt.blk kz
              have hzl := block_lt kz
              clear hit kz
              go_wp2_with (at_builtin; refine wpList_append_en rfl (.tmp 84) (.tmp 92) rfl (Y + 1) _ _ rfl ?qa wq2.heap.size y rfl ?qb hlb ?qc ?_)
              case qa => exact HRq2.out.below ((Below.refl _ _).alloc (Nat.le_refl _) _)
              case qb => exact en_new wq2 y _
              case qc => have := HBq2.out.size; have := HS5.out; simp; omega
              refine Lib.hid ?_
              intro vwn wn hown hgr
              have HBn := Lib.hid (enRow.snoc_below HRq2.out HBq2.out (by have := HBq2.out.size; have := HS5.out; omega) hgr)
              have HRn := Lib.hid hown
              clear hown hgr c1 e0' e1 e2 e3 e4 e5 z0 z1 z2 z3 z4 z5 hzl
              go_wp2
              go_roundw
              case rel => exact ⟨k + 1, false, ls ++ [y], by omega, by go_num, rfl, HI1, Lib.hid (by simp; have := hls.out; omega), HRn, HBn⟩
              case measure => simp [intOf]; omega
      · -- the end
        have hkL : k = L := by omega
        have hdk : t.l.drop k = [] := List.drop_eq_nil_of_le (by rw [HL.out]; omega)
        have HI := Lib.hid (show layR rr false t.l = ls ++ layR rr bb [] by rw [hinv.out, hdk])
        have hlb : ls.length ≤ 1000 := by have := hls.out; omega
        clear hdk ht
        cases bb with
        | true =>
          have hMM : layR rr false t.l = ls := by
            rw [HI.out]; simp [layR]
          obtain ⟨M, hM⟩ : ∃ M, ls = M := ⟨_, rfl⟩
          have hrz : enRow wr (Y + 1) u9 M := by rw [← hM]; exact hrow.out
          rw [hM] at hMM
          obtain ⟨A2, c2, rfl, hSK, hnc, hmc, hge⟩ := SK.of_row Kt.trC_len hrz
          obtain ⟨m, hmm⟩ : ∃ m, M.length = m := ⟨_, rfl⟩
          have htz := HT5.out.below (w' := wr) (by rw [HS5.out]; exact hb.out)
          have hset : KrIs (fun k => (S k ∧ k < X) ∨ Y + 1 ≤ k) (wr.setCell ⟨B, 1, none⟩ (.slice A2 m c2)) B A2 c2 { t with l := M } := by
            rw [← hmm]
            exact (htz.fresh (g0 := Y + 1)).setRows hSK (fun b off e _ => ⟨.inr (hge b off e), by have := hge b off e; omega⟩) hnc hmc
          have hf := htz.froz 1
          have hbl := htz.lt
          have c1z := htz.c1
          have hr := krraise_any (A := A2) (c := c2) (t := { t with l := M }) i _ hset HOk.out.lst hi
          have HR2 := Lib.hid hr
          have hset1 := But.set (S := (· = B)) wr (p := ⟨B, 1, none⟩) rfl (.slice A2 m c2)
          have HBz : Hid (But (· = B) w (wr.setCell ⟨B, 1, none⟩ (.slice A2 m c2))) := Lib.hid (by
            have q1 : Below X w wr := by
              have := HB0.out
              rw [HX.out] at this
              exact this.trans (HB5.out.trans (hb.out.mono (by omega)))
            exact (But.of_below (by rw [HX.out]; exact q1)).trans hset1)
          have HPut : Hid ((putK t e0.key e0.val i).2 = ({ t with l := M } : Tb Kp).raise i ∧ (putK t e0.key e0.val i).1 = 0 ∧ ((putK t e0.key e0.val i).2).Ok) := Lib.hid (by
            unfold putK
            rw [HF.out]
            exact ⟨by show t.put e0.key e0.val i = _; unfold Tb.put Tb.raise; rw [HRr.out, hMM], rfl, HOk.out.put e0.key e0.val hi HKy.out (full_ofK HF.out)⟩)
          clear hMM hM hrz hSK hnc hge htz hset hr hset1
          rw [hmm]
          clear hmm
          go_wp2_with fail
          refine HR2.out.mono ?_
          rintro e w2 ⟨rfl, hr2, hb2⟩
          have H2 := Lib.hid hr2
          have HB2' := Lib.hid hb2
          clear hr2 hb2 HR2
          go_wp2
          go_ret
          refine ⟨by rw [HPut.out.2.1]; rfl, ⟨HPut.out.2.2, A2, c2, ?_⟩, HBz.out.trans HB2'.out⟩
          rw [HPut.out.1]
          exact H2.out.narrow fun k _ z => by
            rcases z with ⟨z, _⟩ | z
            · exact .inl z
            · exact .inr (by omega)
        | false =>
          obtain ⟨z0, z1, z2, z3, z4, z5⟩ := Kt.blk ((hb.out.block X (by omega)).trans HX5.out)
          go_wp2_with (at_builtin; refine wpList_append_en rfl (.tmp 96) (.tmp 98) rfl (Y + 1) _ _ rfl ?qa wr.heap.size rr rfl ?qb hlb ?qc ?_)
          case qa => exact hrow.out.below ((Below.refl _ _).alloc (Nat.le_refl _) _)
          case qb => exact en_new wr rr _
          case qc => have := hb.out.size; have := HS5.out; simp; omega
          refine Lib.hid ?_
          intro vwn wn hown hgr
          have HBn := Lib.hid (enRow.snoc_below hrow.out hb.out (by have := hb.out.size; have := HS5.out; omega) hgr)
          have HRn := Lib.hid hown
          clear hown hgr c1 z0 z1 z2 z3 z4 z5
          have hMM : layR rr false t.l = ls ++ [rr] := by
            rw [HI.out]; simp [layR]
          obtain ⟨M, hM⟩ : ∃ M, ls ++ [rr] = M := ⟨_, rfl⟩
          have hrz : enRow wn (Y + 1) vwn M := by rw [← hM]; exact HRn.out
          rw [hM] at hMM
          obtain ⟨A2, c2, rfl, hSK, hnc, hmc, hge⟩ := SK.of_row Kt.trC_len hrz
          obtain ⟨m, hmm⟩ : ∃ m, M.length = m := ⟨_, rfl⟩
          have htz := HT5.out.below (w' := wn) (by rw [HS5.out]; exact HBn.out)
          have hset : KrIs (fun k => (S k ∧ k < X) ∨ Y + 1 ≤ k) (wn.setCell ⟨B, 1, none⟩ (.slice A2 m c2)) B A2 c2 { t with l := M } := by
            rw [← hmm]
            exact (htz.fresh (g0 := Y + 1)).setRows hSK (fun b off e _ => ⟨.inr (hge b off e), by have := hge b off e; omega⟩) hnc hmc
          have hf := htz.froz 1
          have hbl := htz.lt
          have c1z := htz.c1
          have hr := krraise_any (A := A2) (c := c2) (t := { t with l := M }) i _ hset HOk.out.lst hi
          have HR2 := Lib.hid hr
          have hset1 := But.set (S := (· = B)) wn (p := ⟨B, 1, none⟩) rfl (.slice A2 m c2)
          have HBz : Hid (But (· = B) w (wn.setCell ⟨B, 1, none⟩ (.slice A2 m c2))) := Lib.hid (by
            have q1 : Below X w wn := by
              have := HB0.out
              rw [HX.out] at this
              exact this.trans (HB5.out.trans (HBn.out.mono (by omega)))
            exact (But.of_below (by rw [HX.out]; exact q1)).trans hset1)
          have HPut : Hid ((putK t e0.key e0.val i).2 = ({ t with l := M } : Tb Kp).raise i ∧ (putK t e0.key e0.val i).1 = 0 ∧ ((putK t e0.key e0.val i).2).Ok) := Lib.hid (by
            unfold putK
            rw [HF.out]
            exact ⟨by show t.put e0.key e0.val i = _; unfold Tb.put Tb.raise; rw [HRr.out, hMM], rfl, HOk.out.put e0.key e0.val hi HKy.out (full_ofK HF.out)⟩)
          clear hMM hM hrz hSK hnc hge htz hset hr hset1
          rw [hmm]
          clear hmm
          go_wp2_with fail
          refine HR2.out.mono ?_
          rintro e w2 ⟨rfl, hr2, hb2⟩
          have H2 := Lib.hid hr2
          have HB2' := Lib.hid hb2
          clear hr2 hb2 HR2
          go_wp2
          go_ret
          refine ⟨by rw [HPut.out.2.1]; rfl, ⟨HPut.out.2.2, A2, c2, ?_⟩, HBz.out.trans HB2'.out⟩
          rw [HPut.out.1]
          exact H2.out.narrow fun k _ z => by
            rcases z with ⟨z, _⟩ | z
            · exact .inl z
            · exact .inr (by omega)
end Go.Proofs.YtohnkagabpefdaaGreatDoor
