/-
  The document's Put, walked (layer 15).
-/
import Derived.Test.YtphjlcogjalidaaTbRefB
import Derived.Deep.CutRange
import Derived.Deep.DeepCutAuto
namespace Go.Proofs.Ytphjlcogjalidaa
open Go.RowKit
set_option linter.unusedSimpArgs false
set_option linter.unusedVariables false

/-- Is there no place for a new row with this key? -/
def Tb.fullB {α : Type} (t : Tb α) (k : ByteArray) : Bool := !(getR t.l k).isSome && decide (t.most ≤ t.l.length)
/-- What Put tells of, and what it makes. -/
def putV (t : Tb Int) (k : ByteArray) (v : Int) (i : Nat) : Value := if t.fullB k then .tuple #[trV noRw, .int .i64 5] else .tuple #[trV (t.row k v i), .int .i64 0]
def Tb.putT {α : Type} (t : Tb α) (k : ByteArray) (v : α) (i : Nat) : Tb α := if t.fullB k then t else t.put k v i
theorem full_of {α : Type} {t : Tb α} {k : ByteArray} (h : t.fullB k = false) : ¬ t.full k := fun ⟨h1, h2⟩ => by
  unfold Tb.fullB at h
  rw [h1, decide_eq_true h2] at h
  cases h
theorem lay_length_le (r : Rw Int) : ∀ (b : Bool) (l : List (Rw Int)), (layR r b l).length ≤ 2 * l.length + 1
  | true, [] | false, [] => by simp [layR]
  | b, x :: l => by
    rw [layR]
    split
    · have := lay_length_le r true l; simp; omega
    · split
      · have := lay_length_le r true l; simp; omega
      · have := lay_length_le r b l; simp; omega
/-- '>' of two texts. -/
theorem run_gtr_str (x y : ByteArray) (b : Bool) (h1 : ltT y x = b) (h2 : (x.toList == y.toList) = false) (w : World) : (binOp .gtr 9 (.string x) (.string y)).run Try.prog w = .ok (.bool b) w := by
  have h3 : Op.bytesLess x.toList y.toList = !b := by
    cases b with
    | true => exact ltT_asymm h1
    | false =>
      cases e : ltT x y
      · exact absurd (ltT_tri e h1) (text_other.1 h2)
      · exact e
  simp [binOp, Op.binOp, Try.underlying9, Op.stringOp, h2, h3]
set_option maxHeartbeats 8000000 in
theorem rput_any {S : Nat → Prop} {B : Nat} {t : Tb Int} (key : ByteArray) (v : Int) (i : Nat) (w : World) (h : RtAt S w B t) (hi : i < 18446744073709551616) (hk : key.size ≤ maxLen) :
    Calls Try.prog 23 #[.pointer (some ⟨B, 0, none⟩), .string key, .int .i64 v, .int .u64 (i : Int)] w fun e w' => e = .returned (putV t key v i) ∧ RtAt (fun k => S k ∨ w.heap.size ≤ k) w' B (t.putT key v i) ∧ But (· = B) w w' := by
  obtain ⟨hok, A, c, h⟩ := h
  have h64 : t.l.length ≤ 64 := Nat.le_trans hok.len hok.most.2
  have hmost := hok.most
  have HOk := Lib.hid hok
  obtain ⟨X, hX⟩ : ∃ X, w.heap.size = X := ⟨_, rfl⟩
  have H : Hid (RtIs (fun k => S k ∧ k < X) w B A c t) := Lib.hid (h.narrow fun k hk hs => ⟨hs, hX ▸ hk⟩)
  obtain ⟨W, hW⟩ : ∃ W, w.alloc (.cells #[.string ⟨#[]⟩, .int .i64 0, .int .u64 0, .int .u64 0] 35) = W := ⟨_, rfl⟩
  have hb0 : Below w.heap.size w W := by rw [← hW]; exact below1 _ _ _
  have hs0 : W.heap.size = X + 1 := by rw [← hW, ← hX]; simp
  have k0 : W.heap[X]? = some (.cells #[.string ⟨#[]⟩, .int .i64 0, .int .u64 0, .int .u64 0] 35 (0, 0)) := by rw [← hW, ← hX]; exact heap_alloc_new w _
  have HG := Lib.hid (rget_any key W (h.below hb0))
  have HB0 := Lib.hid hb0
  have HS0 := Lib.hid hs0
  have HK0 := Lib.hid k0
  have HW := Lib.hid hW
  have HX := Lib.hid hX
  have hBX : B < X := hX ▸ h.lt
  obtain ⟨L, hL⟩ : ∃ L, t.l.length = L := ⟨_, rfl⟩
  rw [hL] at h64
  have HL := Lib.hid hL
  obtain ⟨o, ho⟩ : ∃ o, getR t.l key = o := ⟨_, rfl⟩
  rw [ho] at HG
  rw [hX]
  have HO := Lib.hid ho
  have HKy := Lib.hid hk
  clear hok h hX hL ho hb0 hs0 k0 hW hk
  go_enter Try.func23, Try.ntmps23
  go_wp2_with fail
  rw [HW.out, HX.out]
  refine HG.out.mono ?_
  rintro e w1 ⟨rfl, hb1⟩
  obtain ⟨gr, hgr⟩ : ∃ gr, o.getD noRw = gr := ⟨_, rfl⟩
  unfold gotR
  rw [hgr]
  unfold trV
  have hs1 : X + 1 ≤ w1.heap.size := by rw [← HS0.out]; exact hb1.size
  obtain ⟨Y, hY⟩ : ∃ Y, w1.heap.size = Y := ⟨_, rfl⟩
  rw [hY] at hs1
  obtain ⟨W2, hW2⟩ : ∃ W2, w1.alloc (.cells #[.string gr.key, .int .i64 gr.val, .int .u64 (gr.made : Int), .int .u64 (gr.ix : Int)] 35) = W2 := ⟨_, rfl⟩
  have HB2 : Hid (Below (X + 1) W W2) := Lib.hid (by rw [← hW2, ← HS0.out]; exact hb1.alloc hb1.size _)
  have ky : W2.heap[Y]? = some (.cells #[.string gr.key, .int .i64 gr.val, .int .u64 (gr.made : Int), .int .u64 (gr.ix : Int)] 35 (0, 0)) := by rw [← hW2, ← hY]; exact heap_alloc_new w1 _
  have hs2 : W2.heap.size = Y + 1 := by rw [← hW2, ← hY]; simp
  have HW2 := Lib.hid hW2
  have HY := Lib.hid hY
  have HS2 := Lib.hid hs2
  have HGr := Lib.hid hgr
  have HKy2 := Lib.hid ky
  have ht2 : RtIs (fun k => S k ∧ k < X) W2 B A c t := (H.out.below HB0.out).below (by rw [HS0.out]; exact HB2.out)
  have c0 := ht2.c0
  have c1 : W2.cell? ⟨B, 1, none⟩ = some (.slice A L c) := by have := ht2.c1; rw [HL.out] at this; exact this
  have HT2 := Lib.hid ht2
  have k0 := (HB2.out.block X (by omega)).trans HK0.out
  have HK2 := Lib.hid k0
  clear hgr hW2 hY ky hs2 hb1 HG ht2 k0
  have hm : L ≤ 9223372036854775807 := by omega
  rcases (show (o = none ∧ t.most ≤ L) ∨ (o = none ∧ ¬ t.most ≤ L) ∨ (∃ r0, o = some r0) by
    cases o with
    | none => by_cases q : t.most ≤ L <;> simp [q]
    | some r => simp) with ⟨rfl, hf⟩ | ⟨rfl, hf⟩ | ⟨r0, rfl⟩
  · simp only [Option.isSome_none]
    · have d1 : decide ((t.most : Int) ≤ (L : Int)) = true := decide_eq_true (by omega)
      go_wp2_with fail
      rw [HW2.out, HY.out]
      go_quiet (fail)
      generalize hW3 : W2.drewN _ = W3
      have f3 : W3.heap = W2.heap := by rw [← hW3]; rfl
      have HT3 : Hid (RtIs (fun k => S k ∧ k < X) W3 B A c t) := Lib.hid (by rw [← hW3]; exact HT2.out.below (below_drewN (Below.refl _ _) _))
      have HB3 : Hid (Below (X + 1) W W3) := Lib.hid (by rw [← hW3]; exact below_drewN HB2.out _)
      have hs3 : W3.heap.size = Y + 1 := by rw [f3]; exact HS2.out
      have kx : W3.heap[X]? = some (.cells #[.string ⟨#[]⟩, .int .i64 0, .int .u64 0, .int .u64 0] 35 (0, 0)) := by rw [f3]; exact HK2.out
      have ky : W3.heap[Y]? = some (.cells #[.string gr.key, .int .i64 gr.val, .int .u64 (gr.made : Int), .int .u64 (gr.ix : Int)] 35 (0, 0)) := by rw [f3]; exact HKy2.out
      have HKX := Lib.hid kx
      have HKY := Lib.hid ky
      have HS3 := Lib.hid hs3
      clear hW3 f3
      obtain ⟨d0, d2, d3, d4⟩ := blk4 kx
      have g0 := blk_froz kx 0
      have g1 := blk_froz kx 1
      have g2 := blk_froz kx 2
      have g3 := blk_froz kx 3
      clear kx ky hs3
      go_wp2
      have q := set4_blk HKX.out (.string ⟨#[]⟩) (.int .i64 0) (.int .u64 0) (.int .u64 0)
      obtain ⟨q0, q1, q2, q3⟩ := blk4 q
      refine bodyPost_ret (v := .tuple #[trV noRw, .int .i64 5]) (by simp [results, Try.results23, go_sem, q0, q1, q2, q3, trV, noRw]) rfl ?_
      have hF : t.fullB key = true := by
        unfold Tb.fullB
        rw [HO.out, HL.out, decide_eq_true hf]
        rfl
      unfold putV Tb.putT
      rw [if_pos hF, if_pos hF]
      have hb3 : Below X w W3 := by rw [← HX.out]; exact HB0.out.trans (HB3.out.mono (by have := HX.out; omega))
      have hb4 := below_set4 hb3 (.string ⟨#[]⟩) (.int .i64 0) (.int .u64 0) (.int .u64 0)
      rw [← HX.out] at hb4
      refine ⟨rfl, ⟨HOk.out, A, c, ?_⟩, But.of_below ?_⟩
      · rw [← HX.out]
        exact (H.out.below hb4).narrow fun k _ z => .inl z.1
      · rw [← HX.out]; exact hb4
  case' inr.inl =>
    simp only [Option.isSome_none]
    have d1 : decide ((t.most : Int) ≤ (L : Int)) = false := decide_eq_false (by omega)
    go_wp2_with fail
    rw [HW2.out, HY.out]
    go_quiet (fail)
    generalize hW3 : W2.drewN _ = W3
    have f3 : W3.heap = W2.heap := by rw [← hW3]; rfl
    have HT3 : Hid (RtIs (fun k => S k ∧ k < X) W3 B A c t) := Lib.hid (by rw [← hW3]; exact HT2.out.below (below_drewN (Below.refl _ _) _))
    have HB3 : Hid (Below (X + 1) W W3) := Lib.hid (by rw [← hW3]; exact below_drewN HB2.out _)
    have hs3 : W3.heap.size = Y + 1 := by rw [f3]; exact HS2.out
    have kx : W3.heap[X]? = some (.cells #[.string ⟨#[]⟩, .int .i64 0, .int .u64 0, .int .u64 0] 35 (0, 0)) := by rw [f3]; exact HK2.out
    have ky : W3.heap[Y]? = some (.cells #[.string gr.key, .int .i64 gr.val, .int .u64 (gr.made : Int), .int .u64 (gr.ix : Int)] 35 (0, 0)) := by rw [f3]; exact HKy2.out
    have HKX := Lib.hid kx
    have HKY := Lib.hid ky
    have HS3 := Lib.hid hs3
    clear hW3 f3
    clear kx ky hs3
    go_upto_region 5 with fail
    obtain ⟨W4, hW4⟩ : ∃ W4, W3.alloc (.cells #[.string key, .int .i64 v, .int .u64 (i : Int), .int .u64 (i : Int)] 35) = W4 := ⟨_, rfl⟩
    have kz : W4.heap[Y + 1]? = some (.cells #[.string key, .int .i64 v, .int .u64 (i : Int), .int .u64 (i : Int)] 35 (0, 0)) := by rw [← hW4, ← HS3.out]; exact heap_alloc_new W3 _
    have hb4 : Below W3.heap.size W3 W4 := by rw [← hW4]; exact below1 _ _ _
    have hs4 : W4.heap.size = Y + 2 := by rw [← hW4]; simp [HS3.out]
    rw [hW4, HS3.out]
    obtain ⟨rr, hrr⟩ : ∃ rr, t.row key v i = rr := ⟨_, rfl⟩
    have hrr2 : rr = ⟨key, v, i, i⟩ := by rw [← hrr]; unfold Tb.row; rw [HO.out]; rfl
    have HZ5 : Hid (W4.heap[Y + 1]? = some (.cells #[.string rr.key, .int .i64 rr.val, .int .u64 (rr.made : Int), .int .u64 (rr.ix : Int)] 35 (0, 0))) := Lib.hid (by rw [hrr2]; exact kz)
    have HX5 := Lib.hid ((hb4.block X (by have := HS3.out; omega)).trans HKX.out)
    have HT5 := Lib.hid (HT3.out.below hb4)
    have HB5 : Hid (Below (X + 1) W W4) := Lib.hid (HB3.out.trans (hb4.mono (by have := HS3.out; omega)))
    have HS5 := Lib.hid hs4
    have HRr := Lib.hid hrr
    have HRk := Lib.hid (show rr.key = key by rw [hrr2])
    have HF : Hid (t.fullB key = false) := Lib.hid (by
      unfold Tb.fullB
      rw [HL.out, decide_eq_false hf, Bool.and_false])
    obtain ⟨W5, hW5⟩ : ∃ W5, W4 = W5 := ⟨_, rfl⟩
    rw [hW5] at HZ5 HX5 HT5 HB5 HS5 ⊢
    clear hW4 kz hb4 hs4 hrr hrr2 hW5 hf
    go_wp2
  case' inr.inr =>
    simp only [Option.isSome_some]
    go_wp2_with fail
    rw [HW2.out, HY.out]
    go_quiet (fail)
    generalize hW3 : W2.drewN _ = W3
    have f3 : W3.heap = W2.heap := by rw [← hW3]; rfl
    have HT3 : Hid (RtIs (fun k => S k ∧ k < X) W3 B A c t) := Lib.hid (by rw [← hW3]; exact HT2.out.below (below_drewN (Below.refl _ _) _))
    have HB3 : Hid (Below (X + 1) W W3) := Lib.hid (by rw [← hW3]; exact below_drewN HB2.out _)
    have hs3 : W3.heap.size = Y + 1 := by rw [f3]; exact HS2.out
    have kx : W3.heap[X]? = some (.cells #[.string ⟨#[]⟩, .int .i64 0, .int .u64 0, .int .u64 0] 35 (0, 0)) := by rw [f3]; exact HK2.out
    have ky : W3.heap[Y]? = some (.cells #[.string gr.key, .int .i64 gr.val, .int .u64 (gr.made : Int), .int .u64 (gr.ix : Int)] 35 (0, 0)) := by rw [f3]; exact HKy2.out
    have HKX := Lib.hid kx
    have HKY := Lib.hid ky
    have HS3 := Lib.hid hs3
    clear hW3 f3
    have l3 := (blk4 ky).2.2.1
    have hYl : Y < W3.heap.size := by rw [hs3]; omega
    clear kx ky hs3
    go_upto_region 5 with fail
    obtain ⟨W4, hW4⟩ : ∃ W4, W3.alloc (.cells #[.string key, .int .i64 v, .int .u64 (i : Int), .int .u64 (i : Int)] 35) = W4 := ⟨_, rfl⟩
    have kz : W4.heap[Y + 1]? = some (.cells #[.string key, .int .i64 v, .int .u64 (i : Int), .int .u64 (i : Int)] 35 (0, 0)) := by rw [← hW4, ← HS3.out]; exact heap_alloc_new W3 _
    have hb4 : Below W3.heap.size W3 W4 := by rw [← hW4]; exact below1 _ _ _
    have hs4 : W4.heap.size = Y + 2 := by rw [← hW4]; simp [HS3.out]
    rw [hW4, HS3.out]
    obtain ⟨rr, hrr⟩ : ∃ rr, t.row key v i = rr := ⟨_, rfl⟩
    have hrr2 : rr = ⟨key, v, gr.made, i⟩ := by rw [← hrr, ← HGr.out]; unfold Tb.row; rw [HO.out]; rfl
    have l4 := (blk4 ((hb4.block Y (by have := HS3.out; omega)).trans HKY.out)).2.2.1
    have z4 := (blk4 kz).2.2.1
    have y4 := blk_froz kz 2
    have HZ4 : Hid ((W4.setCell ⟨Y + 1, 2, none⟩ (.int .u64 (gr.made : Int))).heap[Y + 1]? = some (.cells #[.string rr.key, .int .i64 rr.val, .int .u64 (rr.made : Int), .int .u64 (rr.ix : Int)] 35 (0, 0))) := Lib.hid (by rw [hrr2]; exact block_set kz 2 _)
    have hb5 : Below W3.heap.size W3 (W4.setCell ⟨Y + 1, 2, none⟩ (.int .u64 (gr.made : Int))) := hb4.setCell (by rw [HS3.out]; exact Nat.le_refl _) _
    have HX4 := Lib.hid ((hb5.block X (by have := HS3.out; omega)).trans HKX.out)
    have HT4 := Lib.hid (HT3.out.below hb5)
    have HB4 : Hid (Below (X + 1) W (W4.setCell ⟨Y + 1, 2, none⟩ (.int .u64 (gr.made : Int)))) := Lib.hid (HB3.out.trans (hb5.mono (by have := HS3.out; omega)))
    have HS4 : Hid ((W4.setCell ⟨Y + 1, 2, none⟩ (.int .u64 (gr.made : Int))).heap.size = Y + 2) := Lib.hid (by simp [World.setCell, hs4])
    have HRr := Lib.hid hrr
    have HRk := Lib.hid (show rr.key = key by rw [hrr2])
    have HF : Hid (t.fullB key = false) := Lib.hid (by
      unfold Tb.fullB
      rw [HO.out]
      rfl)
    clear hW4 kz hb4 hs4 hrr hrr2 hb5 l3 hYl
    go_wp2
    obtain ⟨W5, hW5⟩ : ∃ W5, W4.setCell ⟨Y + 1, 2, none⟩ (.int .u64 (gr.made : Int)) = W5 := ⟨_, rfl⟩
    have HZ5 := HZ4
    have HX5 := HX4
    have HT5 := HT4
    have HB5 := HB4
    have HS5 := HS4
    rw [hW5] at HZ5 HX5 HT5 HB5 HS5
    rw [hW5]
  all_goals
    have hm2 : (L : Int) ≤ 9223372036854775807 := by omega
    go_loopw [13, 14, 15] (fun vv bv iv wr => ∃ (k : Nat) (bb : Bool) (ls : List (Rw Int)), k ≤ L ∧ iv = .int .i64 (k : Int) ∧ bv = .bool bb ∧ Hid (layR rr false t.l = ls ++ layR rr bb (t.l.drop k)) ∧ Hid (ls.length ≤ 2 * k) ∧ Hid (trRow wr (Y + 2) vv ls) ∧ Hid (Below (Y + 2) W5 wr)) (fun _ _ iv _ => L - (intOf iv).toNat)
    case atStart => exact ⟨0, false, [], Nat.zero_le _, rfl, rfl, Lib.hid rfl, Lib.hid (Nat.le_refl _), Lib.hid (rowK.nil _ _), Lib.hid (HS5.out ▸ Below.refl _ _)⟩
    case round =>
      obtain ⟨k, bb, ls, hk, rfl, rfl, hinv, hls, hrow, hb⟩ := hrel
      have ht := HT5.out.below (by rw [HS5.out]; exact hb.out)
      have c1 : wr.cell? ⟨B, 1, none⟩ = some (.slice A L c) := by have := ht.c1; rw [HL.out] at this; exact this
      by_cases hlt : k < L
      · have hkl : k < t.l.length := by rw [HL.out]; exact hlt
        obtain ⟨b, off, rfl, hbl, hit⟩ := ht.row.at_ hkl hkl
        have hd : t.l.drop k = t.l[k] :: t.l.drop (k + 1) := List.drop_eq_getElem_cons hkl
        obtain ⟨y, hy⟩ : ∃ y, t.l[k] = y := ⟨_, rfl⟩
        have HF' : Hid (∀ wx, Below (Y + 2) W5 wx → wx.cell? ⟨B, 1, none⟩ = some (.slice (some ⟨b, off, none⟩) L c) ∧ ItAt trC wx b (off + k * 4) y ∧ wx.heap[Y + 1]? = some (.cells #[.string rr.key, .int .i64 rr.val, .int .u64 (rr.made : Int), .int .u64 (rr.ix : Int)] 35 (0, 0))) := Lib.hid fun wx hx => by
          have h1 := HT5.out.below (w' := wx) (by rw [HS5.out]; exact hx)
          obtain ⟨b', off', e, _, h2⟩ := h1.row.at_ hkl hkl
          cases e
          rw [hy] at h2
          have h3 := h1.c1
          rw [HL.out] at h3
          exact ⟨h3, h2, (hx.block (Y + 1) (by omega)).trans HZ5.out⟩
        rw [hy] at hd
        have HD := Lib.hid hd
        clear hd hy hit ht
        -- the round
        have hlb : ls.length ≤ 1000 := by have := hls.out; omega
        by_cases hz : y.key = key
        · have zz : (y.key.toList == key.toList) = true := text_same.2 hz
          have HI1 : Hid (layR rr false t.l = (ls ++ [rr]) ++ layR rr true (t.l.drop (k + 1))) := Lib.hid (by
            rw [hinv.out, HD.out, layR, if_pos (by rw [HRk.out]; exact zz), List.append_assoc]
            rfl)
          clear hz
          obtain ⟨c1, hit, kz⟩ := HF'.out wr hb.out
          obtain ⟨e0, e1, e2, e3⟩ := tr_cells hit
          obtain ⟨z0, z1, z2, z3⟩ := blk4 kz
          clear hit kz
          go_wp2_with (at_builtin; refine wpList_append_tr rfl (.tmp 65) (.tmp 67) rfl (Y + 2) _ _ rfl ?qa wr.heap.size rr rfl ?qb hlb ?qc ?_)
          case qa => exact hrow.out.below ((Below.refl _ _).alloc (Nat.le_refl _) _)
          case qb => exact tr_new wr rr _
          case qc => have := hb.out.size; have := HS5.out; simp; omega
          refine Lib.hid ?_
          intro vwn wn hown hgr
          have HBn := Lib.hid (trRow.snoc_below hrow.out hb.out (by have := hb.out.size; have := HS5.out; omega) hgr)
          have HRn := Lib.hid hown
          clear hown hgr c1 e0 e1 e2 e3 z0 z1 z2 z3
          go_wp2
          go_roundw
          case rel => exact ⟨k + 1, true, ls ++ [rr], by omega, by go_num, rfl, HI1, Lib.hid (by simp; have := hls.out; omega), HRn, HBn⟩
          case measure => simp [intOf]; omega
        · have zz : (y.key.toList == key.toList) = false := text_other.2 hz
          have HZn := Lib.hid (show ¬ (y.key.toList == rr.key.toList) = true by rw [HRk.out, zz]; simp)
          clear hz
          cases bb with
          | true =>
            have HI1 : Hid (layR rr false t.l = (ls ++ [y]) ++ layR rr true (t.l.drop (k + 1))) := Lib.hid (by
              rw [hinv.out, HD.out, layR, if_neg HZn.out, if_neg (by simp), List.append_assoc]
              rfl)
            obtain ⟨c1, hit, kz⟩ := HF'.out wr hb.out
            obtain ⟨e0, e1, e2, e3⟩ := tr_cells hit
            obtain ⟨z0, z1, z2, z3⟩ := blk4 kz
            clear hit kz
            go_wp2_with (at_builtin; refine wpList_append_tr rfl (.tmp 87) (.tmp 95) rfl (Y + 2) _ _ rfl ?qa wr.heap.size y rfl ?qb hlb ?qc ?_)
            case qa => exact hrow.out.below ((Below.refl _ _).alloc (Nat.le_refl _) _)
            case qb => exact tr_new wr y _
            case qc => have := hb.out.size; have := HS5.out; simp; omega
            refine Lib.hid ?_
            intro vwn wn hown hgr
            have HBn := Lib.hid (trRow.snoc_below hrow.out hb.out (by have := hb.out.size; have := HS5.out; omega) hgr)
            have HRn := Lib.hid hown
            clear hown hgr c1 e0 e1 e2 e3 z0 z1 z2 z3
            go_wp2
            go_roundw
            case rel => exact ⟨k + 1, true, ls ++ [y], by omega, by go_num, rfl, HI1, Lib.hid (by simp; have := hls.out; omega), HRn, HBn⟩
            case measure => simp [intOf]; omega
          | false =>
            cases hg : ltT key y.key with
            | true =>
              have g := run_gtr_str y.key key true hg zz
              have HI1 : Hid (layR rr false t.l = (ls ++ [rr, y]) ++ layR rr true (t.l.drop (k + 1))) := Lib.hid (by
                rw [hinv.out, HD.out, layR, if_neg HZn.out, if_pos (by rw [HRk.out, hg]; rfl)]
                simp)
              clear hg
              obtain ⟨c1, hit, kz⟩ := HF'.out wr hb.out
              obtain ⟨e0, e1, e2, e3⟩ := tr_cells hit
              obtain ⟨z0, z1, z2, z3⟩ := blk4 kz
              clear hit kz
              go_wp2_with (at_builtin; refine wpList_append_tr rfl (.tmp 83) (.tmp 85) rfl (Y + 2) _ _ rfl ?qa wr.heap.size rr rfl ?qb hlb ?qc ?_)
              case qa => exact hrow.out.below ((Below.refl _ _).alloc (Nat.le_refl _) _)
              case qb => exact tr_new wr rr _
              case qc => have := hb.out.size; have := HS5.out; simp; omega
              refine Lib.hid ?_
              intro vwn wn hown hgr
              have HBn := Lib.hid (trRow.snoc_below hrow.out hb.out (by have := hb.out.size; have := HS5.out; omega) hgr)
              have HRn := Lib.hid hown
              clear hown hgr c1 e0 e1 e2 e3 z0 z1 z2 z3
              obtain ⟨c1, hit, kz⟩ := HF'.out wn HBn.out
              obtain ⟨e0, e1, e2, e3⟩ := tr_cells hit
              obtain ⟨z0, z1, z2, z3⟩ := blk4 kz
              clear hit kz
              have hlb2 : (ls ++ [rr]).length ≤ 1000 := by simp; have := hls.out; omega
              go_wp2_with (at_builtin; refine wpList_append_tr rfl (.tmp 87) (.tmp 95) rfl (Y + 2) _ _ rfl ?qa wn.heap.size y rfl ?qb hlb2 ?qc ?_)
              case qa => exact HRn.out.below ((Below.refl _ _).alloc (Nat.le_refl _) _)
              case qb => exact tr_new wn y _
              case qc => have := HBn.out.size; have := HS5.out; simp; omega
              refine Lib.hid ?_
              intro vwm wm hown hgr
              have HBm := Lib.hid (trRow.snoc_below HRn.out HBn.out (by have := HBn.out.size; have := HS5.out; omega) hgr)
              have HRm := Lib.hid hown
              clear hown hgr c1 e0 e1 e2 e3 z0 z1 z2 z3
              go_wp2
              go_roundw
              case rel => exact ⟨k + 1, true, ls ++ [rr, y], by omega, by go_num, rfl, HI1, Lib.hid (by simp; have := hls.out; omega), HRm, HBm⟩
              case measure => simp [intOf]; omega
            | false =>
              have g := run_gtr_str y.key key false hg zz
              have HI1 : Hid (layR rr false t.l = (ls ++ [y]) ++ layR rr false (t.l.drop (k + 1))) := Lib.hid (by
                rw [hinv.out, HD.out, layR, if_neg HZn.out, if_neg (by rw [HRk.out, hg]; simp), List.append_assoc]
                rfl)
              clear hg
              obtain ⟨c1, hit, kz⟩ := HF'.out wr hb.out
              obtain ⟨e0, e1, e2, e3⟩ := tr_cells hit
              obtain ⟨z0, z1, z2, z3⟩ := blk4 kz
              clear hit kz
              go_wp2_with (at_builtin; refine wpList_append_tr rfl (.tmp 87) (.tmp 95) rfl (Y + 2) _ _ rfl ?qa wr.heap.size y rfl ?qb hlb ?qc ?_)
              case qa => exact hrow.out.below ((Below.refl _ _).alloc (Nat.le_refl _) _)
              case qb => exact tr_new wr y _
              case qc => have := hb.out.size; have := HS5.out; simp; omega
              refine Lib.hid ?_
              intro vwn wn hown hgr
              have HBn := Lib.hid (trRow.snoc_below hrow.out hb.out (by have := hb.out.size; have := HS5.out; omega) hgr)
              have HRn := Lib.hid hown
              clear hown hgr c1 e0 e1 e2 e3 z0 z1 z2 z3
              go_wp2
              go_roundw
              case rel => exact ⟨k + 1, false, ls ++ [y], by omega, by go_num, rfl, HI1, Lib.hid (by simp; have := hls.out; omega), HRn, HBn⟩
              case measure => simp [intOf]; omega
      · -- the end
        have hkL : k = L := by omega
        have hdk : t.l.drop k = [] := List.drop_eq_nil_of_le (by rw [HL.out]; omega)
        have HI := Lib.hid (show layR rr false t.l = ls ++ layR rr bb [] by rw [hinv.out, hdk])
        have hlb : ls.length ≤ 1000 := by have := hls.out; omega
        clear hdk ht
        cases bb with
        | true =>
          have hMM : layR rr false t.l = ls := by
            rw [HI.out]; simp [layR]
          obtain ⟨M, hM⟩ : ∃ M, ls = M := ⟨_, rfl⟩
          have hrz : trRow wr (Y + 2) u13 M := by rw [← hM]; exact hrow.out
          rw [hM] at hMM
          obtain ⟨A2, c2, rfl, hSK, hnc, hmc, hge⟩ := SK.of_row trC_len hrz
          obtain ⟨m, hmm⟩ : ∃ m, M.length = m := ⟨_, rfl⟩
          have htz := HT5.out.below (w' := wr) (by rw [HS5.out]; exact hb.out)
          have hset : RtIs (fun k => (S k ∧ k < X) ∨ Y + 2 ≤ k) (wr.setCell ⟨B, 1, none⟩ (.slice A2 m c2)) B A2 c2 { t with l := M } := by
            rw [← hmm]
            exact (htz.fresh (g0 := Y + 2)).setRows hSK (fun b off e _ => ⟨.inr (hge b off e), by have := hge b off e; omega⟩) hnc hmc
          have hf := htz.froz 1
          have hbl := htz.lt
          have c1z := htz.c1
          have hr := rraise_any (A := A2) (c := c2) (t := { t with l := M }) i _ hset HOk.out.lst hi
          have HR2 := Lib.hid hr
          have hset1 := But.set (S := (· = B)) wr (p := ⟨B, 1, none⟩) rfl (.slice A2 m c2)
          have hsz : Y + 2 ≤ wr.heap.size := by rw [← HS5.out]; have := hb.out.size; rw [HS5.out]; rw [HS5.out] at this; exact this
          have HZz := Lib.hid ((hset1.block (Y + 1) (by omega) (by omega)).trans ((hb.out.block (Y + 1) (by omega)).trans HZ5.out))
          have HXz := Lib.hid ((hset1.block X (by omega) (by omega)).trans ((hb.out.block X (by omega)).trans HX5.out))
          have hset2 := hset1.size
          have HSz : Hid (Y + 2 ≤ (wr.setCell ⟨B, 1, none⟩ (.slice A2 m c2)).heap.size) := Lib.hid (Nat.le_trans hsz hset2)
          have HBz : Hid (But (· = B) w (wr.setCell ⟨B, 1, none⟩ (.slice A2 m c2))) := Lib.hid (by
            have q1 : Below X w wr := by
              have := HB0.out
              rw [HX.out] at this
              exact this.trans ((HB5.out.mono (by omega)).trans (hb.out.mono (by omega)))
            exact (But.of_below (by rw [HX.out]; exact q1)).trans hset1)
          have HPut : Hid ((t.putT key v i) = ({ t with l := M } : Tb Int).raise i ∧ (t.putT key v i).Ok) := Lib.hid (by
            unfold Tb.putT
            rw [HF.out]
            exact ⟨by show t.put key v i = _; unfold Tb.put Tb.raise; rw [HRr.out, hMM], HOk.out.put key v hi HKy.out (full_of HF.out)⟩)
          clear hMM hM hrz hSK hnc hge htz hset hr hset1 hset2 hsz
          rw [hmm]
          clear hmm
          go_wp2_with fail
          refine HR2.out.mono ?_
          rintro e w2 ⟨rfl, hr2, hb2⟩
          have H2 := Lib.hid hr2
          have HB2' := Lib.hid hb2
          have hz2 := (hb2.block (Y + 1) (by have := HSz.out; omega) (by omega)).trans HZz.out
          have hx2 := (hb2.block X (by have := HSz.out; omega) (by omega)).trans HXz.out
          obtain ⟨z0, z1, z2, z3⟩ := blk4 hz2
          obtain ⟨d0, d2, d3, d4⟩ := blk4 hx2
          have g0 := blk_froz hx2 0
          have g1 := blk_froz hx2 1
          have g2 := blk_froz hx2 2
          have g3 := blk_froz hx2 3
          have HX2 := Lib.hid hx2
          clear hr2 hb2 HR2 hz2 hx2
          go_wp2
          have q := set4_blk HX2.out (.string rr.key) (.int .i64 rr.val) (.int .u64 (rr.made : Int)) (.int .u64 (rr.ix : Int))
          obtain ⟨q0, q1, q2, q3⟩ := blk4 q
          refine bodyPost_ret (v := .tuple #[trV rr, .int .i64 0]) (by simp [results, Try.results23, go_sem, q0, q1, q2, q3, trV]) rfl ?_
          have hbx := but_set4 X w2 (.string rr.key) (.int .i64 rr.val) (.int .u64 (rr.made : Int)) (.int .u64 (rr.ix : Int))
          refine ⟨?_, ⟨HPut.out.2, A2, c2, ?_⟩, (HBz.out.trans HB2'.out).then_ hbx (fun k e hk => by rw [HX.out] at hk; omega)⟩
          · unfold putV
            rw [HF.out, HRr.out]
            rfl
          · rw [HPut.out.1]
            exact (H2.out.but hbx (fun k e z => by rcases z with ⟨_, z⟩ | z <;> omega)).narrow fun k _ z => by
              rcases z with ⟨z, _⟩ | z
              · exact .inl z
              · exact .inr (by omega)
        | false =>
          obtain ⟨z0, z1, z2, z3⟩ := blk4 ((hb.out.block (Y + 1) (by omega)).trans HZ5.out)
          go_wp2_with (at_builtin; refine wpList_append_tr rfl (.tmp 99) (.tmp 101) rfl (Y + 2) _ _ rfl ?qa wr.heap.size rr rfl ?qb hlb ?qc ?_)
          case qa => exact hrow.out.below ((Below.refl _ _).alloc (Nat.le_refl _) _)
          case qb => exact tr_new wr rr _
          case qc => have := hb.out.size; have := HS5.out; simp; omega
          refine Lib.hid ?_
          intro vwn wn hown hgr
          have HBn := Lib.hid (trRow.snoc_below hrow.out hb.out (by have := hb.out.size; have := HS5.out; omega) hgr)
          have HRn := Lib.hid hown
          clear hown hgr c1 z0 z1 z2 z3
          have hMM : layR rr false t.l = ls ++ [rr] := by
            rw [HI.out]; simp [layR]
          obtain ⟨M, hM⟩ : ∃ M, ls ++ [rr] = M := ⟨_, rfl⟩
          have hrz : trRow wn (Y + 2) vwn M := by rw [← hM]; exact HRn.out
          rw [hM] at hMM
          obtain ⟨A2, c2, rfl, hSK, hnc, hmc, hge⟩ := SK.of_row trC_len hrz
          obtain ⟨m, hmm⟩ : ∃ m, M.length = m := ⟨_, rfl⟩
          have htz := HT5.out.below (w' := wn) (by rw [HS5.out]; exact HBn.out)
          have hset : RtIs (fun k => (S k ∧ k < X) ∨ Y + 2 ≤ k) (wn.setCell ⟨B, 1, none⟩ (.slice A2 m c2)) B A2 c2 { t with l := M } := by
            rw [← hmm]
            exact (htz.fresh (g0 := Y + 2)).setRows hSK (fun b off e _ => ⟨.inr (hge b off e), by have := hge b off e; omega⟩) hnc hmc
          have hf := htz.froz 1
          have hbl := htz.lt
          have c1z := htz.c1
          have hr := rraise_any (A := A2) (c := c2) (t := { t with l := M }) i _ hset HOk.out.lst hi
          have HR2 := Lib.hid hr
          have hset1 := But.set (S := (· = B)) wn (p := ⟨B, 1, none⟩) rfl (.slice A2 m c2)
          have hsz : Y + 2 ≤ wn.heap.size := by rw [← HS5.out]; have := HBn.out.size; rw [HS5.out]; rw [HS5.out] at this; exact this
          have HZz := Lib.hid ((hset1.block (Y + 1) (by omega) (by omega)).trans ((HBn.out.block (Y + 1) (by omega)).trans HZ5.out))
          have HXz := Lib.hid ((hset1.block X (by omega) (by omega)).trans ((HBn.out.block X (by omega)).trans HX5.out))
          have hset2 := hset1.size
          have HSz : Hid (Y + 2 ≤ (wn.setCell ⟨B, 1, none⟩ (.slice A2 m c2)).heap.size) := Lib.hid (Nat.le_trans hsz hset2)
          have HBz : Hid (But (· = B) w (wn.setCell ⟨B, 1, none⟩ (.slice A2 m c2))) := Lib.hid (by
            have q1 : Below X w wn := by
              have := HB0.out
              rw [HX.out] at this
              exact this.trans ((HB5.out.mono (by omega)).trans (HBn.out.mono (by omega)))
            exact (But.of_below (by rw [HX.out]; exact q1)).trans hset1)
          have HPut : Hid ((t.putT key v i) = ({ t with l := M } : Tb Int).raise i ∧ (t.putT key v i).Ok) := Lib.hid (by
            unfold Tb.putT
            rw [HF.out]
            exact ⟨by show t.put key v i = _; unfold Tb.put Tb.raise; rw [HRr.out, hMM], HOk.out.put key v hi HKy.out (full_of HF.out)⟩)
          clear hMM hM hrz hSK hnc hge htz hset hr hset1 hset2 hsz
          rw [hmm]
          clear hmm
          go_wp2_with fail
          refine HR2.out.mono ?_
          rintro e w2 ⟨rfl, hr2, hb2⟩
          have H2 := Lib.hid hr2
          have HB2' := Lib.hid hb2
          have hz2 := (hb2.block (Y + 1) (by have := HSz.out; omega) (by omega)).trans HZz.out
          have hx2 := (hb2.block X (by have := HSz.out; omega) (by omega)).trans HXz.out
          obtain ⟨z0, z1, z2, z3⟩ := blk4 hz2
          obtain ⟨d0, d2, d3, d4⟩ := blk4 hx2
          have g0 := blk_froz hx2 0
          have g1 := blk_froz hx2 1
          have g2 := blk_froz hx2 2
          have g3 := blk_froz hx2 3
          have HX2 := Lib.hid hx2
          clear hr2 hb2 HR2 hz2 hx2
          go_wp2
          have q := set4_blk HX2.out (.string rr.key) (.int .i64 rr.val) (.int .u64 (rr.made : Int)) (.int .u64 (rr.ix : Int))
          obtain ⟨q0, q1, q2, q3⟩ := blk4 q
          refine bodyPost_ret (v := .tuple #[trV rr, .int .i64 0]) (by simp [results, Try.results23, go_sem, q0, q1, q2, q3, trV]) rfl ?_
          have hbx := but_set4 X w2 (.string rr.key) (.int .i64 rr.val) (.int .u64 (rr.made : Int)) (.int .u64 (rr.ix : Int))
          refine ⟨?_, ⟨HPut.out.2, A2, c2, ?_⟩, (HBz.out.trans HB2'.out).then_ hbx (fun k e hk => by rw [HX.out] at hk; omega)⟩
          · unfold putV
            rw [HF.out, HRr.out]
            rfl
          · rw [HPut.out.1]
            exact (H2.out.but hbx (fun k e z => by rcases z with ⟨_, z⟩ | z <;> omega)).narrow fun k _ z => by
              rcases z with ⟨z, _⟩ | z
              · exact .inl z
              · exact .inr (by omega)
end Go.Proofs.Ytphjlcogjalidaa
