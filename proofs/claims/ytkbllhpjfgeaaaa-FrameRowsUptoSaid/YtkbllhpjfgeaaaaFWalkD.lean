/-
  Take, walked (layer 3).
-/
import Derived.Test.YtkbllhpjfgeaaaaFWalkC
namespace Go.Proofs.Ytkbllhpjfgeaaaa
open Go.RowKit
set_option linter.unusedSimpArgs false

/-- A block of two cells that a call has just laid. -/
theorem box2 {w w1 : World} {a b : Value} {t : TypeId} (hb : Below (w.heap.size + 1) (w.alloc (.cells #[a, b] t)) w1) :
    w1.cell? ⟨w.heap.size, 0, none⟩ = some a ∧ w1.cell? ⟨w.heap.size, 1, none⟩ = some b ∧ w1.frozen? ⟨w.heap.size, 0, none⟩ = false ∧ w1.frozen? ⟨w.heap.size, 1, none⟩ = false := by
  have hh := hb.block w.heap.size (by omega)
  rw [heap_alloc_new w _] at hh
  refine ⟨by rw [cell_of_row _ w.heap.size 0 _ _ (0, 0) hh]; rfl, by rw [cell_of_row _ w.heap.size 1 _ _ (0, 0) hh]; rfl, ?_, ?_⟩ <;> simp [World.frozen?, hh]
theorem below_box {w w1 : World} {o : Obj} (hb : Below (w.heap.size + 1) (w.alloc o) w1) : Below w.heap.size w w1 := ((Below.refl _ w).alloc (Nat.le_refl _) _).trans (hb.mono (by omega))

theorem grown_set (w : World) (b i : Nat) (v : Value) : w.grownBy (w.setCell ⟨b, i, none⟩ v) (some b) :=
  ⟨rfl, rfl, rfl, by simp [World.setCell], fun k _ hk => Below.heap_setCell _ _ _ _ (fun e => hk (by simp [e]))⟩
theorem set2 {W : World} {B : Nat} {x y : Value} (c0 : W.cell? ⟨B, 0, none⟩ = some x) (c1 : W.cell? ⟨B, 1, none⟩ = some y) (a b : Value) :
    ((W.setCell ⟨B, 0, none⟩ a).setCell ⟨B, 1, none⟩ b).cell? ⟨B, 0, none⟩ = some a ∧ ((W.setCell ⟨B, 0, none⟩ a).setCell ⟨B, 1, none⟩ b).cell? ⟨B, 1, none⟩ = some b := by
  have e : (W.setCell ⟨B, 0, none⟩ a).cell? ⟨B, 1, none⟩ = some y := (World.cell?_setCell_other _ _ _ _ (by intro e; injection e; omega)).trans c1
  exact ⟨(World.cell?_setCell_other _ _ _ _ (by intro e; injection e; omega)).trans (World.cell?_setCell_same' _ _ _ (by rw [c0]; rfl)), World.cell?_setCell_same' _ _ _ (by rw [e]; rfl)⟩

set_option maxHeartbeats 1000000 in
theorem take_err (A : Option Addr) (n c : Nat) (xs : List UInt8) (w : World) (h : RB w A n xs) (hc : n ≤ c) (he : errT xs ≠ 0) :
    Calls Try.prog 16 #[.slice A n c] w fun e w' => e = .returned (.tuple #[.agg #[.int .u8 0, .slice none 0 0], .int .i64 0, .int .i64 (errT xs : Int)]) ∧ Below w.heap.size w w' := by
  have HR := Lib.hid h
  have s1 := fun (g : Nat) (w1 : World) (hg : HasB w1 g) (hb : Below w.heap.size w w1) => faultB_any g w1.heap.size 0 1 n c A xs (w1.alloc (.cells #[.slice A n c] 22))
    (by
      have := (Below.refl w1.heap.size w1).alloc (Nat.le_refl _) (.cells #[.slice A n c] 22)
      exact (this.block g (Array.getElem?_eq_some_iff.1 hg).1).trans hg) (by simp)
    (by rw [cell_of_row _ w1.heap.size 0 _ _ (0, 0) (heap_alloc_new w1 _)]; rfl) ((HR.out.below hb).alloc _) hc
  obtain ⟨E, hE⟩ : ∃ E, errT xs = E := ⟨_, rfl⟩
  rw [hE] at s1 he ⊢
  have e0 : ((E : Int) == 0) = false := by rw [beq_eq_false_iff_ne]; omega
  have S1 := Lib.hid s1
  clear h hE he s1
  go_enter Try.func16, Try.ntmps16
  go_wp2_with fail
  refine (ofBytes_any _).mono ?_
  obtain ⟨W0, hW0⟩ : ∃ W0, w.alloc (.cells #[.int .u8 0, .slice none 0 0] 24) = W0 := ⟨_, rfl⟩
  have hs0 : W0.heap.size = w.heap.size + 1 := by rw [← hW0]; simp
  obtain ⟨g, hgd⟩ : ∃ g, W0.heap.size = g := ⟨_, rfl⟩
  rw [hW0, hgd]
  rintro e w1 ⟨rfl, hg, hb⟩
  have hb0 : Below (w.heap.size + 1) (w.alloc (.cells #[.int .u8 0, .slice none 0 0] 24)) w1 := by rw [hW0, ← hs0, hgd]; exact hb
  have s2 := S1.out g w1 hg (below_box hb0)
  have HB0 := Lib.hid hb0
  clear hg hb hb0 hgd hs0 hW0
  go_wp2_with fail
  refine s2.mono ?_
  rintro e w2 ⟨rfl, hb2⟩
  have hz := HB0.out.size
  rw [World.size_alloc] at hz
  have hb2' : Below (w.heap.size + 1) w1 w2 := ((Below.refl _ w1).alloc hz _).trans (hb2.mono (by rw [World.size_alloc]; omega))
  have HB2 := Lib.hid (HB0.out.trans hb2')
  obtain ⟨c0, c1, f0, f1⟩ := box2 HB2.out
  clear s2 hb2 hb2' hz
  go_wp2
  obtain ⟨d0, d1⟩ := set2 c0 c1 (.int .u8 0) (.slice none 0 0)
  refine bodyPost_ret (v := .tuple #[.agg #[.int .u8 0, .slice none 0 0], .int .i64 0, .int .i64 (E : Int)]) (by simp [results, Try.results16, go_sem, d0, d1]) rfl ⟨rfl, ?_⟩
  exact ((below_box HB2.out).setCell (p := ⟨w.heap.size, 0, none⟩) (Nat.le_refl _) _).setCell (p := ⟨w.heap.size, 1, none⟩) (Nat.le_refl _) _

/-- The body of the frame that bytes begin with, cut out of them. -/
theorem body_cut {w : World} {b off n m : Nat} {xs : List UInt8} (h : RB w (some ⟨b, off, none⟩) n xs) (hl : m + 7 ≤ n) : RB w (some ⟨b, off + 3, none⟩) m ((xs.drop 3).take m) := by
  have := (rb_drop h (m := 3) (by omega)).take (k := m) (by omega)
  exact this

set_option maxHeartbeats 1000000 in
theorem take_okT (A : Option Addr) (n c : Nat) (xs : List UInt8) (w : World) (h : RB w A n xs) (hc : n ≤ c) (he : errT xs = 0) :
    Calls Try.prog 16 #[.slice A n c] w fun e w' => ∃ A' c', e = .returned (.tuple #[frV (frT xs) A' c', .int .i64 (((frT xs).b.length + 7 : Nat) : Int), .int .i64 0]) ∧ (BodyAt w' A' c' (frT xs).b ∧ TyB w' A' (frT xs).b.length) ∧ Below w.heap.size w w' := by
  obtain ⟨i0, hi, hz0, hz1, hz2⟩ := info_parts u8_info
  have hl := h.1
  obtain ⟨e1, e2, e3, e4, e5⟩ := errT_zero he
  obtain ⟨b, off, rfl, hb, hcell⟩ := h.at_ (by omega)
  have ha0 := hcell 0 (by omega)
  rw [Nat.add_zero] at ha0
  have HR := Lib.hid h
  have s1 := fun (g : Nat) (w1 : World) (hg : HasB w1 g) (hb : Below w.heap.size w w1) => faultB_any g w1.heap.size 0 1 n c (some ⟨b, off, none⟩) xs (w1.alloc (.cells #[.slice (some ⟨b, off, none⟩) n c] 22))
    (by
      have := (Below.refl w1.heap.size w1).alloc (Nat.le_refl _) (.cells #[.slice (some ⟨b, off, none⟩) n c] 22)
      exact (this.block g (Array.getElem?_eq_some_iff.1 hg).1).trans hg) (by simp)
    (by rw [cell_of_row _ w1.heap.size 0 _ _ (0, 0) (heap_alloc_new w1 _)]; rfl) ((HR.out.below hb).alloc _) hc
  rw [he] at s1
  have s3 := fun (w1 : World) (hb : Below w.heap.size w w1) => first_any b off n c xs w1 (HR.out.below hb) hc (by omega) e3 (by omega)
  have hfb : (frT xs).b.length = bodyN xs := (enc_take he).2.1
  have hfk : (frT xs).k = xs.getD 0 0 := rfl
  have hfl : (frT xs).b = (xs.drop 3).take (bodyN xs) := rfl
  obtain ⟨m, hm⟩ : ∃ m, bodyN xs = m := ⟨_, rfl⟩
  rw [hm] at s3 e3 e4 hfb hfl
  obtain ⟨kk, hkk⟩ : ∃ kk : Int, ((xs.getD 0 0).toNat : Int) = kk := ⟨_, rfl⟩
  rw [hkk] at ha0
  have HK : Hid (((frT xs).k.toNat : Int) = kk) := Lib.hid (by rw [hfk, hkk])
  have HL := Lib.hid hfb
  have HFL := Lib.hid hfl
  have HBody : Hid (RB w (some ⟨b, off + 3, none⟩) m ((xs.drop 3).take m)) := Lib.hid (body_cut h (by omega))
  have hn7 : m + 7 ≤ n := by omega
  have hc7 : m + 7 ≤ c := by omega
  have S1 := Lib.hid s1
  have S3 := Lib.hid s3
  have HA0 := Lib.hid ha0
  have HB' := Lib.hid hb
  clear h he s1 s3 hl e1 e2 e4 e5 hcell hfb hfk hfl hm hkk ha0 hb
  go_enter Try.func16, Try.ntmps16
  go_wp2_with fail
  refine (ofBytes_any _).mono ?_
  obtain ⟨W0, hW0⟩ : ∃ W0, w.alloc (.cells #[.int .u8 0, .slice none 0 0] 24) = W0 := ⟨_, rfl⟩
  have hs0 : W0.heap.size = w.heap.size + 1 := by rw [← hW0]; simp
  obtain ⟨g, hgd⟩ : ∃ g, W0.heap.size = g := ⟨_, rfl⟩
  rw [hW0, hgd]
  rintro e w1 ⟨rfl, hg, hb⟩
  have hb0 : Below (w.heap.size + 1) (w.alloc (.cells #[.int .u8 0, .slice none 0 0] 24)) w1 := by rw [hW0, ← hs0, hgd]; exact hb
  have s2 := S1.out g w1 hg (below_box hb0)
  have HB0 := Lib.hid hb0
  clear hg hb hb0 hgd hs0 hW0
  go_wp2_with fail
  refine s2.mono ?_
  rintro e w2 ⟨rfl, hb2⟩
  have hz := HB0.out.size
  rw [World.size_alloc] at hz
  have hb2' : Below (w.heap.size + 1) w1 w2 := ((Below.refl _ w1).alloc hz _).trans (hb2.mono (by rw [World.size_alloc]; omega))
  have HB2 := Lib.hid (HB0.out.trans hb2')
  have s4 := S3.out w2 (below_box HB2.out)
  clear s2 hb2 hb2' hz
  go_wp2_with fail
  refine s4.mono ?_
  rintro e w3 ⟨rfl, hb3⟩
  have HB3 := Lib.hid (HB2.out.trans (hb3.mono (by have := HB2.out.size; rw [World.size_alloc] at this; omega)))
  clear s4 hb3
  obtain ⟨c0, c1, f0, f1⟩ := box2 HB3.out
  have a0 : w3.cell? ⟨b, off, none⟩ = some (.int .u8 kk) := ((below_box HB3.out).cell (p := ⟨b, off, none⟩) HB'.out).trans HA0.out
  by_cases hm0 : m = 0
  · subst hm0
    go_wp2
    obtain ⟨d0, d1⟩ := set2 c0 c1 (.int .u8 kk) (.slice none 0 0)
    refine bodyPost_ret (v := .tuple #[.agg #[.int .u8 kk, .slice none 0 0], .int .i64 7, .int .i64 0]) (by simp [results, Try.results16, go_sem, d0, d1]) rfl ?_
    refine ⟨none, 0, by rw [frV, HK.out, HL.out]; rfl, ?_, ?_⟩
    · rw [HFL.out]
      exact ⟨⟨RB.zero _ _, Nat.le_refl _, fun _ => rfl, by simp⟩, fun h => absurd h (by simp)⟩
    · exact ((below_box HB3.out).setCell (p := ⟨w.heap.size, 0, none⟩) (Nat.le_refl _) _).setCell (p := ⟨w.heap.size, 1, none⟩) (Nat.le_refl _) _
  · have q1 : 0 < m := by omega
    have q2 : ¬ m + 3 = 3 := by omega
    have HS3 := Lib.hid (HBody.out.below (below_box HB3.out))
    go_wp2_with (at_builtin; refine wpList_append_rb rfl (.const (.slice none 0 0)) (.tmp 25) 22 rfl w3.heap.size 5 i0 (.int .u8 0) 1 Try.underlying22 hi hz0 hz1 hz2 rfl _ 0 [] rfl (World.ownsRow_nil _ _ _ _) (some ⟨b, off + 3, none⟩) m m ((xs.drop 3).take m) rfl (fun e => by cases e) HS3.out ?c1 ?c2 ?c3 ?_)
    case c1 => unfold maxLen; omega
    case c2 => omega
    case c3 => exact Nat.le_refl _
    intro v4 w4 hown4 hg4
    have hown5 : w4.ownsRow w3.heap.size 5 1 v4 m (((xs.drop 3).take m).map byteV) := by simpa using hown4
    obtain ⟨A4, c4, rfl, hr4, hn4, hc4, _⟩ := RB.own hown5
    have hb4 : Below w3.heap.size w3 w4 := (Below.refl _ w3).grown hg4 (Nat.le_refl _) (fun j hj => by simp [Value.ownBlock] at hj)
    have HB4 := Lib.hid (HB3.out.trans (hb4.mono (by have := HB3.out.size; rw [World.size_alloc] at this; omega)))
    have HO4 : Hid (∀ u1 u2, ((w4.setCell ⟨w.heap.size, 0, none⟩ u1).setCell ⟨w.heap.size, 1, none⟩ u2).ownsRow w3.heap.size 5 1 (.slice A4 m c4) m (((xs.drop 3).take m).map byteV)) := Lib.hid (fun u1 u2 => by
      have hlo := HB3.out.size
      rw [World.size_alloc] at hlo
      have hne : (Value.slice A4 m c4).ownBlock = none ∨ (Value.slice A4 m c4).ownBlock ≠ some w.heap.size := by
        refine Or.inr fun e => ?_
        have := (hown5.lt _ e).1
        omega
      exact (hown5.kept (grown_set w4 w.heap.size 0 u1) hne).kept (grown_set _ w.heap.size 1 u2) hne)
    have HLn : Hid (((xs.drop 3).take m).length = m ∧ m ≤ c4 ∧ (A4 = none → c4 = 0)) := Lib.hid ⟨hr4.1, hc4, hn4⟩
    obtain ⟨c0, c1, f0, f1⟩ := box2 HB4.out
    have a0 : w4.cell? ⟨b, off, none⟩ = some (.int .u8 kk) := ((below_box HB4.out).cell (p := ⟨b, off, none⟩) HB'.out).trans HA0.out
    clear hown4 hown5 hr4 hb4 hn4 hg4 hc4
    go_wp2
    obtain ⟨d0, d1⟩ := set2 c0 c1 (.int .u8 kk) (.slice A4 m c4)
    refine bodyPost_ret (v := .tuple #[.agg #[.int .u8 kk, .slice A4 m c4], .int .i64 (((m + 7 : Nat)) : Int), .int .i64 0]) (by simp [results, Try.results16, go_sem, d0, d1]) rfl ?_
    refine ⟨A4, c4, by rw [frV, HK.out, HL.out], ?_, ?_⟩
    · have hty : TyB ((w4.setCell ⟨w.heap.size, 0, none⟩ (.int .u8 kk)).setCell ⟨w.heap.size, 1, none⟩ (.slice A4 m c4)) A4 m := TyB.own (HO4.out (.int .u8 kk) (.slice A4 m c4))
      obtain ⟨A5, c5, ev, hr5, _⟩ := RB.own (HO4.out (.int .u8 kk) (.slice A4 m c4))
      simp only [Value.slice.injEq] at ev
      obtain ⟨rfl, _, rfl⟩ := ev
      obtain ⟨l1, l2, l3⟩ := HLn.out
      rw [HFL.out]
      exact ⟨⟨by rw [l1]; exact hr5, by rw [l1]; exact l2, l3, by rw [l1]; omega⟩, by rw [l1]; exact hty⟩
    · exact ((below_box HB4.out).setCell (p := ⟨w.heap.size, 0, none⟩) (Nat.le_refl _) _).setCell (p := ⟨w.heap.size, 1, none⟩) (Nat.le_refl _) _
theorem take_ok (A : Option Addr) (n c : Nat) (xs : List UInt8) (w : World) (h : RB w A n xs) (hc : n ≤ c) (he : errT xs = 0) :
    Calls Try.prog 16 #[.slice A n c] w fun e w' => ∃ A' c', e = .returned (.tuple #[frV (frT xs) A' c', .int .i64 (((frT xs).b.length + 7 : Nat) : Int), .int .i64 0]) ∧ BodyAt w' A' c' (frT xs).b ∧ Below w.heap.size w w' :=
  (take_okT A n c xs w h hc he).mono fun _ _ ⟨A', c', h1, h2, h3⟩ => ⟨A', c', h1, h2.1, h3⟩
end Go.Proofs.Ytkbllhpjfgeaaaa
