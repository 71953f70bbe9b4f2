/-
  Self of the document's roll, walked (layer 9).
-/
import Derived.Test.YtmfokogckfoheaaRoPut
import Derived.Test.YtmfokogckfoheaaRkLeT
namespace Go.Proofs.Ytmfokogckfoheaa
open Go.RowKit Go.Maps
set_option linter.unusedSimpArgs false
set_option linter.unusedVariables false

theorem Ro.ok.find {r : Ro} (h : r.ok) (z : Int) : findU (listTo r.T 8) z = r.T z := by
  rw [findU_listTo (fun n v h2 => (h.at_ n v h2).2)]
  by_cases hz : 0 ≤ z ∧ z < ((8 : Nat) : Int)
  · rw [if_pos hz]
  · rw [if_neg hz]
    cases ht : r.T z with
    | none => rfl
    | some v =>
      exfalso
      obtain ⟨h1, h2⟩ := h.at_ z v ht
      have := (right_wf h1).2
      omega
/-- Find in the document's row. -/
theorem RrAt.find {w : World} {base B : Nat} {v : Value} {r : Ro} (h : RrAt w base B v r) : ∃ A n c, v = .slice A n c ∧ (n ≤ c ∧ c ≤ maxLen) ∧ SUp w A n (listTo r.T 8) ∧ ∀ w', Below w.heap.size w w' → ∀ z, Calls Try.prog 16 #[.slice A n c, .int .i64 z] w' fun e w2 => e = .returned (.tuple #[.agg #[.int .i64 (atU r.T z).node, .int .u32 ((atU r.T z).inc : Int), .int .i64 (atU r.T z).st], .bool (r.T z).isSome]) ∧ Below w'.heap.size w' w2 := by
  obtain ⟨A, c, e, hS, hnc, hm⟩ := h.sup
  refine ⟨A, _, c, e, ⟨hnc, hm⟩, hS, fun w' hb z => ?_⟩
  have := rfind_any A _ c (listTo r.T 8) z w' (hS.of_block hb) hnc hm
  unfold foundU at this
  rw [h.ok.find] at this
  exact this
def selfR (G : Nat) (B : Nat) (A : Option Addr) (n : Nat) (c : Nat) (me : Int) (own : Up) (is : Bool) : Nat → Value → World → Prop
  | 0, v, _ => v = .pointer (some ⟨B, 0, none⟩)
  | 1, v, _ => v = .pointer (some ⟨B, 0, none⟩)
  | 2, v, _ => v = .pointer (some ⟨B, 1, none⟩)
  | 3, v, _ => v = .slice A n c
  | 4, v, _ => v = .pointer (some ⟨B, 0, none⟩)
  | 5, v, _ => v = .pointer (some ⟨B, 0, none⟩)
  | 6, v, _ => v = .pointer (some ⟨B, 0, none⟩)
  | 7, v, _ => v = .int .i64 me
  | 8, v, _ => v = .tuple #[.agg #[.int .i64 own.node, .int .u32 (own.inc : Int), .int .i64 own.st], .bool is]
  | 9, v, _ => v = .tuple #[.agg #[.int .i64 own.node, .int .u32 (own.inc : Int), .int .i64 own.st], .bool is]
  | 10, v, _ => v = .agg #[.int .i64 own.node, .int .u32 (own.inc : Int), .int .i64 own.st]
  | 11, v, _ => v = .bool is
  | 12, v, w => ∃ B, v = .pointer (some ⟨B, 0, none⟩) ∧ G ≤ B ∧ ∃ u0 u1 u2, w.heap[B]? = some (.cells #[u0, u1, u2] TU (0, 0))
  | 14, v, _ => v = .bool is
  | _, _, _ => True
theorem selfR_stable (G : Nat) (B : Nat) (A : Option Addr) (n : Nat) (c : Nat) (me : Int) (own : Up) (is : Bool) : ∀ i v w w', selfR G B A n c me own is i v w → LeT G w w' → selfR G B A n c me own is i v w'
  | 0, _, _, _, h, _ | 1, _, _, _, h, _ | 2, _, _, _, h, _ | 3, _, _, _, h, _ | 4, _, _, _, h, _ | 5, _, _, _, h, _ | 6, _, _, _, h, _ | 7, _, _, _, h, _ | 8, _, _, _, h, _ | 9, _, _, _, h, _ | 10, _, _, _, h, _ | 11, _, _, _, h, _ | 13, _, _, _, h, _ | 14, _, _, _, h, _ => h
  | 12, _, _, _, ⟨B, e, hB, u0, u1, u2, h⟩, g => ⟨B, e, hB, g.var B u0 u1 u2 hB h⟩
  | _ + 15, _, _, _, h, _ => h
set_option maxHeartbeats 8000000 in
theorem rself_any {base B : Nat} {v0 : Value} {r : Ro} (w : World) (hR : RrAt w base B v0 r) :
    Calls Try.prog 18 #[.pointer (some ⟨B, 0, none⟩)] w fun e w' => e = .returned (.agg #[.int .i64 r.selfU.node, .int .u32 (r.selfU.inc : Int), .int .i64 r.selfU.st]) ∧ Below w.heap.size w w' := by
  have hb0 := below1 w (.cells #[.int .i64 0, .int .u32 0, .int .i64 0] 32)
  have k0 := heap_alloc_new w (.cells #[.int .i64 0, .int .u32 0, .int .i64 0] 32)
  obtain ⟨X, hX⟩ : ∃ X, w.heap.size = X := ⟨_, rfl⟩
  obtain ⟨W, hW⟩ : ∃ W, w.alloc (.cells #[.int .i64 0, .int .u32 0, .int .i64 0] 32) = W := ⟨_, rfl⟩
  rw [hW] at hb0 k0
  rw [hX] at k0
  have hR1 := hR.below hb0
  obtain ⟨A, n, c, rfl, _, _, hfind⟩ := hR1.find
  obtain ⟨own, hown⟩ : ∃ u, r.selfU = u := ⟨_, rfl⟩
  obtain ⟨me, hme⟩ : ∃ m, r.own = m := ⟨_, rfl⟩
  obtain ⟨is, his⟩ : ∃ m, (r.T me).isSome = m := ⟨_, rfl⟩
  have hown' : atU r.T me = own := by rw [← hme]; exact hown
  have HFd : Hid (∀ w', Below W.heap.size W w' → Calls Try.prog 16 #[.slice A n c, .int .i64 me] w' fun e w2 => e = .returned (.tuple #[.agg #[.int .i64 own.node, .int .u32 (own.inc : Int), .int .i64 own.st], .bool is]) ∧ Below w'.heap.size w' w2) := Lib.hid (fun w' hb => by have := hfind w' hb me; rw [hown', his] at this; exact this)
  obtain ⟨G, hG⟩ : ∃ G, W.heap.size = G := ⟨_, rfl⟩
  have HC : Hid (∀ w', LeT G W w' → w'.cell? ⟨B, 0, none⟩ = some (.int .i64 me) ∧ w'.cell? ⟨B, 1, none⟩ = some (.slice A n c)) := Lib.hid (fun w' hle => by
    have hl := hR1.lt
    have hbl := (hle.but.block B hl (by omega)).trans hR1.blk
    rw [hme] at hbl
    refine ⟨?_, ?_⟩ <;> (rw [cell_of_row _ _ _ _ _ _ hbl]; rfl))
  have HG := Lib.hid hG
  have HX := Lib.hid hX
  have HW := Lib.hid hW
  have HB0 := Lib.hid hb0
  have HK0 := Lib.hid k0
  have HO := Lib.hid hown
  clear hR hb0 k0 hX hW hR1 hfind hown hme his hown' hG
  go_enter Try.func18, Try.ntmps18
  go_wp2_with fail
  rw [HW.out, HX.out]
  refine Go.Rel.wp_region_acts (by kernel_rfl) (by kernel_rfl) (by kernel_rfl) (by kernel_rfl) (fun f a' w' => f 13 = true → Holds G own 3 a' w') (LeT G) (fun _ _ _ h k => h.trans k) ⟨(But.refl _ _).drew, fun B u0 u1 u2 _ h => ⟨u0, u1, u2, h⟩⟩ (fun h => by cases h) (selfR G B A n c me own is) (selfR_stable G B A n c me own is) ?hs ?he
  case hs =>
    refine (.cons ?_ (.cons ?_ (.cons ?_ (.cons ?_ (.cons ?_ (.cons ?_ (.cons ?_ (.cons ?_ (.cons ?_ (.cons ?_ (.cons ?_ (.cons ?_ (.cons ?_ (.cons ?_ (.cons ?_ .nil)))))))))))))))
    · intro f a' w' hI hf hanc hdesc hle hs' hd K hK
      have f0 : a'.tmps[0]? = some (.pointer (some ⟨B, 0, none⟩)) := hs'.2.2 0 (by kernel_rfl)
      unfold Go.Rel.stepOf
      go_simp
      exact hK _ _ (LeT.refl _ _) (fun h => Holds.keep (hI (by simpa [Go.Rel.upd] using h)) (Below.refl _ _) (by decide) _) rfl
    · intro f a' w' hI hf hanc hdesc hle hs' hd K hK
      obtain ⟨_, t0, rfl⟩ := hd 0 6 (by kernel_rfl)
      unfold Go.Rel.stepOf
      go_simp
      exact hK _ _ (LeT.refl _ _) (fun h => Holds.keep (hI (by simpa [Go.Rel.upd] using h)) (Below.refl _ _) (by decide) _) rfl
    · intro f a' w' hI hf hanc hdesc hle hs' hd K hK
      obtain ⟨_, t1, rfl⟩ := hd 1 7 (by kernel_rfl)
      unfold Go.Rel.stepOf
      go_simp
      exact hK _ _ (LeT.refl _ _) (fun h => Holds.keep (hI (by simpa [Go.Rel.upd] using h)) (Below.refl _ _) (by decide) _) rfl
    · intro f a' w' hI hf hanc hdesc hle hs' hd K hK
      obtain ⟨_, t2, rfl⟩ := hd 2 8 (by kernel_rfl)
      obtain ⟨r0, r1⟩ := HC.out w' hle
      unfold Go.Rel.stepOf
      go_simp
      exact hK _ _ (LeT.refl _ _) (fun h => Holds.keep (hI (by simpa [Go.Rel.upd] using h)) (Below.refl _ _) (by decide) _) rfl
    · intro f a' w' hI hf hanc hdesc hle hs' hd K hK
      have f0 : a'.tmps[0]? = some (.pointer (some ⟨B, 0, none⟩)) := hs'.2.2 0 (by kernel_rfl)
      unfold Go.Rel.stepOf
      go_simp
      exact hK _ _ (LeT.refl _ _) (fun h => Holds.keep (hI (by simpa [Go.Rel.upd] using h)) (Below.refl _ _) (by decide) _) rfl
    · intro f a' w' hI hf hanc hdesc hle hs' hd K hK
      obtain ⟨_, t4, rfl⟩ := hd 4 10 (by kernel_rfl)
      unfold Go.Rel.stepOf
      go_simp
      exact hK _ _ (LeT.refl _ _) (fun h => Holds.keep (hI (by simpa [Go.Rel.upd] using h)) (Below.refl _ _) (by decide) _) rfl
    · intro f a' w' hI hf hanc hdesc hle hs' hd K hK
      obtain ⟨_, t5, rfl⟩ := hd 5 11 (by kernel_rfl)
      unfold Go.Rel.stepOf
      go_simp
      exact hK _ _ (LeT.refl _ _) (fun h => Holds.keep (hI (by simpa [Go.Rel.upd] using h)) (Below.refl _ _) (by decide) _) rfl
    · intro f a' w' hI hf hanc hdesc hle hs' hd K hK
      obtain ⟨_, t6, rfl⟩ := hd 6 12 (by kernel_rfl)
      obtain ⟨r0, r1⟩ := HC.out w' hle
      unfold Go.Rel.stepOf
      go_simp
      exact hK _ _ (LeT.refl _ _) (fun h => Holds.keep (hI (by simpa [Go.Rel.upd] using h)) (Below.refl _ _) (by decide) _) rfl
    · intro f a' w' hI hf hanc hdesc hle hs' hd K hK
      obtain ⟨_, t3, rfl⟩ := hd 3 9 (by kernel_rfl)
      obtain ⟨_, t7, rfl⟩ := hd 7 13 (by kernel_rfl)
      unfold Go.Rel.stepOf
      go_simp
      refine (HFd.out w' (hle.but.below (Nat.le_refl _) (fun k hk hG => by have := HG.out; omega))).mono ?_
      rintro e w6 ⟨rfl, hb6⟩
      exact hK _ _ (LeT.of_below hb6) (fun h => Holds.keep (hI (by simpa [Go.Rel.upd] using h)) hb6 (by decide) _) rfl
    · intro f a' w' hI hf hanc hdesc hle hs' hd K hK
      obtain ⟨_, t8, rfl⟩ := hd 8 14 (by kernel_rfl)
      unfold Go.Rel.stepOf
      go_simp
      exact hK _ _ (LeT.refl _ _) (fun h => Holds.keep (hI (by simpa [Go.Rel.upd] using h)) (Below.refl _ _) (by decide) _) rfl
    · intro f a' w' hI hf hanc hdesc hle hs' hd K hK
      obtain ⟨_, t9, rfl⟩ := hd 9 5 (by kernel_rfl)
      unfold Go.Rel.stepOf
      go_simp
      exact hK _ _ (LeT.refl _ _) (fun h => Holds.keep (hI (by simpa [Go.Rel.upd] using h)) (Below.refl _ _) (by decide) _) rfl
    · intro f a' w' hI hf hanc hdesc hle hs' hd K hK
      obtain ⟨_, t9, rfl⟩ := hd 9 5 (by kernel_rfl)
      unfold Go.Rel.stepOf
      go_simp
      exact hK _ _ (LeT.refl _ _) (fun h => Holds.keep (hI (by simpa [Go.Rel.upd] using h)) (Below.refl _ _) (by decide) _) rfl
    · intro f a' w' hI hf hanc hdesc hle hs' hd K hK
      have zS := hdesc 12 13 (by kernel_rfl)
      have hz := hle.but.size
      unfold Go.Rel.stepOf
      go_simp
      exact hK _ _ (LeT.of_below (below1 _ _)) (fun h => by simp [Go.Rel.upd, zS] at h) ⟨_, rfl, by have := HG.out; omega, _, _, _, heap_alloc_new _ _⟩
    · intro f a' w' hI hf hanc hdesc hle hs' hd K hK
      obtain ⟨_, ta, B, rfl, hB, u0, u1, u2, hh⟩ := hd 12 3 (by kernel_rfl)
      obtain ⟨_, tb, rfl⟩ := hd 10 15 (by kernel_rfl)
      obtain ⟨b0, b1, b2⟩ := blk3 hh
      have g0 := blk_froz hh 0
      have g1 := blk_froz hh 1
      have g2 := blk_froz hh 2
      unfold Go.Rel.stepOf
      go_simp
      exact hK undef _ (LeT.set w' hB hh _ _ _) (fun _ => ⟨B, ta, hB, set3_blk hh _ _ _⟩) trivial
    · intro f a' w' hI hf hanc hdesc hle hs' hd K hK
      obtain ⟨_, t11, rfl⟩ := hd 11 16 (by kernel_rfl)
      unfold Go.Rel.stepOf
      go_simp
      exact hK _ _ (LeT.refl _ _) (fun h => Holds.keep (hI (by simpa [Go.Rel.upd] using h)) (Below.refl _ _) (by decide) _) rfl
  case he =>
    intro f a' w7 hall hI hle hs' hR'
    obtain ⟨B7, s3, hB7, hh7⟩ := hI (hall 13 (by decide))
    obtain ⟨v6, s6, _⟩ := hR' 0 6 (by kernel_rfl)
    obtain ⟨v7, s7, _⟩ := hR' 1 7 (by kernel_rfl)
    obtain ⟨v8, s8, _⟩ := hR' 2 8 (by kernel_rfl)
    obtain ⟨v9, s9, _⟩ := hR' 3 9 (by kernel_rfl)
    obtain ⟨v10, s10, _⟩ := hR' 4 10 (by kernel_rfl)
    obtain ⟨v11, s11, _⟩ := hR' 5 11 (by kernel_rfl)
    obtain ⟨v12, s12, _⟩ := hR' 6 12 (by kernel_rfl)
    obtain ⟨v13, s13, _⟩ := hR' 7 13 (by kernel_rfl)
    obtain ⟨v14, s14, _⟩ := hR' 8 14 (by kernel_rfl)
    obtain ⟨v5, s5, _⟩ := hR' 9 5 (by kernel_rfl)
    obtain ⟨v15, s15, _⟩ := hR' 10 15 (by kernel_rfl)
    obtain ⟨v16, s16, _⟩ := hR' 11 16 (by kernel_rfl)
    obtain ⟨_, s4, rfl⟩ := hR' 14 4 (by kernel_rfl)
    have e := hs'.shape
    simp only [List.toList_toArray, List.foldl, Go.Rel.reset, Array.getD_eq_getD_getElem?, s3, s6, s7, s8, s9, s10, s11, s12, s13, s14, s5, s15, s16, s4, Option.getD_some] at e
    simp at e
    have HL7 := Lib.hid hle
    have HH7 := Lib.hid hh7
    have HB7 := Lib.hid hB7
    clear hR' hs' hI hall hle hh7 hB7 s3 s6 s7 s8 s9 s10 s11 s12 s13 s14 s5 s15 s16 s4
    subst e
    have hb7 : Below W.heap.size W w7 := HL7.out.but.below (Nat.le_refl _) (fun k hk hG => by have := HG.out; omega)
    have hk7 := (hb7.block X (block_lt HK0.out)).trans HK0.out
    have HBf := Lib.hid (HB0.out.trans (hb7.mono HB0.out.size))
    obtain ⟨d0, d1, d2⟩ := blk3 HH7.out
    obtain ⟨e0, e1, e2⟩ := blk3 hk7
    have g0 := blk_froz hk7 0
    have g1 := blk_froz hk7 1
    have g2 := blk_froz hk7 2
    have HQ := Lib.hid (set3_blk hk7 (.int .i64 own.node) (.int .u32 (own.inc : Int)) (.int .i64 own.st))
    clear hb7 hk7
    go_wp2
    obtain ⟨q0, q1, q2⟩ := blk3 HQ.out
    rw [HO.out]
    refine bodyPost_ret (v := .agg #[.int .i64 own.node, .int .u32 (own.inc : Int), .int .i64 own.st]) (by simp [results, Try.results18, go_sem, q0, q1, q2]) rfl ⟨rfl, ?_⟩
    have hle : w.heap.size ≤ X := Nat.le_of_eq HX.out
    exact ((HBf.out.setCell (by exact hle) _).setCell (by exact hle) _).setCell (by exact hle) _
end Go.Proofs.Ytmfokogckfoheaa
