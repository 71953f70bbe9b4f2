/-
  Put, walked (layer 3).
-/
import Derived.Test.YtkbllhpjfgeaaaaFWalkE
import Derived.Test.YtkbllhpjfgeaaaaRelMore
namespace Go.Proofs.Ytkbllhpjfgeaaaa
open Go.RowKit
set_option linter.unusedSimpArgs false

theorem HasF.below {w w' : World} {g : Nat} (h : HasF w g) (hb : Below w.heap.size w w') : HasF w' g := (hb.block g (Array.getElem?_eq_some_iff.1 h).1).trans h
theorem HasB.below {w w' : World} {g : Nat} (h : HasB w g) (hb : Below w.heap.size w w') : HasB w' g := (hb.block g (Array.getElem?_eq_some_iff.1 h).1).trans h

/-- What is known of the values of 'fault(ofFrame(), f)'. -/
def putR (f : Fr) (V : Value) : Nat → Value → World → Prop
  | 0, v, w => ∃ g, v = .slice (some ⟨g, 0, none⟩) 2 2 ∧ HasF w g
  | 1, v, _ => v = V
  | 2, v, w => ∃ g, v = .slice (some ⟨g, 0, none⟩) 1 1 ∧ RFs w (some ⟨g, 0, none⟩) 1 [f]
  | _, v, _ => v = .int .i64 (errF f : Int)
theorem putR_stable (f : Fr) (V : Value) : ∀ i v w w', putR f V i v w → Go.Rel.Grew w w' → putR f V i v w'
  | 0, _, _, _, ⟨g, e, h⟩, k => ⟨g, e, h.below k⟩
  | 1, _, _, _, h, _ => h
  | 2, _, _, _, ⟨g, e, h⟩, k => ⟨g, e, h.below k⟩
  | _ + 3, _, _, _, h, _ => h
theorem errsF_one (f : Fr) : errsF [f] = errF f := by
  simp only [errsF]
  by_cases h : errF f = 0
  · rw [if_neg (by simp [h]), h]
  · rw [if_pos h]

def PutPost (w : World) (xs : List UInt8) (f : Fr) (e : Ending) (w' : World) : Prop :=
  Below w.heap.size w w' ∧ ((errF f ≠ 0 ∧ e = .returned (.tuple #[.slice none 0 0, .int .i64 (errF f : Int)])) ∨
    (errF f = 0 ∧ ∃ A c, e = .returned (.tuple #[.slice A (xs.length + (f.b.length + 7)) c, .int .i64 0]) ∧ RB w' A (xs.length + (f.b.length + 7)) (xs ++ encF f) ∧ (A = none → c = 0) ∧ xs.length + (f.b.length + 7) ≤ c))

def putR2 (B : Option Addr) (m d : Nat) (V : Value) (L : Nat) (ys : List UInt8) : Nat → Value → World → Prop
  | 0, v, _ | 1, v, _ | 3, v, _ => v = .slice B m d
  | 2, v, _ | 4, v, _ => v = .int .i64 (m : Int)
  | 5, v, _ => v = .slice B m m
  | 6, v, _ => v = V
  | 7, v, w | 8, v, w => ∃ A c, v = .slice A L c ∧ RB w A L ys ∧ (A = none → c = 0) ∧ L ≤ c ∧ TyB w A L
  | _, v, _ => v = .int .i64 0
theorem putR2_stable (B : Option Addr) (m d : Nat) (V : Value) (L : Nat) (ys : List UInt8) : ∀ i v w w', putR2 B m d V L ys i v w → Go.Rel.Grew w w' → putR2 B m d V L ys i v w'
  | 0, _, _, _, h, _ | 1, _, _, _, h, _ | 2, _, _, _, h, _ | 3, _, _, _, h, _ | 4, _, _, _, h, _ | 5, _, _, _, h, _ | 6, _, _, _, h, _ | _ + 9, _, _, _, h, _ => h
  | 7, _, _, _, ⟨A, c, e, h, k1, k2, t⟩, g | 8, _, _, _, ⟨A, c, e, h, k1, k2, t⟩, g => ⟨A, c, e, h.below g, k1, k2, t.grown (row := none) ⟨g.os, g.tape, g.output, g.size, fun k hk _ => g.block k hk⟩ (fun r e => by cases e)⟩

def PutPostT (w : World) (xs : List UInt8) (f : Fr) (e : Ending) (w' : World) : Prop :=
  Below w.heap.size w w' ∧ ((errF f ≠ 0 ∧ e = .returned (.tuple #[.slice none 0 0, .int .i64 (errF f : Int)])) ∨
    (errF f = 0 ∧ ∃ A c, e = .returned (.tuple #[.slice A (xs.length + (f.b.length + 7)) c, .int .i64 0]) ∧ RB w' A (xs.length + (f.b.length + 7)) (xs ++ encF f) ∧ (A = none → c = 0) ∧ xs.length + (f.b.length + 7) ≤ c ∧ TyB w' A (xs.length + (f.b.length + 7))))

set_option maxHeartbeats 1000000 in
theorem put_anyT (B : Option Addr) (m d : Nat) (xs : List UInt8) (f : Fr) (A : Option Addr) (c : Nat) (w : World) (hR : RB w B m xs) (hmd : m ≤ d) (hnil : B = none → d = 0) (hf : BodyAt w A c f.b) (hm : m + 1007 ≤ 140737488355328) :
    Calls Try.prog 11 #[.slice B m d, frV f A c] w (PutPostT w xs f) := by
  have HF := Lib.hid hf
  have HR := Lib.hid hR
  have hlx := hR.1
  obtain ⟨n, hn⟩ : ∃ n, f.b.length = n := ⟨_, rfl⟩
  unfold frV
  rw [hn]
  have HN := Lib.hid hn
  have HLx := Lib.hid hlx
  have HNil := Lib.hid hnil
  clear hf hR hn hlx hnil
  go_enter Try.func11, Try.ntmps11
  go_wp2
  obtain ⟨W0, hW0⟩ : ∃ W0, w.alloc (.cells #[.int .u8 (f.k.toNat : Int), .slice A n c] 24) = W0 := ⟨_, rfl⟩
  have hb0 : Below w.heap.size w W0 := by rw [← hW0]; exact (Below.refl _ w).alloc (Nat.le_refl _) _
  obtain ⟨c0, c1, _, _⟩ := box2 (Below.refl (w.heap.size + 1) (w.alloc (.cells #[.int .u8 (f.k.toNat : Int), .slice A n c] 24)))
  rw [hW0] at c0 c1 ⊢
  have HW0 := Lib.hid hb0
  clear hW0 hb0
  refine Go.Rel.wp_region_grew (by kernel_rfl) (by kernel_rfl) (by kernel_rfl) (by kernel_rfl) (putR f (.agg #[.int .u8 (f.k.toNat : Int), .slice A n c])) (putR_stable _ _) ?hsteps ?hend
  case hsteps =>
    refine .cons ?_ (.cons ?_ (.cons ?_ (.cons ?_ (.cons ?_ .nil))))
    · intro a w' hle hs' hd K hK
      have s5 := ofFrame_any w'
      unfold Go.Rel.stepOf
      go_simp
      refine s5.mono ?_
      rintro e w2 ⟨rfl, h5, hb⟩
      exact hK _ _ hb ⟨_, rfl, h5⟩
    · intro a w' hle hs' hd K hK
      have s0 : a.tmps[3]? = some (.pointer (some ⟨w.heap.size, 0, none⟩)) := hs'.2.2 3 (by kernel_rfl)
      have d0 : w'.cell? ⟨w.heap.size, 0, none⟩ = some (.int .u8 (f.k.toNat : Int)) := (hle.cell (p := ⟨w.heap.size, 0, none⟩) (bcell_lt c0)).trans c0
      have d1 : w'.cell? ⟨w.heap.size, 1, none⟩ = some (.slice A n c) := (hle.cell (p := ⟨w.heap.size, 1, none⟩) (bcell_lt c1)).trans c1
      unfold Go.Rel.stepOf
      go_simp
      exact hK _ _ (Go.Rel.Grew.refl _) rfl
    · intro a w' hle hs' hd K hK
      obtain ⟨_, s1, rfl⟩ := hd 1 8 (by kernel_rfl)
      unfold Go.Rel.stepOf
      go_simp
      refine hK _ _ ((Below.refl _ _).alloc (Nat.le_refl _) _) ⟨_, rfl, ?_⟩
      have := RFs.one (f := f) (A := A) (c := c) (HF.out.below (HW0.out.trans (hle.mono HW0.out.size))) 24
      rw [HN.out] at this
      exact this
    · intro a w' hle hs' hd K hK
      obtain ⟨_, s1, g1, rfl, h1⟩ := hd 0 7 (by kernel_rfl)
      obtain ⟨_, s2, g2, rfl, h2⟩ := hd 2 9 (by kernel_rfl)
      have s5 := faultF_any g1 1 1 (some ⟨g2, 0, none⟩) [f] w' h1 h2 (by omega)
      rw [errsF_one] at s5
      unfold Go.Rel.stepOf
      go_simp
      refine s5.mono ?_
      rintro e w2 ⟨rfl, hb⟩
      exact hK _ _ hb rfl
    · intro a w' hle hs' hd K hK
      obtain ⟨_, s1, rfl⟩ := hd 3 10 (by kernel_rfl)
      unfold Go.Rel.stepOf
      go_simp
      exact hK _ _ (Go.Rel.Grew.refl _) rfl
  case hend =>
    intro a w' hle hs' hR'
    obtain ⟨_, s7, g7, rfl, _⟩ := hR' 0 7 (by kernel_rfl)
    obtain ⟨_, s8, rfl⟩ := hR' 1 8 (by kernel_rfl)
    obtain ⟨_, s9, g9, rfl, _⟩ := hR' 2 9 (by kernel_rfl)
    obtain ⟨_, s10, rfl⟩ := hR' 3 10 (by kernel_rfl)
    obtain ⟨_, s6, rfl⟩ := hR' 4 6 (by kernel_rfl)
    have e := hs'.shape
    simp [Go.Rel.reset, Array.getD_eq_getD_getElem?, s7, s8, s9, s10, s6] at e
    obtain ⟨c0', c1'⟩ : w'.cell? ⟨w.heap.size, 0, none⟩ = some (.int .u8 (f.k.toNat : Int)) ∧ w'.cell? ⟨w.heap.size, 1, none⟩ = some (.slice A n c) :=
      ⟨(hle.cell (p := ⟨w.heap.size, 0, none⟩) (bcell_lt c0)).trans c0, (hle.cell (p := ⟨w.heap.size, 1, none⟩) (bcell_lt c1)).trans c1⟩
    have HW1 : Hid (Below w.heap.size w w') := Lib.hid (HW0.out.trans (hle.mono HW0.out.size))
    clear hR' hs' s7 s8 s9 s10 s6 hle c0 c1 HW0
    subst e
    obtain ⟨W1, rfl⟩ : ∃ W1, W1 = w' := ⟨_, rfl⟩
    by_cases he : errF f = 0
    · have HE := Lib.hid he
      have hfl : n ≤ 1000 := by have := ((okF_iff f).2 he).2; rw [HN.out] at this; exact this
      rw [he]
      clear he
      go_wp2
      refine Go.Rel.wp_region_grew (by kernel_rfl) (by kernel_rfl) (by kernel_rfl) (by kernel_rfl) (putR2 B m d (.agg #[.int .u8 (f.k.toNat : Int), .slice A n c]) (m + (n + 7)) (xs ++ encF f)) (putR2_stable _ _ _ _ _ _) ?hsteps2 ?hend2
      case hsteps2 =>
        refine .cons ?_ (.cons ?_ (.cons ?_ (.cons ?_ (.cons ?_ (.cons ?_ (.cons ?_ (.cons ?_ (.cons ?_ (.cons ?_ .nil)))))))))
        · intro a w' hle hs' hd K hK
          have s0 : a.tmps[0]? = some (.slice B m d) := hs'.2.2 0 (by kernel_rfl)
          unfold Go.Rel.stepOf
          go_simp
          exact hK _ _ (Go.Rel.Grew.refl _) rfl
        · intro a w' hle hs' hd K hK
          have s0 : a.tmps[0]? = some (.slice B m d) := hs'.2.2 0 (by kernel_rfl)
          unfold Go.Rel.stepOf
          go_simp
          exact hK _ _ (Go.Rel.Grew.refl _) rfl
        · intro a w' hle hs' hd K hK
          obtain ⟨_, s1, rfl⟩ := hd 1 15 (by kernel_rfl)
          unfold Go.Rel.stepOf
          go_simp
          exact hK _ _ (Go.Rel.Grew.refl _) rfl
        · intro a w' hle hs' hd K hK
          have s0 : a.tmps[0]? = some (.slice B m d) := hs'.2.2 0 (by kernel_rfl)
          unfold Go.Rel.stepOf
          go_simp
          exact hK _ _ (Go.Rel.Grew.refl _) rfl
        · intro a w' hle hs' hd K hK
          obtain ⟨_, s1, rfl⟩ := hd 3 17 (by kernel_rfl)
          unfold Go.Rel.stepOf
          go_simp
          exact hK _ _ (Go.Rel.Grew.refl _) rfl
        · intro a w' hle hs' hd K hK
          obtain ⟨_, s1, rfl⟩ := hd 0 14 (by kernel_rfl)
          obtain ⟨_, s2, rfl⟩ := hd 2 16 (by kernel_rfl)
          obtain ⟨_, s3, rfl⟩ := hd 4 18 (by kernel_rfl)
          have q0 : (0 : Int) ≤ (m : Int) := by omega
          unfold Go.Rel.stepOf
          go_simp
          exact hK _ _ (Go.Rel.Grew.refl _) rfl
        · intro a w' hle hs' hd K hK
          have s0 : a.tmps[3]? = some (.pointer (some ⟨w.heap.size, 0, none⟩)) := hs'.2.2 3 (by kernel_rfl)
          have d0 : w'.cell? ⟨w.heap.size, 0, none⟩ = some (.int .u8 (f.k.toNat : Int)) := (hle.cell (p := ⟨w.heap.size, 0, none⟩) (bcell_lt c0')).trans c0'
          have d1 : w'.cell? ⟨w.heap.size, 1, none⟩ = some (.slice A n c) := (hle.cell (p := ⟨w.heap.size, 1, none⟩) (bcell_lt c1')).trans c1'
          unfold Go.Rel.stepOf
          go_simp
          exact hK _ _ (Go.Rel.Grew.refl _) rfl
        · intro a w' hle hs' hd K hK
          obtain ⟨_, s1, rfl⟩ := hd 5 19 (by kernel_rfl)
          obtain ⟨_, s2, rfl⟩ := hd 6 20 (by kernel_rfl)
          have hbw : Below w.heap.size w w' := HW1.out.trans (hle.mono HW1.out.size)
          have s5 := lay_any w' w' w'.heap.size m m B xs (.inr ⟨B, rfl, HR.out.below hbw, fun e => by have := HNil.out e; omega⟩) (Below.refl _ _) (Nat.le_refl _) (Nat.le_refl _) f A c (HF.out.below hbw) (by rw [HN.out]; exact hfl) hm
          unfold frV at s5
          rw [HN.out] at s5
          unfold Go.Rel.stepOf
          go_simp
          refine s5.mono ?_
          rintro e w2 ⟨v5, rfl, h5, hb5⟩
          obtain ⟨A5, c5, rfl, r5, n5, l5, _⟩ := RB.own h5
          exact hK _ _ hb5 ⟨_, _, rfl, r5, n5, l5, TyB.own h5⟩
        · intro a w' hle hs' hd K hK
          obtain ⟨_, s1, A5, c5, rfl, h5⟩ := hd 7 21 (by kernel_rfl)
          unfold Go.Rel.stepOf
          go_simp
          exact hK _ _ (Go.Rel.Grew.refl _) ⟨_, _, rfl, h5⟩
        · intro a w' hle hs' hd K hK
          unfold Go.Rel.stepOf
          go_simp
          exact hK _ _ (Go.Rel.Grew.refl _) rfl
      case hend2 =>
        intro a w' hle hs' hR'
        obtain ⟨_, s4, A5, c5, rfl, h5, k5, l5, ty5⟩ := hR' 8 4 (by kernel_rfl)
        obtain ⟨_, s5, rfl⟩ := hR' 9 5 (by kernel_rfl)
        have hbw : Below w.heap.size w w' := HW1.out.trans (hle.mono HW1.out.size)
        clear hR'
        go_wp2
        refine bodyPost_ret (v := .tuple #[.slice A5 (m + (n + 7)) c5, .int .i64 0]) (by simp [results, Try.results11, go_sem, s4, s5, Array.getD_eq_getD_getElem?]) hs'.1 ?_
        refine ⟨hbw, .inr ⟨HE.out, A5, c5, ?_, ?_, k5, ?_⟩⟩
        · rw [HLx.out, HN.out]
        · rw [HLx.out, HN.out]; exact h5
        · rw [HLx.out, HN.out]; exact ⟨l5, ty5⟩
    · obtain ⟨E, hE⟩ : ∃ E, errF f = E := ⟨_, rfl⟩
      have HE := Lib.hid hE
      rw [hE] at he ⊢
      have e0 : ((E : Int) == 0) = false := by rw [beq_eq_false_iff_ne]; omega
      have HE0 := Lib.hid he
      clear hE he
      go_wp2
      go_ret2
      exact ⟨HW1.out, .inl ⟨by rw [HE.out]; exact HE0.out, by rw [HE.out]; rfl⟩⟩
theorem put_any (B : Option Addr) (m d : Nat) (xs : List UInt8) (f : Fr) (A : Option Addr) (c : Nat) (w : World) (hR : RB w B m xs) (hmd : m ≤ d) (hnil : B = none → d = 0) (hf : BodyAt w A c f.b) (hm : m + 1007 ≤ 140737488355328) :
    Calls Try.prog 11 #[.slice B m d, frV f A c] w (PutPost w xs f) :=
  (put_anyT B m d xs f A c w hR hmd hnil hf hm).mono fun _ _ ⟨h1, h2⟩ => ⟨h1, h2.imp id fun ⟨h3, A, c, h4, h5, h6, h7, _⟩ => ⟨h3, A, c, h4, h5, h6, h7⟩⟩
end Go.Proofs.Ytkbllhpjfgeaaaa
