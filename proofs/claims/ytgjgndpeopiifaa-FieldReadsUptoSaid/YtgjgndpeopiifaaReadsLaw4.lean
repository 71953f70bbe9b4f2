/-
  Of any bytes anything is read as the document says, or it is told what is wrong first, and how much is left: the law sodalitylaw04.FieldReads over the contracts.
-/
import Derived.Test.YtgjgndpeopiifaaStepLaw4
import Derived.Test.YtgjgndpeopiifaaDLayD
namespace Go.Proofs.Ytgjgndpeopiifaa
open Go.RowKit
set_option linter.unusedSimpArgs false

def readsR (_ : Nat → Prop) (br : Nat) (bw : Nat) (b : Nat) (off : Nat) (n1 : Nat) (c1 : Nat) (k : Nat) (x : Stp) (L : Nat) (E : Nat) (D : Nat) : Nat → Value → World → Prop
  | 0, v, _ => v = .pointer (some ⟨br, 0, none⟩)
  | 1, v, _ => v = .pointer (some ⟨bw, 0, none⟩)
  | 2, v, _ => v = .slice (some ⟨b, off, none⟩) n1 c1
  | 3, v, _ => v = .int .i64 (k : Int)
  | 4, v, _ => v = .pointer (some ⟨b, off + k * 4, none⟩)
  | 5, v, _ => v = .agg #[.int .i64 x.kind, .int .i64 x.many, .int .i64 x.most, .int .u64 (x.num : Int)]
  | 6, v, _ => v = .bool true
  | 7, v, _ => v = .bool false
  | 8, v, _ => v = .bool false
  | 9, v, _ => v = .pointer (some ⟨br, 0, none⟩)
  | 10, v, _ => v = .int .i64 (L : Int)
  | 11, v, _ => v = .pointer (some ⟨bw, 0, none⟩)
  | 12, v, _ => v = .pointer (some ⟨bw, 0, none⟩)
  | 13, v, _ => v = .pointer (some ⟨bw, 0, none⟩)
  | 14, v, _ => ∃ A c, v = .slice A L c
  | 15, v, _ => v = .int .i64 (L : Int)
  | 16, v, _ => v = .bool false
  | 17, v, _ => v = .bool false
  | 18, v, _ => v = .bool false
  | 19, v, _ => v = .pointer (some ⟨br, 0, none⟩)
  | 20, v, _ => v = .int .i64 (E : Int)
  | 21, v, _ => v = .pointer (some ⟨bw, 0, none⟩)
  | 22, v, _ => v = .pointer (some ⟨bw, 0, none⟩)
  | 23, v, _ => v = .pointer (some ⟨bw, 1, none⟩)
  | 24, v, _ => v = .int .i64 (E : Int)
  | 25, v, _ => v = .bool false
  | 26, v, _ => v = .bool false
  | 27, v, _ => v = .bool false
  | 28, v, _ => v = .pointer (some ⟨br, 0, none⟩)
  | 29, v, _ => v = .int .i64 (D : Int)
  | 30, v, _ => v = .pointer (some ⟨bw, 0, none⟩)
  | 31, v, _ => v = .int .i64 (D : Int)
  | 32, v, _ => v = .bool false
  | 33, v, _ => v = .bool false
  | _, _, _ => True
theorem readsR_stable (S : Nat → Prop) (br : Nat) (bw : Nat) (b : Nat) (off : Nat) (n1 : Nat) (c1 : Nat) (k : Nat) (x : Stp) (L : Nat) (E : Nat) (D : Nat) : ∀ i v w w', readsR S br bw b off n1 c1 k x L E D i v w → But S w w' → readsR S br bw b off n1 c1 k x L E D i v w'
  | 0, _, _, _, h, _ | 1, _, _, _, h, _ | 2, _, _, _, h, _ | 3, _, _, _, h, _ | 4, _, _, _, h, _ | 5, _, _, _, h, _ | 6, _, _, _, h, _ | 7, _, _, _, h, _ | 8, _, _, _, h, _ | 9, _, _, _, h, _ | 10, _, _, _, h, _ | 11, _, _, _, h, _ | 12, _, _, _, h, _ | 13, _, _, _, h, _ | 14, _, _, _, h, _ | 15, _, _, _, h, _ | 16, _, _, _, h, _ | 17, _, _, _, h, _ | 18, _, _, _, h, _ | 19, _, _, _, h, _ | 20, _, _, _, h, _ | 21, _, _, _, h, _ | 22, _, _, _, h, _ | 23, _, _, _, h, _ | 24, _, _, _, h, _ | 25, _, _, _, h, _ | 26, _, _, _, h, _ | 27, _, _, _, h, _ | 28, _, _, _, h, _ | 29, _, _, _, h, _ | 30, _, _, _, h, _ | 31, _, _, _, h, _ | 32, _, _, _, h, _ | 33, _, _, _, h, _ => h
  | _ + 34, _, _, _, h, _ => h
def readsR2 (_ : Nat → Prop) (br : Nat) (bw : Nat) (L : Nat) (D : Nat) : Nat → Value → World → Prop
  | 0, v, _ => v = .pointer (some ⟨br, 0, none⟩)
  | 1, v, _ => v = .int .i64 (L : Int)
  | 2, v, _ => v = .pointer (some ⟨bw, 0, none⟩)
  | 3, v, _ => v = .pointer (some ⟨bw, 0, none⟩)
  | 4, v, _ => v = .pointer (some ⟨bw, 0, none⟩)
  | 5, v, _ => ∃ A c, v = .slice A L c
  | 6, v, _ => v = .int .i64 (L : Int)
  | 7, v, _ => v = .bool true
  | 8, v, _ => v = .bool true
  | 9, v, _ => v = .pointer (some ⟨br, 0, none⟩)
  | 10, v, _ => v = .int .i64 (D : Int)
  | 11, v, _ => v = .pointer (some ⟨bw, 0, none⟩)
  | 12, v, _ => v = .int .i64 (D : Int)
  | 13, v, _ => v = .bool true
  | 14, v, _ => v = .bool true
  | 15, v, _ => v = .bool true
  | _, _, _ => True
theorem readsR2_stable (S : Nat → Prop) (br : Nat) (bw : Nat) (L : Nat) (D : Nat) : ∀ i v w w', readsR2 S br bw L D i v w → But S w w' → readsR2 S br bw L D i v w'
  | 0, _, _, _, h, _ | 1, _, _, _, h, _ | 2, _, _, _, h, _ | 3, _, _, _, h, _ | 4, _, _, _, h, _ | 5, _, _, _, h, _ | 6, _, _, _, h, _ | 7, _, _, _, h, _ | 8, _, _, _, h, _ | 9, _, _, _, h, _ | 10, _, _, _, h, _ | 11, _, _, _, h, _ | 12, _, _, _, h, _ | 13, _, _, _, h, _ | 14, _, _, _, h, _ | 15, _, _, _, h, _ => h
  | _ + 16, _, _, _, h, _ => h

set_option maxHeartbeats 8000000 in
theorem reads_walk (A : Option Addr) (n c : Nat) (xs : List UInt8) (A1 : Option Addr) (n1 c1 : Nat) (ss : List Stp) (w : World) (hR : RB w A n xs) (hnil : A = none → c = 0) (hnc : n ≤ c) (hn : n ≤ 1048576) (hS : SSt w A1 n1 ss) (hok : ∀ x ∈ ss, okStp x) (hn1 : n1 ≤ 1048576) :
    Calls Try.prog 4 #[.slice A n c, .slice A1 n1 c1] w fun e w' => e = .returned (.bool true) ∧ Below w.heap.size w w' := by
  have HR := Lib.hid hR
  have HSS := Lib.hid hS
  have HOK := Lib.hid hok
  have HNil := Lib.hid hnil
  have hssl := hS.1
  have HSl := Lib.hid hssl
  have HXl := Lib.hid hR.1
  have s0 := works_any w
  clear hR hS hok hnil hssl
  go_enter Try.func4, Try.ntmps4
  go_wp2_with fail
  refine s0.mono ?_
  rintro e w0 ⟨rfl, hb0⟩
  have HB0 := Lib.hid hb0
  have s1 := read_any A n c xs w0 (HR.out.below hb0) HNil.out hnc (by omega)
  have S1 := Lib.hid s1
  clear hb0 s1 s0
  go_wp2_with fail
  refine S1.out.mono ?_
  rintro e w1 ⟨br, rfl, hbr, hr1, hb1⟩
  have HBR := Lib.hid hbr
  have HB1 : Hid (Below w.heap.size w w1) := Lib.hid (HB0.out.trans (hb1.mono HB0.out.size))
  have hrw := hr1.widen
  have hbrlt := hr1.lt
  obtain ⟨W2, hW2⟩ : ∃ W2, w1.alloc (.cells #[.slice A n c, .int .i64 0] 45) = W2 := ⟨_, rfl⟩
  have hb2 : Below w1.heap.size w1 W2 := by rw [← hW2]; exact (Below.refl _ _).alloc (Nat.le_refl _) _
  obtain ⟨bw, hbw⟩ : ∃ bw, w1.heap.size = bw := ⟨_, rfl⟩
  have hs2 : W2.heap.size = bw + 1 := by rw [← hW2]; simp [hbw]
  have HRd : Hid (RdAt (fun k => k = br ∨ k = bw) W2 br ⟨xs, 0⟩) := Lib.hid ((hrw.below hb2).narrow (fun k h => by
    rcases h with rfl | rfl
    · exact .inl (.inl rfl)
    · exact .inr (by omega)) (.inl rfl))
  have HRf : Hid (RfAt (fun k => k = br ∨ k = bw) W2 bw ⟨xs, 0⟩) := Lib.hid (by
    refine ⟨.inr rfl, A, n, c, ?_, ⟨(HR.out.below HB1.out).below hb2, fun b off e h0 => ?_⟩, hnc, HNil.out, by omega⟩
    · rw [← hW2, ← hbw]; exact heap_alloc_new w1 _
    · obtain ⟨b', off', e', hlt, _⟩ := HR.out.2 h0
      rw [e] at e'
      simp only [Option.some.injEq, Addr.mk.injEq] at e'
      have h1 := HB0.out.size
      have h2 := HB1.out.size
      rintro (h | h) <;> omega)
  obtain ⟨S, hSS⟩ : ∃ S : Nat → Prop, (fun k => k = br ∨ k = bw) = S := ⟨_, rfl⟩
  have HSb : Hid (S br ∧ S bw ∧ br ≠ bw ∧ ∀ k, S k → k < W2.heap.size) := Lib.hid (by
    rw [← hSS]
    refine ⟨.inl rfl, .inr rfl, by omega, ?_⟩
    rintro k (rfl | rfl) <;> omega)
  have HSold : Hid (∀ k, k < w.heap.size → ¬ S k) := Lib.hid (by
    rw [← hSS]
    intro k hk
    have h1 := HB0.out.size
    have h2 := HB1.out.size
    rintro (h | h) <;> omega)
  rw [hSS] at HRd HRf
  have HBW2 : Hid (Below w.heap.size w W2) := Lib.hid (HB1.out.trans (hb2.mono HB1.out.size))
  have HW2 := Lib.hid hW2
  have HBWw := Lib.hid hbw
  clear hbr hr1 hb1 hrw hbrlt hb2 hs2 hSS hW2 hbw
  go_wp2
  rw [HW2.out, HBWw.out]
  go_loopw [7] (fun kv wr => ∃ (k : Nat) (s : St), k ≤ n1 ∧ k ≤ 60 ∧ kv = .int .i64 (k : Int) ∧ Hid (Both S br bw s s wr) ∧ Hid (But S W2 wr) ∧ s.b.length ≤ 1048576) (fun kv _ => 60 - (intOf kv).toNat)
  case atStart => exact ⟨0, ⟨xs, 0⟩, Nat.zero_le _, by omega, rfl, Lib.hid ⟨HRd.out, HRf.out⟩, Lib.hid (But.refl _ _), by show xs.length ≤ _; rw [HXl.out]; exact hn⟩
  case round =>
    obtain ⟨k, s, hk, hk60, rfl, hboth, hbut, hsl⟩ := hrel
    have hsz := hbut.out.size
    by_cases hlt : k < n1 ∧ k < 60
    · obtain ⟨hlt1, hlt2⟩ := hlt
      have hk' : k < ss.length := by rw [HSl.out]; exact hlt1
      obtain ⟨b, off, rfl, hbl, hat⟩ := HSS.out.2 (by omega)
      have hx := hat k hk'
      obtain ⟨x, hxx⟩ : ∃ x, ss[k] = x := ⟨_, rfl⟩
      have hokx : okStp x := by rw [← hxx]; exact HOK.out _ (List.getElem_mem hk')
      rw [hxx] at hx
      have HSt : Hid (∀ w', But S wr w' → StpAt w' b (off + k * 4) x) := Lib.hid (fun w' h => by
        have h1 := HBW2.out.size
        have hbb : w'.heap[b]? = w.heap[b]? := ((hbut.out.trans h).block b (by omega) (HSold.out b hbl)).trans (HBW2.out.block b hbl)
        obtain ⟨x0, x1, x2, x3⟩ := hx
        exact ⟨(World.cell?_of_block (a := ⟨b, off + k * 4, none⟩) hbb).trans x0, (World.cell?_of_block (a := ⟨b, off + k * 4 + 1, none⟩) hbb).trans x1, (World.cell?_of_block (a := ⟨b, off + k * 4 + 2, none⟩) hbb).trans x2, (World.cell?_of_block (a := ⟨b, off + k * 4 + 3, none⟩) hbb).trans x3⟩)
      obtain ⟨s', hs'⟩ : ∃ s', stepNext x s = s' := ⟨_, rfl⟩
      have hsl' : s'.b.length ≤ 1048576 := by rw [← hs']; exact Nat.le_trans (stepNext_len x s) hsl
      have HStep : Hid (∀ w', Both S br bw s s w' → W2.heap.size ≤ w'.heap.size → Calls Try.prog 20 #[.pointer (some ⟨br, 0, none⟩), .pointer (some ⟨bw, 0, none⟩), .agg #[.int .i64 x.kind, .int .i64 x.many, .int .i64 x.most, .int .u64 (x.num : Int)]] w' fun e w2 => e = .returned (.bool true) ∧ Both S br bw s' s' w2 ∧ But S w' w2) := Lib.hid (fun w' h hz => by
        rw [← hs']
        exact step_any S br bw x s w' ⟨HSb.out.1, HSb.out.2.1⟩ (fun k hk => by have := HSb.out.2.2.2 k hk; omega) HSb.out.2.2.1 hokx (by omega) h.1 h.2)
      obtain ⟨L, hL⟩ : ∃ L, s'.b.length = L := ⟨_, rfl⟩
      obtain ⟨E, hE⟩ : ∃ E, s'.e = E := ⟨_, rfl⟩
      obtain ⟨D, hD⟩ : ∃ D, doneS s' = D := ⟨_, rfl⟩
      have HL := Lib.hid hL
      have HE := Lib.hid hE
      have HD := Lib.hid hD
      have HLeft : Hid (∀ w', RdAt S w' br s' → Calls Try.prog 21 #[.pointer (some ⟨br, 0, none⟩)] w' fun e w2 => e = .returned (.int .i64 (L : Int)) ∧ w' = w2) := Lib.hid (fun w' h => by rw [← HL.out]; exact rLeft_any S br s' w' h)
      have HWrong : Hid (∀ w', RdAt S w' br s' → Calls Try.prog 22 #[.pointer (some ⟨br, 0, none⟩)] w' fun e w2 => e = .returned (.int .i64 (E : Int)) ∧ w' = w2) := Lib.hid (fun w' h => by rw [← HE.out]; exact rWrong_any S br s' w' h)
      have HDone : Hid (∀ w', RdAt S w' br s' → Calls Try.prog 23 #[.pointer (some ⟨br, 0, none⟩)] w' fun e w2 => e = .returned (.int .i64 (D : Int)) ∧ w' = w2) := Lib.hid (fun w' h => by rw [← HD.out]; exact rDone_any S br s' w' h)
      have HDoneF : Hid (∀ w', RfAt S w' bw s' → Calls Try.prog 24 #[.pointer (some ⟨bw, 0, none⟩)] w' fun e w2 => e = .returned (.int .i64 (D : Int)) ∧ w' = w2) := Lib.hid (fun w' h => by rw [← HD.out]; exact fDone_any S bw s' w' h)
      clear hL hE hD
      have HK : Hid ((0 : Int) ≤ (k : Int) ∧ (k : Int) < (n1 : Int)) := Lib.hid ⟨by omega, by omega⟩
      clear hat hx hxx hokx hs' hk'
      go_wp2
      refine Go.Rel.wp_region_states (by kernel_rfl) (by kernel_rfl) (by kernel_rfl) (by kernel_rfl) (fun f w => Both S br bw (bif f 6 then s' else s) (bif f 6 then s' else s) w) (But S) (fun _ _ _ h k => h.trans k) ((But.refl _ _).drew) hboth.out (readsR S br bw b off n1 c1 k x L E D) (readsR_stable S br bw b off n1 c1 k x L E D) ?hsteps ?hend
      case hsteps =>
        refine (.cons ?_ (.cons ?_ (.cons ?_ (.cons ?_ (.cons ?_ (.cons ?_ (.cons ?_ (.cons ?_ (.cons ?_ (.cons ?_ (.cons ?_ (.cons ?_ (.cons ?_ (.cons ?_ (.cons ?_ (.cons ?_ (.cons ?_ (.cons ?_ (.cons ?_ (.cons ?_ (.cons ?_ (.cons ?_ (.cons ?_ (.cons ?_ (.cons ?_ (.cons ?_ (.cons ?_ (.cons ?_ (.cons ?_ (.cons ?_ (.cons ?_ (.cons ?_ (.cons ?_ (.cons ?_ .nil))))))))))))))))))))))))))))))))))
        · intro f a w' hI hf hanc hdesc hle hs' hd K hK
          have f5 : a.tmps[5]? = some (.pointer (some ⟨br, 0, none⟩)) := hs'.2.2 5 (by kernel_rfl)
          unfold Go.Rel.stepOf
          go_simp
          exact hK _ _ (But.refl _ _) (hI) rfl
        · intro f a w' hI hf hanc hdesc hle hs' hd K hK
          have f6 : a.tmps[6]? = some (.pointer (some ⟨bw, 0, none⟩)) := hs'.2.2 6 (by kernel_rfl)
          unfold Go.Rel.stepOf
          go_simp
          exact hK _ _ (But.refl _ _) (hI) rfl
        · intro f a w' hI hf hanc hdesc hle hs' hd K hK
          have f1 : a.tmps[1]? = some (.slice (some ⟨b, off, none⟩) n1 c1) := hs'.2.2 1 (by kernel_rfl)
          unfold Go.Rel.stepOf
          go_simp
          exact hK _ _ (But.refl _ _) (hI) rfl
        · intro f a w' hI hf hanc hdesc hle hs' hd K hK
          have f7 : a.tmps[7]? = some (.int .i64 (k : Int)) := hs'.2.2 7 (by kernel_rfl)
          unfold Go.Rel.stepOf
          go_simp
          exact hK _ _ (But.refl _ _) (hI) rfl
        · intro f a w' hI hf hanc hdesc hle hs' hd K hK
          obtain ⟨_, t2, rfl⟩ := hd 2 27 (by kernel_rfl)
          obtain ⟨_, t3, rfl⟩ := hd 3 28 (by kernel_rfl)
          have q1 := HK.out.1
          have q2 := HK.out.2
          unfold Go.Rel.stepOf
          go_simp
          exact hK _ _ (But.refl _ _) (hI) rfl
        · intro f a w' hI hf hanc hdesc hle hs' hd K hK
          obtain ⟨_, t4, rfl⟩ := hd 4 29 (by kernel_rfl)
          obtain ⟨d0, d1, d2, d3⟩ := HSt.out w' hle
          unfold Go.Rel.stepOf
          go_simp
          exact hK _ _ (But.refl _ _) (hI) rfl
        · intro f a w' hI hf hanc hdesc hle hs' hd K hK
          obtain ⟨_, t0, rfl⟩ := hd 0 25 (by kernel_rfl)
          obtain ⟨_, t1, rfl⟩ := hd 1 26 (by kernel_rfl)
          obtain ⟨_, t5, rfl⟩ := hd 5 30 (by kernel_rfl)
          have hst : Both S br bw s s w' := by have h := hI; simp only [hf, cond_false] at h; exact h
          unfold Go.Rel.stepOf
          go_simp
          refine (HStep.out w' hst (by have := hle.size; omega)).mono ?_
          rintro e w2 ⟨rfl, hb5, hbut⟩
          exact hK _ _ hbut hb5 rfl
        · intro f a w' hI hf hanc hdesc hle hs' hd K hK
          obtain ⟨_, t6, rfl⟩ := hd 6 31 (by kernel_rfl)
          unfold Go.Rel.stepOf
          go_simp
          exact hK _ _ (But.refl _ _) (hI) rfl
        · intro f a w' hI hf hanc hdesc hle hs' hd K hK
          obtain ⟨_, t7, rfl⟩ := hd 7 32 (by kernel_rfl)
          unfold Go.Rel.stepOf
          go_simp
          exact hK _ _ (But.refl _ _) (hI) rfl
        · intro f a w' hI hf hanc hdesc hle hs' hd K hK
          obtain ⟨_, tg, rfl⟩ := hd 8 33 (by kernel_rfl)
          have f5 : a.tmps[5]? = some (.pointer (some ⟨br, 0, none⟩)) := hs'.2.2 5 (by kernel_rfl)
          unfold Go.Rel.stepOf
          go_simp
          exact hK _ _ (But.refl _ _) (hI) rfl
        · intro f a w' hI hf hanc hdesc hle hs' hd K hK
          obtain ⟨_, tg, rfl⟩ := hd 8 33 (by kernel_rfl)
          obtain ⟨_, t9, rfl⟩ := hd 9 34 (by kernel_rfl)
          have h6 := hanc 14 6 (by kernel_rfl)
          have hst : Both S br bw s' s' w' := by have h := hI; simp only [h6, cond_true] at h; exact h
          unfold Go.Rel.stepOf
          go_simp
          refine (HLeft.out w' hst.1).mono ?_
          rintro e w2 ⟨rfl, rfl⟩
          exact hK _ _ (But.refl _ _) hI rfl
        · intro f a w' hI hf hanc hdesc hle hs' hd K hK
          obtain ⟨_, tg, rfl⟩ := hd 8 33 (by kernel_rfl)
          have f6 : a.tmps[6]? = some (.pointer (some ⟨bw, 0, none⟩)) := hs'.2.2 6 (by kernel_rfl)
          unfold Go.Rel.stepOf
          go_simp
          exact hK _ _ (But.refl _ _) (hI) rfl
        · intro f a w' hI hf hanc hdesc hle hs' hd K hK
          obtain ⟨_, tg, rfl⟩ := hd 8 33 (by kernel_rfl)
          obtain ⟨_, t11, rfl⟩ := hd 11 36 (by kernel_rfl)
          unfold Go.Rel.stepOf
          go_simp
          exact hK _ _ (But.refl _ _) (hI) rfl
        · intro f a w' hI hf hanc hdesc hle hs' hd K hK
          obtain ⟨_, tg, rfl⟩ := hd 8 33 (by kernel_rfl)
          obtain ⟨_, t12, rfl⟩ := hd 12 37 (by kernel_rfl)
          unfold Go.Rel.stepOf
          go_simp
          exact hK _ _ (But.refl _ _) (hI) rfl
        · intro f a w' hI hf hanc hdesc hle hs' hd K hK
          obtain ⟨_, tg, rfl⟩ := hd 8 33 (by kernel_rfl)
          obtain ⟨_, t13, rfl⟩ := hd 13 38 (by kernel_rfl)
          have h6 := hanc 14 6 (by kernel_rfl)
          have hst : Both S br bw s' s' w' := by have h := hI; simp only [h6, cond_true] at h; exact h
          obtain ⟨_, A9, n9, c9, hh, hr, _⟩ := hst.2
          have cc := (RfAt.cells hh).1
          have hl9 := hr.1.1
          rw [HL.out] at hl9
          subst hl9
          clear hh hr
          unfold Go.Rel.stepOf
          go_simp
          exact hK _ _ (But.refl _ _) hI ⟨_, _, rfl⟩
        · intro f a w' hI hf hanc hdesc hle hs' hd K hK
          obtain ⟨_, tg, rfl⟩ := hd 8 33 (by kernel_rfl)
          obtain ⟨_, t14, A14, c14, rfl⟩ := hd 14 39 (by kernel_rfl)
          unfold Go.Rel.stepOf
          go_simp
          exact hK _ _ (But.refl _ _) (hI) rfl
        · intro f a w' hI hf hanc hdesc hle hs' hd K hK
          obtain ⟨_, tg, rfl⟩ := hd 8 33 (by kernel_rfl)
          obtain ⟨_, t10, rfl⟩ := hd 10 35 (by kernel_rfl)
          obtain ⟨_, t15, rfl⟩ := hd 15 40 (by kernel_rfl)
          unfold Go.Rel.stepOf
          go_simp
          exact hK _ _ (But.refl _ _) (hI) rfl
        · intro f a w' hI hf hanc hdesc hle hs' hd K hK
          obtain ⟨_, t8, rfl⟩ := hd 8 33 (by kernel_rfl)
          obtain ⟨_, t16, rfl⟩ := hd 16 41 (by kernel_rfl)
          unfold Go.Rel.stepOf
          go_simp
          exact hK _ _ (But.refl _ _) (hI) rfl
        · intro f a w' hI hf hanc hdesc hle hs' hd K hK
          obtain ⟨_, t17, rfl⟩ := hd 17 42 (by kernel_rfl)
          unfold Go.Rel.stepOf
          go_simp
          exact hK _ _ (But.refl _ _) (hI) rfl
        · intro f a w' hI hf hanc hdesc hle hs' hd K hK
          obtain ⟨_, tg, rfl⟩ := hd 18 43 (by kernel_rfl)
          have f5 : a.tmps[5]? = some (.pointer (some ⟨br, 0, none⟩)) := hs'.2.2 5 (by kernel_rfl)
          unfold Go.Rel.stepOf
          go_simp
          exact hK _ _ (But.refl _ _) (hI) rfl
        · intro f a w' hI hf hanc hdesc hle hs' hd K hK
          obtain ⟨_, tg, rfl⟩ := hd 18 43 (by kernel_rfl)
          obtain ⟨_, t19, rfl⟩ := hd 19 44 (by kernel_rfl)
          have h6 := hanc 14 6 (by kernel_rfl)
          have hst : Both S br bw s' s' w' := by have h := hI; simp only [h6, cond_true] at h; exact h
          unfold Go.Rel.stepOf
          go_simp
          refine (HWrong.out w' hst.1).mono ?_
          rintro e w2 ⟨rfl, rfl⟩
          exact hK _ _ (But.refl _ _) hI rfl
        · intro f a w' hI hf hanc hdesc hle hs' hd K hK
          obtain ⟨_, tg, rfl⟩ := hd 18 43 (by kernel_rfl)
          have f6 : a.tmps[6]? = some (.pointer (some ⟨bw, 0, none⟩)) := hs'.2.2 6 (by kernel_rfl)
          unfold Go.Rel.stepOf
          go_simp
          exact hK _ _ (But.refl _ _) (hI) rfl
        · intro f a w' hI hf hanc hdesc hle hs' hd K hK
          obtain ⟨_, tg, rfl⟩ := hd 18 43 (by kernel_rfl)
          obtain ⟨_, t21, rfl⟩ := hd 21 46 (by kernel_rfl)
          unfold Go.Rel.stepOf
          go_simp
          exact hK _ _ (But.refl _ _) (hI) rfl
        · intro f a w' hI hf hanc hdesc hle hs' hd K hK
          obtain ⟨_, tg, rfl⟩ := hd 18 43 (by kernel_rfl)
          obtain ⟨_, t22, rfl⟩ := hd 22 47 (by kernel_rfl)
          unfold Go.Rel.stepOf
          go_simp
          exact hK _ _ (But.refl _ _) (hI) rfl
        · intro f a w' hI hf hanc hdesc hle hs' hd K hK
          obtain ⟨_, tg, rfl⟩ := hd 18 43 (by kernel_rfl)
          obtain ⟨_, t23, rfl⟩ := hd 23 48 (by kernel_rfl)
          have h6 := hanc 14 6 (by kernel_rfl)
          have hst : Both S br bw s' s' w' := by have h := hI; simp only [h6, cond_true] at h; exact h
          have cc := hst.2.err
          rw [HE.out] at cc
          unfold Go.Rel.stepOf
          go_simp
          exact hK _ _ (But.refl _ _) (hI) rfl
        · intro f a w' hI hf hanc hdesc hle hs' hd K hK
          obtain ⟨_, tg, rfl⟩ := hd 18 43 (by kernel_rfl)
          obtain ⟨_, t20, rfl⟩ := hd 20 45 (by kernel_rfl)
          obtain ⟨_, t24, rfl⟩ := hd 24 49 (by kernel_rfl)
          unfold Go.Rel.stepOf
          go_simp
          exact hK _ _ (But.refl _ _) (hI) rfl
        · intro f a w' hI hf hanc hdesc hle hs' hd K hK
          obtain ⟨_, t18, rfl⟩ := hd 18 43 (by kernel_rfl)
          obtain ⟨_, t25, rfl⟩ := hd 25 50 (by kernel_rfl)
          unfold Go.Rel.stepOf
          go_simp
          exact hK _ _ (But.refl _ _) (hI) rfl
        · intro f a w' hI hf hanc hdesc hle hs' hd K hK
          obtain ⟨_, t26, rfl⟩ := hd 26 51 (by kernel_rfl)
          unfold Go.Rel.stepOf
          go_simp
          exact hK _ _ (But.refl _ _) (hI) rfl
        · intro f a w' hI hf hanc hdesc hle hs' hd K hK
          obtain ⟨_, tg, rfl⟩ := hd 27 52 (by kernel_rfl)
          have f5 : a.tmps[5]? = some (.pointer (some ⟨br, 0, none⟩)) := hs'.2.2 5 (by kernel_rfl)
          unfold Go.Rel.stepOf
          go_simp
          exact hK _ _ (But.refl _ _) (hI) rfl
        · intro f a w' hI hf hanc hdesc hle hs' hd K hK
          obtain ⟨_, tg, rfl⟩ := hd 27 52 (by kernel_rfl)
          obtain ⟨_, t28, rfl⟩ := hd 28 53 (by kernel_rfl)
          have h6 := hanc 14 6 (by kernel_rfl)
          have hst : Both S br bw s' s' w' := by have h := hI; simp only [h6, cond_true] at h; exact h
          unfold Go.Rel.stepOf
          go_simp
          refine (HDone.out w' hst.1).mono ?_
          rintro e w2 ⟨rfl, rfl⟩
          exact hK _ _ (But.refl _ _) hI rfl
        · intro f a w' hI hf hanc hdesc hle hs' hd K hK
          obtain ⟨_, tg, rfl⟩ := hd 27 52 (by kernel_rfl)
          have f6 : a.tmps[6]? = some (.pointer (some ⟨bw, 0, none⟩)) := hs'.2.2 6 (by kernel_rfl)
          unfold Go.Rel.stepOf
          go_simp
          exact hK _ _ (But.refl _ _) (hI) rfl
        · intro f a w' hI hf hanc hdesc hle hs' hd K hK
          obtain ⟨_, tg, rfl⟩ := hd 27 52 (by kernel_rfl)
          obtain ⟨_, t30, rfl⟩ := hd 30 55 (by kernel_rfl)
          have h6 := hanc 14 6 (by kernel_rfl)
          have hst : Both S br bw s' s' w' := by have h := hI; simp only [h6, cond_true] at h; exact h
          unfold Go.Rel.stepOf
          go_simp
          refine (HDoneF.out w' hst.2).mono ?_
          rintro e w2 ⟨rfl, rfl⟩
          exact hK _ _ (But.refl _ _) hI rfl
        · intro f a w' hI hf hanc hdesc hle hs' hd K hK
          obtain ⟨_, tg, rfl⟩ := hd 27 52 (by kernel_rfl)
          obtain ⟨_, t29, rfl⟩ := hd 29 54 (by kernel_rfl)
          obtain ⟨_, t31, rfl⟩ := hd 31 56 (by kernel_rfl)
          unfold Go.Rel.stepOf
          go_simp
          exact hK _ _ (But.refl _ _) (hI) rfl
        · intro f a w' hI hf hanc hdesc hle hs' hd K hK
          obtain ⟨_, t27, rfl⟩ := hd 27 52 (by kernel_rfl)
          obtain ⟨_, t32, rfl⟩ := hd 32 57 (by kernel_rfl)
          unfold Go.Rel.stepOf
          go_simp
          exact hK _ _ (But.refl _ _) (hI) rfl
      case hend =>
        intro f a w2 hall hI hle hs' hR'
        have hf6 := hall 6 (by decide)
        have hI' : Hid (Both S br bw s' s' w2) := Lib.hid (by
          have h := hI
          simp only [hf6, cond_true] at h
          exact h)
        have HBF : Hid (But S W2 w2) := Lib.hid (hbut.out.trans hle)
        clear hI hall hf6 hle
        obtain ⟨v25, s25, _⟩ := hR' 0 25 (by kernel_rfl)
        obtain ⟨v26, s26, _⟩ := hR' 1 26 (by kernel_rfl)
        obtain ⟨v27, s27, _⟩ := hR' 2 27 (by kernel_rfl)
        obtain ⟨v28, s28, _⟩ := hR' 3 28 (by kernel_rfl)
        obtain ⟨v29, s29, _⟩ := hR' 4 29 (by kernel_rfl)
        obtain ⟨v30, s30, _⟩ := hR' 5 30 (by kernel_rfl)
        obtain ⟨v31, s31, _⟩ := hR' 6 31 (by kernel_rfl)
        obtain ⟨v32, s32, _⟩ := hR' 7 32 (by kernel_rfl)
        obtain ⟨v33, s33, _⟩ := hR' 8 33 (by kernel_rfl)
        obtain ⟨v34, s34, _⟩ := hR' 9 34 (by kernel_rfl)
        obtain ⟨v35, s35, _⟩ := hR' 10 35 (by kernel_rfl)
        obtain ⟨v36, s36, _⟩ := hR' 11 36 (by kernel_rfl)
        obtain ⟨v37, s37, _⟩ := hR' 12 37 (by kernel_rfl)
        obtain ⟨v38, s38, _⟩ := hR' 13 38 (by kernel_rfl)
        obtain ⟨v39, s39, _⟩ := hR' 14 39 (by kernel_rfl)
        obtain ⟨v40, s40, _⟩ := hR' 15 40 (by kernel_rfl)
        obtain ⟨v41, s41, _⟩ := hR' 16 41 (by kernel_rfl)
        obtain ⟨v42, s42, _⟩ := hR' 17 42 (by kernel_rfl)
        obtain ⟨v43, s43, _⟩ := hR' 18 43 (by kernel_rfl)
        obtain ⟨v44, s44, _⟩ := hR' 19 44 (by kernel_rfl)
        obtain ⟨v45, s45, _⟩ := hR' 20 45 (by kernel_rfl)
        obtain ⟨v46, s46, _⟩ := hR' 21 46 (by kernel_rfl)
        obtain ⟨v47, s47, _⟩ := hR' 22 47 (by kernel_rfl)
        obtain ⟨v48, s48, _⟩ := hR' 23 48 (by kernel_rfl)
        obtain ⟨v49, s49, _⟩ := hR' 24 49 (by kernel_rfl)
        obtain ⟨v50, s50, _⟩ := hR' 25 50 (by kernel_rfl)
        obtain ⟨v51, s51, _⟩ := hR' 26 51 (by kernel_rfl)
        obtain ⟨v52, s52, _⟩ := hR' 27 52 (by kernel_rfl)
        obtain ⟨v53, s53, _⟩ := hR' 28 53 (by kernel_rfl)
        obtain ⟨v54, s54, _⟩ := hR' 29 54 (by kernel_rfl)
        obtain ⟨v55, s55, _⟩ := hR' 30 55 (by kernel_rfl)
        obtain ⟨v56, s56, _⟩ := hR' 31 56 (by kernel_rfl)
        obtain ⟨v57, s57, _⟩ := hR' 32 57 (by kernel_rfl)
        obtain ⟨_, s58, rfl⟩ := hR' 33 58 (by kernel_rfl)
        have e := hs'.shape
        simp only [List.toList_toArray, List.foldl, Go.Rel.reset, Array.getD_eq_getD_getElem?, s25, s26, s27, s28, s29, s30, s31, s32, s33, s34, s35, s36, s37, s38, s39, s40, s41, s42, s43, s44, s45, s46, s47, s48, s49, s50, s51, s52, s53, s54, s55, s56, s57, s58, Option.getD_some] at e
        simp at e
        clear hR' hs' s25 s26 s27 s28 s29 s30 s31 s32 s33 s34 s35 s36 s37 s38 s39 s40 s41 s42 s43 s44 s45 s46 s47 s48 s49 s50 s51 s52 s53 s54 s55 s56 s57 s58
        subst e
        go_wp2
        go_roundw
        case rel => exact ⟨k + 1, s', by omega, by omega, by go_num, hI', HBF, hsl'⟩
        case measure => simp [intOf]; omega
    · have hge : ¬ ((k : Int) < (n1 : Int)) ∨ ((k : Int) < (n1 : Int) ∧ ¬ ((k : Int) < 60)) := by omega
      obtain ⟨L, hL⟩ : ∃ L, s.b.length = L := ⟨_, rfl⟩
      obtain ⟨E, hE⟩ : ∃ E, s.e = E := ⟨_, rfl⟩
      obtain ⟨D, hD⟩ : ∃ D, doneS s = D := ⟨_, rfl⟩
      have HL := Lib.hid hL
      have HE := Lib.hid hE
      have HD := Lib.hid hD
      have HLeft : Hid (∀ w', RdAt S w' br s → Calls Try.prog 21 #[.pointer (some ⟨br, 0, none⟩)] w' fun e w2 => e = .returned (.int .i64 (L : Int)) ∧ w' = w2) := Lib.hid (fun w' h => by rw [← HL.out]; exact rLeft_any S br s w' h)
      have HWrong : Hid (∀ w', RdAt S w' br s → Calls Try.prog 22 #[.pointer (some ⟨br, 0, none⟩)] w' fun e w2 => e = .returned (.int .i64 (E : Int)) ∧ w' = w2) := Lib.hid (fun w' h => by rw [← HE.out]; exact rWrong_any S br s w' h)
      have HDone : Hid (∀ w', RdAt S w' br s → Calls Try.prog 23 #[.pointer (some ⟨br, 0, none⟩)] w' fun e w2 => e = .returned (.int .i64 (D : Int)) ∧ w' = w2) := Lib.hid (fun w' h => by rw [← HD.out]; exact rDone_any S br s w' h)
      have HDoneF : Hid (∀ w', RfAt S w' bw s → Calls Try.prog 24 #[.pointer (some ⟨bw, 0, none⟩)] w' fun e w2 => e = .returned (.int .i64 (D : Int)) ∧ w' = w2) := Lib.hid (fun w' h => by rw [← HD.out]; exact fDone_any S bw s w' h)
      clear hL hE hD
      clear hlt
      rcases hge with q1 | ⟨q1, q2⟩
      all_goals
        go_wp2
        refine Go.Rel.wp_region_states (by kernel_rfl) (by kernel_rfl) (by kernel_rfl) (by kernel_rfl) (fun _ w => Both S br bw s s w) (But S) (fun _ _ _ h k => h.trans k) ((But.refl _ _).drew) hboth.out (readsR2 S br bw L D) (readsR2_stable S br bw L D) ?hsteps2 ?hend2
        case hsteps2 =>
          refine (.cons ?_ (.cons ?_ (.cons ?_ (.cons ?_ (.cons ?_ (.cons ?_ (.cons ?_ (.cons ?_ (.cons ?_ (.cons ?_ (.cons ?_ (.cons ?_ (.cons ?_ (.cons ?_ (.cons ?_ (.cons ?_ .nil))))))))))))))))
          · intro f a w' hI hf hanc hdesc hle hs' hd K hK
            have f5 : a.tmps[5]? = some (.pointer (some ⟨br, 0, none⟩)) := hs'.2.2 5 (by kernel_rfl)
            unfold Go.Rel.stepOf
            go_simp
            exact hK _ _ (But.refl _ _) (hI) rfl
          · intro f a w' hI hf hanc hdesc hle hs' hd K hK
            obtain ⟨_, t0, rfl⟩ := hd 0 59 (by kernel_rfl)
            have hst : Both S br bw s s w' := hI
            unfold Go.Rel.stepOf
            go_simp
            refine (HLeft.out w' hst.1).mono ?_
            rintro e w2 ⟨rfl, rfl⟩
            exact hK _ _ (But.refl _ _) hI rfl
          · intro f a w' hI hf hanc hdesc hle hs' hd K hK
            have f6 : a.tmps[6]? = some (.pointer (some ⟨bw, 0, none⟩)) := hs'.2.2 6 (by kernel_rfl)
            unfold Go.Rel.stepOf
            go_simp
            exact hK _ _ (But.refl _ _) (hI) rfl
          · intro f a w' hI hf hanc hdesc hle hs' hd K hK
            obtain ⟨_, t2, rfl⟩ := hd 2 61 (by kernel_rfl)
            unfold Go.Rel.stepOf
            go_simp
            exact hK _ _ (But.refl _ _) (hI) rfl
          · intro f a w' hI hf hanc hdesc hle hs' hd K hK
            obtain ⟨_, t3, rfl⟩ := hd 3 62 (by kernel_rfl)
            unfold Go.Rel.stepOf
            go_simp
            exact hK _ _ (But.refl _ _) (hI) rfl
          · intro f a w' hI hf hanc hdesc hle hs' hd K hK
            obtain ⟨_, t4, rfl⟩ := hd 4 63 (by kernel_rfl)
            have hst : Both S br bw s s w' := hI
            obtain ⟨_, A9, n9, c9, hh, hr, _⟩ := hst.2
            have cc := (RfAt.cells hh).1
            have hl9 := hr.1.1
            rw [HL.out] at hl9
            subst hl9
            clear hh hr
            unfold Go.Rel.stepOf
            go_simp
            exact hK _ _ (But.refl _ _) hI ⟨_, _, rfl⟩
          · intro f a w' hI hf hanc hdesc hle hs' hd K hK
            obtain ⟨_, t5, A5, c5, rfl⟩ := hd 5 64 (by kernel_rfl)
            unfold Go.Rel.stepOf
            go_simp
            exact hK _ _ (But.refl _ _) (hI) rfl
          · intro f a w' hI hf hanc hdesc hle hs' hd K hK
            obtain ⟨_, t1, rfl⟩ := hd 1 60 (by kernel_rfl)
            obtain ⟨_, t6, rfl⟩ := hd 6 65 (by kernel_rfl)
            unfold Go.Rel.stepOf
            go_simp
            exact hK _ _ (But.refl _ _) (hI) rfl
          · intro f a w' hI hf hanc hdesc hle hs' hd K hK
            obtain ⟨_, t7, rfl⟩ := hd 7 66 (by kernel_rfl)
            unfold Go.Rel.stepOf
            go_simp
            exact hK _ _ (But.refl _ _) (hI) rfl
          · intro f a w' hI hf hanc hdesc hle hs' hd K hK
            obtain ⟨_, tg, rfl⟩ := hd 8 67 (by kernel_rfl)
            have f5 : a.tmps[5]? = some (.pointer (some ⟨br, 0, none⟩)) := hs'.2.2 5 (by kernel_rfl)
            unfold Go.Rel.stepOf
            go_simp
            exact hK _ _ (But.refl _ _) (hI) rfl
          · intro f a w' hI hf hanc hdesc hle hs' hd K hK
            obtain ⟨_, tg, rfl⟩ := hd 8 67 (by kernel_rfl)
            obtain ⟨_, t9, rfl⟩ := hd 9 68 (by kernel_rfl)
            have hst : Both S br bw s s w' := hI
            unfold Go.Rel.stepOf
            go_simp
            refine (HDone.out w' hst.1).mono ?_
            rintro e w2 ⟨rfl, rfl⟩
            exact hK _ _ (But.refl _ _) hI rfl
          · intro f a w' hI hf hanc hdesc hle hs' hd K hK
            obtain ⟨_, tg, rfl⟩ := hd 8 67 (by kernel_rfl)
            have f6 : a.tmps[6]? = some (.pointer (some ⟨bw, 0, none⟩)) := hs'.2.2 6 (by kernel_rfl)
            unfold Go.Rel.stepOf
            go_simp
            exact hK _ _ (But.refl _ _) (hI) rfl
          · intro f a w' hI hf hanc hdesc hle hs' hd K hK
            obtain ⟨_, tg, rfl⟩ := hd 8 67 (by kernel_rfl)
            obtain ⟨_, t11, rfl⟩ := hd 11 70 (by kernel_rfl)
            have hst : Both S br bw s s w' := hI
            unfold Go.Rel.stepOf
            go_simp
            refine (HDoneF.out w' hst.2).mono ?_
            rintro e w2 ⟨rfl, rfl⟩
            exact hK _ _ (But.refl _ _) hI rfl
          · intro f a w' hI hf hanc hdesc hle hs' hd K hK
            obtain ⟨_, tg, rfl⟩ := hd 8 67 (by kernel_rfl)
            obtain ⟨_, t10, rfl⟩ := hd 10 69 (by kernel_rfl)
            obtain ⟨_, t12, rfl⟩ := hd 12 71 (by kernel_rfl)
            unfold Go.Rel.stepOf
            go_simp
            exact hK _ _ (But.refl _ _) (hI) rfl
          · intro f a w' hI hf hanc hdesc hle hs' hd K hK
            obtain ⟨_, t8, rfl⟩ := hd 8 67 (by kernel_rfl)
            obtain ⟨_, t13, rfl⟩ := hd 13 72 (by kernel_rfl)
            unfold Go.Rel.stepOf
            go_simp
            exact hK _ _ (But.refl _ _) (hI) rfl
          · intro f a w' hI hf hanc hdesc hle hs' hd K hK
            obtain ⟨_, t14, rfl⟩ := hd 14 73 (by kernel_rfl)
            unfold Go.Rel.stepOf
            go_simp
            exact hK _ _ (But.refl _ _) (hI) rfl
        case hend2 =>
          intro f a w2 hall hI hle hs' hR'
          obtain ⟨_, s4, rfl⟩ := hR' 15 4 (by kernel_rfl)
          have hbf : Below w.heap.size w w2 := HBW2.out.trans ((hbut.out.trans hle).below HBW2.out.size HSold.out)
          go_wp2
          refine bodyPost_ret (results_tmp rfl _ _ _) hs'.1 ?_
          exact ⟨by simp [s4], hbf⟩
end Go.Proofs.Ytgjgndpeopiifaa
