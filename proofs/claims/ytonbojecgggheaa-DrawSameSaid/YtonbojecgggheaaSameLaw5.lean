/-
  Two that have the same draws answer the same: the law sodalitylaw05.DrawSame over the contracts.
-/
import Derived.Test.YtonbojecgggheaaBelowLaw5
import Derived.Test.YtonbojecgggheaaEStp
namespace Go.Proofs.Ytonbojecgggheaa
open Go.RowKit
set_option linter.unusedSimpArgs false

theorem DwAt.cast {S : Nat → Prop} {w : World} {v : Value} {d d' : Dr} (h : DwAt S w v d) (e : d' = d) : DwAt S w v d' := e ▸ h
theorem tgt_eq {B k : Nat} (h : Tgt (.pointer (some ⟨B, 0, none⟩)) k) : k = B := by
  simp only [Tgt, Value.pointer.injEq, Option.some.injEq, Addr.mk.injEq] at h
  omega
def sameR (S : Nat → Prop) (ba : Nat) (bb : Nat) (b : Nat) (off : Nat) (n1 : Nat) (c1 : Nat) (k : Nat) (x : Stp) (y : Nat) (xs : List Nat) : Nat → Value → World → Prop
  | 0, v, _ => v = .pointer (some ⟨ba, 0, none⟩)
  | 1, v, _ => v = .slice (some ⟨b, off, none⟩) n1 c1
  | 2, v, _ => v = .int .i64 (k : Int)
  | 3, v, _ => v = .pointer (some ⟨b, off + k * 3, none⟩)
  | 4, v, _ => v = .pointer (some ⟨b, off + k * 3 + 1, none⟩)
  | 5, v, _ => v = .int .i64 x.n
  | 6, v, _ => v = .int .i64 (y : Int)
  | 7, v, _ => v = .pointer (some ⟨bb, 0, none⟩)
  | 8, v, _ => v = .slice (some ⟨b, off, none⟩) n1 c1
  | 9, v, _ => v = .int .i64 (k : Int)
  | 10, v, _ => v = .pointer (some ⟨b, off + k * 3, none⟩)
  | 11, v, _ => v = .pointer (some ⟨b, off + k * 3 + 1, none⟩)
  | 12, v, _ => v = .int .i64 x.n
  | 13, v, _ => v = .int .i64 (y : Int)
  | 14, v, _ => v = .bool false
  | 15, v, _ => v = .bool false
  | 16, v, _ => v = .pointer (some ⟨ba, 0, none⟩)
  | 17, v, _ => v = .slice (some ⟨b, off, none⟩) n1 c1
  | 18, v, _ => v = .int .i64 (k : Int)
  | 19, v, _ => v = .pointer (some ⟨b, off + k * 3, none⟩)
  | 20, v, _ => v = .pointer (some ⟨b, off + k * 3 + 1, none⟩)
  | 21, v, _ => v = .int .i64 x.n
  | 22, v, _ => v = .slice (some ⟨b, off, none⟩) n1 c1
  | 23, v, _ => v = .int .i64 (k : Int)
  | 24, v, _ => v = .pointer (some ⟨b, off + k * 3, none⟩)
  | 25, v, _ => v = .pointer (some ⟨b, off + k * 3 + 2, none⟩)
  | 26, v, _ => v = .int .i64 x.k
  | 27, v, w => ∃ A c, v = .slice A xs.length c ∧ RVn S w A xs.length (xs.map iV)
  | 28, v, _ => v = .pointer (some ⟨bb, 0, none⟩)
  | 29, v, _ => v = .slice (some ⟨b, off, none⟩) n1 c1
  | 30, v, _ => v = .int .i64 (k : Int)
  | 31, v, _ => v = .pointer (some ⟨b, off + k * 3, none⟩)
  | 32, v, _ => v = .pointer (some ⟨b, off + k * 3 + 1, none⟩)
  | 33, v, _ => v = .int .i64 x.n
  | 34, v, _ => v = .slice (some ⟨b, off, none⟩) n1 c1
  | 35, v, _ => v = .int .i64 (k : Int)
  | 36, v, _ => v = .pointer (some ⟨b, off + k * 3, none⟩)
  | 37, v, _ => v = .pointer (some ⟨b, off + k * 3 + 2, none⟩)
  | 38, v, _ => v = .int .i64 x.k
  | 39, v, w => ∃ A c, v = .slice A xs.length c ∧ RVn S w A xs.length (xs.map iV)
  | 40, v, _ => v = .bool true
  | 41, v, _ => v = .bool false
  | 42, v, _ => v = .bool false
  | _, _, _ => True
theorem sameR_stable (S : Nat → Prop) (ba : Nat) (bb : Nat) (b : Nat) (off : Nat) (n1 : Nat) (c1 : Nat) (k : Nat) (x : Stp) (y : Nat) (xs : List Nat) : ∀ i v w w', sameR S ba bb b off n1 c1 k x y xs i v w → But S w w' → sameR S ba bb b off n1 c1 k x y xs i v w'
  | 0, _, _, _, h, _ | 1, _, _, _, h, _ | 2, _, _, _, h, _ | 3, _, _, _, h, _ | 4, _, _, _, h, _ | 5, _, _, _, h, _ | 6, _, _, _, h, _ | 7, _, _, _, h, _ | 8, _, _, _, h, _ | 9, _, _, _, h, _ | 10, _, _, _, h, _ | 11, _, _, _, h, _ | 12, _, _, _, h, _ | 13, _, _, _, h, _ | 14, _, _, _, h, _ | 15, _, _, _, h, _ | 16, _, _, _, h, _ | 17, _, _, _, h, _ | 18, _, _, _, h, _ | 19, _, _, _, h, _ | 20, _, _, _, h, _ | 21, _, _, _, h, _ | 22, _, _, _, h, _ | 23, _, _, _, h, _ | 24, _, _, _, h, _ | 25, _, _, _, h, _ | 26, _, _, _, h, _ | 28, _, _, _, h, _ | 29, _, _, _, h, _ | 30, _, _, _, h, _ | 31, _, _, _, h, _ | 32, _, _, _, h, _ | 33, _, _, _, h, _ | 34, _, _, _, h, _ | 35, _, _, _, h, _ | 36, _, _, _, h, _ | 37, _, _, _, h, _ | 38, _, _, _, h, _ | 40, _, _, _, h, _ | 41, _, _, _, h, _ | 42, _, _, _, h, _ => h
  | 27, _, _, _, ⟨A, c, e, h⟩, g | 39, _, _, _, ⟨A, c, e, h⟩, g => ⟨A, c, e, h.but g⟩
  | _ + 43, _, _, _, h, _ => h

set_option maxHeartbeats 8000000 in
theorem same_walk (A : Option Addr) (n c : Nat) (xs : List Nat) (A1 : Option Addr) (n1 c1 : Nat) (ss : List Stp) (w : World) (hR : RV w A n (xs.map u32V)) (hnil : A = none → c = 0) (hnc : n ≤ c) (hn : n ≤ 35184372088832) (hx : ∀ x ∈ xs, x < 4294967296) (hS : SStp w A1 n1 ss) (hok : ∀ x ∈ ss, okStp x) (hn1 : n1 ≤ maxLen) :
    Calls Try.prog 6 #[.slice A n c, .slice A1 n1 c1] w fun e w' => e = .returned (.bool true) ∧ Below w.heap.size w w' := by
  unfold maxLen at hn1
  have s1 := new_any A n c xs w hR hnil hnc hn hx
  have S1 := Lib.hid s1
  have HSS := Lib.hid hS
  have HSl := Lib.hid hS.1
  have HOK := Lib.hid hok
  have HR := Lib.hid hR
  have HX := Lib.hid hx
  have HNil := Lib.hid hnil
  have HWk := Lib.hid (fun w => works_any w)
  obtain ⟨d0, hd0⟩ : ∃ d0 : Dr, ⟨xs.take 4096, 0⟩ = d0 := ⟨_, rfl⟩
  have HD0 := Lib.hid hd0
  rw [hd0] at S1
  clear s1 hR hx hS hok hnil hd0
  go_enter Try.func6, Try.ntmps6
  go_wp2_with fail
  refine S1.out.mono ?_
  rintro e w1 ⟨ba, rfl, hba, hbal, hd1, hb1⟩
  have HD1 := Lib.hid hd1
  have HB1 := Lib.hid hb1
  have s2 := new_any A n c xs w1 (HR.out.below hb1) HNil.out hnc hn HX.out
  rw [HD0.out] at s2
  have S2 := Lib.hid s2
  clear s2 hd1 hb1 S1
  go_wp2_with fail
  refine S2.out.mono ?_
  rintro e w2 ⟨bb, rfl, hbb, hbbl, hd2, hb2⟩
  obtain ⟨S, hSS⟩ : ∃ S : Nat → Prop, (fun k => k = ba ∨ k = bb) = S := ⟨_, rfl⟩
  have HT : Hid ((∀ k, Tgt (.pointer (some ⟨ba, 0, none⟩)) k → S k) ∧ (∀ k, Tgt (.pointer (some ⟨bb, 0, none⟩)) k → S k)) := Lib.hid (by rw [← hSS]; exact ⟨fun k h => .inl (tgt_eq h), fun k h => .inr (tgt_eq h)⟩)
  have HNe : Hid (∀ k, Tgt (.pointer (some ⟨ba, 0, none⟩)) k → ¬ Tgt (.pointer (some ⟨bb, 0, none⟩)) k) := Lib.hid (fun k h h' => by have := tgt_eq h; have := tgt_eq h'; omega)
  have HSlt : Hid (∀ k, S k → k < w2.heap.size) := Lib.hid (by rw [← hSS]; rintro k (rfl | rfl) <;> omega)
  have HSold : Hid (∀ k, k < w.heap.size → ¬ S k) := Lib.hid (by rw [← hSS]; rintro k hk (h | h) <;> omega)
  have HDa : Hid (DwAt S w2 (.pointer (some ⟨ba, 0, none⟩)) d0) := Lib.hid ((HD1.out.narrow (S' := S) (by rw [← hSS]; rintro k hk (h | h); exact .inr h; omega) HT.out.1).below hb2)
  have HDb : Hid (DwAt S w2 (.pointer (some ⟨bb, 0, none⟩)) d0) := Lib.hid (hd2.narrow (by rw [← hSS]; rintro k hk (h | h); exact .inl (by omega); exact .inr h) HT.out.2)
  have HB2 : Hid (Below w.heap.size w w2) := Lib.hid (HB1.out.trans (hb2.mono HB1.out.size))
  clear hd2 hb2 hSS HD1 S2
  go_wp2
  go_loopw [7] (fun kv wr => ∃ (k : Nat) (d : Dr), k ≤ n1 ∧ k ≤ 40 ∧ kv = .int .i64 (k : Int) ∧ Hid (DwAt S wr (.pointer (some ⟨ba, 0, none⟩)) d) ∧ Hid (DwAt S wr (.pointer (some ⟨bb, 0, none⟩)) d) ∧ Hid (But S w2 wr)) (fun kv _ => 40 - (intOf kv).toNat)
  case atStart => exact ⟨0, d0, Nat.zero_le _, by omega, rfl, HDa, HDb, Lib.hid (But.refl _ _)⟩
  case round =>
    obtain ⟨k, d, hk, hk40, rfl, hda, hdb, hbut⟩ := hrel
    by_cases hlt : k < n1 ∧ k < 40
    · obtain ⟨hlt1, hlt2⟩ := hlt
      have hk' : k < ss.length := by rw [HSl.out]; exact hlt1
      obtain ⟨b, off, rfl, hbl, hat⟩ := HSS.out.2 (by omega)
      have hx := hat k hk'
      obtain ⟨x, hxx⟩ : ∃ x, ss[k] = x := ⟨_, rfl⟩
      have hokx : okStp x := by rw [← hxx]; exact HOK.out _ (List.getElem_mem hk')
      rw [hxx] at hx
      have HSt : Hid (∀ w', But S wr w' → StpAt w' b (off + k * 3) x) := Lib.hid (fun w' h => by
        have h1 := HB2.out.size
        exact hx.of_block (((hbut.out.trans h).block b (by omega) (HSold.out b hbl)).trans (HB2.out.block b hbl)))
      obtain ⟨d1, hd1⟩ : ∃ d1, d.next x.n = d1 := ⟨_, rfl⟩
      obtain ⟨d2, hd2⟩ : ∃ d2, d1.afterO x.n = d2 := ⟨_, rfl⟩
      obtain ⟨y, hy⟩ : ∃ y, d.below x.n = y := ⟨_, rfl⟩
      obtain ⟨xs, hxs⟩ : ∃ xs, d1.some_ x.n x.k = xs := ⟨_, rfl⟩
      have HLen : Hid (xs.length ≤ 140737488355328) := Lib.hid (by
        have h1 := order_length x.n d1
        have h2 := sizeO_le x.n
        rw [← hxs, Dr.some_, List.length_take]
        omega)
      have HB : Hid ((∀ w', DwAt S w' (.pointer (some ⟨ba, 0, none⟩)) d → Calls Try.prog 10 #[.pointer (some ⟨ba, 0, none⟩), .int .i64 x.n] w' fun e w2 => e = .returned (.int .i64 (y : Int)) ∧ DwAt S w2 (.pointer (some ⟨ba, 0, none⟩)) d1 ∧ But (Tgt (.pointer (some ⟨ba, 0, none⟩))) w' w2) ∧
        (∀ w', DwAt S w' (.pointer (some ⟨bb, 0, none⟩)) d → Calls Try.prog 10 #[.pointer (some ⟨bb, 0, none⟩), .int .i64 x.n] w' fun e w2 => e = .returned (.int .i64 (y : Int)) ∧ DwAt S w2 (.pointer (some ⟨bb, 0, none⟩)) d1 ∧ But (Tgt (.pointer (some ⟨bb, 0, none⟩))) w' w2)) := Lib.hid ⟨fun w' h => by rw [← hd1, ← hy]; exact below_any S _ d x.n w' h hokx.2.1.2, fun w' h => by rw [← hd1, ← hy]; exact below_any S _ d x.n w' h hokx.2.1.2⟩
      have HO : Hid ((∀ w', DwAt S w' (.pointer (some ⟨ba, 0, none⟩)) d1 → Calls Try.prog 15 #[.pointer (some ⟨ba, 0, none⟩), .int .i64 x.n, .int .i64 x.k] w' fun e w2 => RowOf w' xs e w2 ∧ DwAt S w2 (.pointer (some ⟨ba, 0, none⟩)) d2 ∧ But (Tgt (.pointer (some ⟨ba, 0, none⟩))) w' w2) ∧
        (∀ w', DwAt S w' (.pointer (some ⟨bb, 0, none⟩)) d1 → Calls Try.prog 15 #[.pointer (some ⟨bb, 0, none⟩), .int .i64 x.n, .int .i64 x.k] w' fun e w2 => RowOf w' xs e w2 ∧ DwAt S w2 (.pointer (some ⟨bb, 0, none⟩)) d2 ∧ But (Tgt (.pointer (some ⟨bb, 0, none⟩))) w' w2)) := Lib.hid ⟨fun w' h => by rw [← hd2, ← hxs]; exact some_any S _ d1 x.n x.k w' h, fun w' h => by rw [← hd2, ← hxs]; exact some_any S _ d1 x.n x.k w' h⟩
      have HSame : Hid (∀ A B c d w', RV w' A xs.length (xs.map iV) → RV w' B xs.length (xs.map iV) → Calls Try.prog 12 #[.slice A xs.length c, .slice B xs.length d] w' fun e w2 => e = .returned (.bool true) ∧ Below w'.heap.size w' w2) := Lib.hid (fun A B c d w' h h' => same_any A B _ c d xs w' h h' HLen.out)
      have HK : Hid ((0 : Int) ≤ (k : Int) ∧ (k : Int) < (n1 : Int)) := Lib.hid ⟨by omega, by omega⟩
      have HSlt' : Hid (∀ k, S k → k < wr.heap.size) := Lib.hid (fun k h => by have := HSlt.out k h; have := hbut.out.size; omega)
      clear hat hx hxx hokx hk' hd1 hd2 hy hxs HLen
      go_wp2
      refine Go.Rel.wp_region_states (by kernel_rfl) (by kernel_rfl) (by kernel_rfl) (by kernel_rfl) (fun f w => DwAt S w (.pointer (some ⟨ba, 0, none⟩)) (bif f 27 then d2 else bif f 6 then d1 else d) ∧ DwAt S w (.pointer (some ⟨bb, 0, none⟩)) (bif f 39 then d2 else bif f 13 then d1 else d)) (But S) (fun _ _ _ h k => h.trans k) ((But.refl _ _).drew) ⟨hda.out, hdb.out⟩ (sameR S ba bb b off n1 c1 k x y xs) (sameR_stable S ba bb b off n1 c1 k x y xs) ?hsteps ?hend
      case hsteps =>
        refine (.cons ?_ (.cons ?_ (.cons ?_ (.cons ?_ (.cons ?_ (.cons ?_ (.cons ?_ (.cons ?_ (.cons ?_ (.cons ?_ (.cons ?_ (.cons ?_ (.cons ?_ (.cons ?_ (.cons ?_ (.cons ?_ (.cons ?_ (.cons ?_ (.cons ?_ (.cons ?_ (.cons ?_ (.cons ?_ (.cons ?_ (.cons ?_ (.cons ?_ (.cons ?_ (.cons ?_ (.cons ?_ (.cons ?_ (.cons ?_ (.cons ?_ (.cons ?_ (.cons ?_ (.cons ?_ (.cons ?_ (.cons ?_ (.cons ?_ (.cons ?_ (.cons ?_ (.cons ?_ (.cons ?_ (.cons ?_ (.cons ?_ .nil)))))))))))))))))))))))))))))))))))))))))))
        · intro f a w' hI hf hanc hdesc hle hs' hd K hK
          have f5 : a.tmps[5]? = some (.pointer (some ⟨ba, 0, none⟩)) := hs'.2.2 5 (by kernel_rfl)
          unfold Go.Rel.stepOf
          go_simp
          exact hK _ _ (But.refl _ _) (hI) rfl
        · intro f a w' hI hf hanc hdesc hle hs' hd K hK
          have f1 : a.tmps[1]? = some (.slice (some ⟨b, off, none⟩) n1 c1) := hs'.2.2 1 (by kernel_rfl)
          unfold Go.Rel.stepOf
          go_simp
          exact hK _ _ (But.refl _ _) (hI) rfl
        · intro f a w' hI hf hanc hdesc hle hs' hd K hK
          have f7 : a.tmps[7]? = some (.int .i64 (k : Int)) := hs'.2.2 7 (by kernel_rfl)
          unfold Go.Rel.stepOf
          go_simp
          exact hK _ _ (But.refl _ _) (hI) rfl
        · intro f a w' hI hf hanc hdesc hle hs' hd K hK
          obtain ⟨_, t1, rfl⟩ := hd 1 23 (by kernel_rfl)
          obtain ⟨_, t2, rfl⟩ := hd 2 24 (by kernel_rfl)
          have q1 := HK.out.1
          have q2 := HK.out.2
          unfold Go.Rel.stepOf
          go_simp
          exact hK _ _ (But.refl _ _) (hI) rfl
        · intro f a w' hI hf hanc hdesc hle hs' hd K hK
          obtain ⟨_, t3, rfl⟩ := hd 3 25 (by kernel_rfl)
          unfold Go.Rel.stepOf
          go_simp
          exact hK _ _ (But.refl _ _) (hI) rfl
        · intro f a w' hI hf hanc hdesc hle hs' hd K hK
          obtain ⟨_, t4, rfl⟩ := hd 4 26 (by kernel_rfl)
          have cc := (HSt.out w' hle).2.1
          unfold Go.Rel.stepOf
          go_simp
          exact hK _ _ (But.refl _ _) (hI) rfl
        · intro f a w' hI hf hanc hdesc hle hs' hd K hK
          obtain ⟨_, t0, rfl⟩ := hd 0 22 (by kernel_rfl)
          obtain ⟨_, t5, rfl⟩ := hd 5 27 (by kernel_rfl)
          have g27 := hdesc 40 27 (by kernel_rfl)
          have hst := hI.1
          rw [hf, g27] at hst
          unfold Go.Rel.stepOf
          go_simp
          refine (HB.out.1 w' hst).mono ?_
          rintro e w2 ⟨rfl, hr5, hb5⟩
          have hbS : But S w' w2 := hb5.mono HT.out.1
          exact hK _ _ hbS ⟨hr5.cast (by show (bif (27 == 6 || f 27) then d2 else bif (6 == 6 || f 6) then d1 else d) = d1; rw [g27]; rfl), hI.2.but hb5 HT.out.1 (fun k e h => HNe.out k e h)⟩ rfl
        · intro f a w' hI hf hanc hdesc hle hs' hd K hK
          have f6 : a.tmps[6]? = some (.pointer (some ⟨bb, 0, none⟩)) := hs'.2.2 6 (by kernel_rfl)
          unfold Go.Rel.stepOf
          go_simp
          exact hK _ _ (But.refl _ _) (hI) rfl
        · intro f a w' hI hf hanc hdesc hle hs' hd K hK
          have f1 : a.tmps[1]? = some (.slice (some ⟨b, off, none⟩) n1 c1) := hs'.2.2 1 (by kernel_rfl)
          unfold Go.Rel.stepOf
          go_simp
          exact hK _ _ (But.refl _ _) (hI) rfl
        · intro f a w' hI hf hanc hdesc hle hs' hd K hK
          have f7 : a.tmps[7]? = some (.int .i64 (k : Int)) := hs'.2.2 7 (by kernel_rfl)
          unfold Go.Rel.stepOf
          go_simp
          exact hK _ _ (But.refl _ _) (hI) rfl
        · intro f a w' hI hf hanc hdesc hle hs' hd K hK
          obtain ⟨_, t8, rfl⟩ := hd 8 30 (by kernel_rfl)
          obtain ⟨_, t9, rfl⟩ := hd 9 31 (by kernel_rfl)
          have q1 := HK.out.1
          have q2 := HK.out.2
          unfold Go.Rel.stepOf
          go_simp
          exact hK _ _ (But.refl _ _) (hI) rfl
        · intro f a w' hI hf hanc hdesc hle hs' hd K hK
          obtain ⟨_, t10, rfl⟩ := hd 10 32 (by kernel_rfl)
          unfold Go.Rel.stepOf
          go_simp
          exact hK _ _ (But.refl _ _) (hI) rfl
        · intro f a w' hI hf hanc hdesc hle hs' hd K hK
          obtain ⟨_, t11, rfl⟩ := hd 11 33 (by kernel_rfl)
          have cc := (HSt.out w' hle).2.1
          unfold Go.Rel.stepOf
          go_simp
          exact hK _ _ (But.refl _ _) (hI) rfl
        · intro f a w' hI hf hanc hdesc hle hs' hd K hK
          obtain ⟨_, t7, rfl⟩ := hd 7 29 (by kernel_rfl)
          obtain ⟨_, t12, rfl⟩ := hd 12 34 (by kernel_rfl)
          have g39 := hdesc 40 39 (by kernel_rfl)
          have hst := hI.2
          rw [hf, g39] at hst
          unfold Go.Rel.stepOf
          go_simp
          refine (HB.out.2 w' hst).mono ?_
          rintro e w2 ⟨rfl, hr5, hb5⟩
          have hbS : But S w' w2 := hb5.mono HT.out.2
          exact hK _ _ hbS ⟨hI.1.but hb5 HT.out.2 (fun k e h => HNe.out k h e), hr5.cast (by show (bif (39 == 13 || f 39) then d2 else bif (13 == 13 || f 13) then d1 else d) = d1; rw [g39]; rfl)⟩ rfl
        · intro f a w' hI hf hanc hdesc hle hs' hd K hK
          obtain ⟨_, t6, rfl⟩ := hd 6 28 (by kernel_rfl)
          obtain ⟨_, t13, rfl⟩ := hd 13 35 (by kernel_rfl)
          unfold Go.Rel.stepOf
          go_simp
          exact hK _ _ (But.refl _ _) (hI) rfl
        · intro f a w' hI hf hanc hdesc hle hs' hd K hK
          obtain ⟨_, t14, rfl⟩ := hd 14 36 (by kernel_rfl)
          unfold Go.Rel.stepOf
          go_simp
          exact hK _ _ (But.refl _ _) (hI) rfl
        · intro f a w' hI hf hanc hdesc hle hs' hd K hK
          obtain ⟨_, tg, rfl⟩ := hd 15 37 (by kernel_rfl)
          have f5 : a.tmps[5]? = some (.pointer (some ⟨ba, 0, none⟩)) := hs'.2.2 5 (by kernel_rfl)
          unfold Go.Rel.stepOf
          go_simp
          exact hK _ _ (But.refl _ _) (hI) rfl
        · intro f a w' hI hf hanc hdesc hle hs' hd K hK
          obtain ⟨_, tg, rfl⟩ := hd 15 37 (by kernel_rfl)
          have f1 : a.tmps[1]? = some (.slice (some ⟨b, off, none⟩) n1 c1) := hs'.2.2 1 (by kernel_rfl)
          unfold Go.Rel.stepOf
          go_simp
          exact hK _ _ (But.refl _ _) (hI) rfl
        · intro f a w' hI hf hanc hdesc hle hs' hd K hK
          obtain ⟨_, tg, rfl⟩ := hd 15 37 (by kernel_rfl)
          have f7 : a.tmps[7]? = some (.int .i64 (k : Int)) := hs'.2.2 7 (by kernel_rfl)
          unfold Go.Rel.stepOf
          go_simp
          exact hK _ _ (But.refl _ _) (hI) rfl
        · intro f a w' hI hf hanc hdesc hle hs' hd K hK
          obtain ⟨_, tg, rfl⟩ := hd 15 37 (by kernel_rfl)
          obtain ⟨_, t17, rfl⟩ := hd 17 39 (by kernel_rfl)
          obtain ⟨_, t18, rfl⟩ := hd 18 40 (by kernel_rfl)
          have q1 := HK.out.1
          have q2 := HK.out.2
          unfold Go.Rel.stepOf
          go_simp
          exact hK _ _ (But.refl _ _) (hI) rfl
        · intro f a w' hI hf hanc hdesc hle hs' hd K hK
          obtain ⟨_, tg, rfl⟩ := hd 15 37 (by kernel_rfl)
          obtain ⟨_, t19, rfl⟩ := hd 19 41 (by kernel_rfl)
          unfold Go.Rel.stepOf
          go_simp
          exact hK _ _ (But.refl _ _) (hI) rfl
        · intro f a w' hI hf hanc hdesc hle hs' hd K hK
          obtain ⟨_, tg, rfl⟩ := hd 15 37 (by kernel_rfl)
          obtain ⟨_, t20, rfl⟩ := hd 20 42 (by kernel_rfl)
          have cc := (HSt.out w' hle).2.1
          unfold Go.Rel.stepOf
          go_simp
          exact hK _ _ (But.refl _ _) (hI) rfl
        · intro f a w' hI hf hanc hdesc hle hs' hd K hK
          obtain ⟨_, tg, rfl⟩ := hd 15 37 (by kernel_rfl)
          have f1 : a.tmps[1]? = some (.slice (some ⟨b, off, none⟩) n1 c1) := hs'.2.2 1 (by kernel_rfl)
          unfold Go.Rel.stepOf
          go_simp
          exact hK _ _ (But.refl _ _) (hI) rfl
        · intro f a w' hI hf hanc hdesc hle hs' hd K hK
          obtain ⟨_, tg, rfl⟩ := hd 15 37 (by kernel_rfl)
          have f7 : a.tmps[7]? = some (.int .i64 (k : Int)) := hs'.2.2 7 (by kernel_rfl)
          unfold Go.Rel.stepOf
          go_simp
          exact hK _ _ (But.refl _ _) (hI) rfl
        · intro f a w' hI hf hanc hdesc hle hs' hd K hK
          obtain ⟨_, tg, rfl⟩ := hd 15 37 (by kernel_rfl)
          obtain ⟨_, t22, rfl⟩ := hd 22 44 (by kernel_rfl)
          obtain ⟨_, t23, rfl⟩ := hd 23 45 (by kernel_rfl)
          have q1 := HK.out.1
          have q2 := HK.out.2
          unfold Go.Rel.stepOf
          go_simp
          exact hK _ _ (But.refl _ _) (hI) rfl
        · intro f a w' hI hf hanc hdesc hle hs' hd K hK
          obtain ⟨_, tg, rfl⟩ := hd 15 37 (by kernel_rfl)
          obtain ⟨_, t24, rfl⟩ := hd 24 46 (by kernel_rfl)
          unfold Go.Rel.stepOf
          go_simp
          exact hK _ _ (But.refl _ _) (hI) rfl
        · intro f a w' hI hf hanc hdesc hle hs' hd K hK
          obtain ⟨_, tg, rfl⟩ := hd 15 37 (by kernel_rfl)
          obtain ⟨_, t25, rfl⟩ := hd 25 47 (by kernel_rfl)
          have cc := (HSt.out w' hle).2.2
          unfold Go.Rel.stepOf
          go_simp
          exact hK _ _ (But.refl _ _) (hI) rfl
        · intro f a w' hI hf hanc hdesc hle hs' hd K hK
          obtain ⟨_, tg, rfl⟩ := hd 15 37 (by kernel_rfl)
          obtain ⟨_, t16, rfl⟩ := hd 16 38 (by kernel_rfl)
          obtain ⟨_, t21, rfl⟩ := hd 21 43 (by kernel_rfl)
          obtain ⟨_, t26, rfl⟩ := hd 26 48 (by kernel_rfl)
          have g6 := hanc 40 6 (by kernel_rfl)
          have hst := hI.1
          rw [hf, g6] at hst
          unfold Go.Rel.stepOf
          go_simp
          refine (HO.out.1 w' hst).mono ?_
          rintro e w2 ⟨⟨A5, c5, rfl, hv5, _, hblk5⟩, hr5, hb5⟩
          have hbS : But S w' w2 := hb5.mono HT.out.1
          exact hK _ _ hbS ⟨hr5, hI.2.but hb5 HT.out.1 (fun k e h => HNe.out k e h)⟩ ⟨_, _, rfl, hv5, fun b off e _ hs => by have := hblk5 b off e; have := HSlt'.out b hs; have := hle.size; omega⟩
        · intro f a w' hI hf hanc hdesc hle hs' hd K hK
          obtain ⟨_, tg, rfl⟩ := hd 15 37 (by kernel_rfl)
          have f6 : a.tmps[6]? = some (.pointer (some ⟨bb, 0, none⟩)) := hs'.2.2 6 (by kernel_rfl)
          unfold Go.Rel.stepOf
          go_simp
          exact hK _ _ (But.refl _ _) (hI) rfl
        · intro f a w' hI hf hanc hdesc hle hs' hd K hK
          obtain ⟨_, tg, rfl⟩ := hd 15 37 (by kernel_rfl)
          have f1 : a.tmps[1]? = some (.slice (some ⟨b, off, none⟩) n1 c1) := hs'.2.2 1 (by kernel_rfl)
          unfold Go.Rel.stepOf
          go_simp
          exact hK _ _ (But.refl _ _) (hI) rfl
        · intro f a w' hI hf hanc hdesc hle hs' hd K hK
          obtain ⟨_, tg, rfl⟩ := hd 15 37 (by kernel_rfl)
          have f7 : a.tmps[7]? = some (.int .i64 (k : Int)) := hs'.2.2 7 (by kernel_rfl)
          unfold Go.Rel.stepOf
          go_simp
          exact hK _ _ (But.refl _ _) (hI) rfl
        · intro f a w' hI hf hanc hdesc hle hs' hd K hK
          obtain ⟨_, tg, rfl⟩ := hd 15 37 (by kernel_rfl)
          obtain ⟨_, t29, rfl⟩ := hd 29 51 (by kernel_rfl)
          obtain ⟨_, t30, rfl⟩ := hd 30 52 (by kernel_rfl)
          have q1 := HK.out.1
          have q2 := HK.out.2
          unfold Go.Rel.stepOf
          go_simp
          exact hK _ _ (But.refl _ _) (hI) rfl
        · intro f a w' hI hf hanc hdesc hle hs' hd K hK
          obtain ⟨_, tg, rfl⟩ := hd 15 37 (by kernel_rfl)
          obtain ⟨_, t31, rfl⟩ := hd 31 53 (by kernel_rfl)
          unfold Go.Rel.stepOf
          go_simp
          exact hK _ _ (But.refl _ _) (hI) rfl
        · intro f a w' hI hf hanc hdesc hle hs' hd K hK
          obtain ⟨_, tg, rfl⟩ := hd 15 37 (by kernel_rfl)
          obtain ⟨_, t32, rfl⟩ := hd 32 54 (by kernel_rfl)
          have cc := (HSt.out w' hle).2.1
          unfold Go.Rel.stepOf
          go_simp
          exact hK _ _ (But.refl _ _) (hI) rfl
        · intro f a w' hI hf hanc hdesc hle hs' hd K hK
          obtain ⟨_, tg, rfl⟩ := hd 15 37 (by kernel_rfl)
          have f1 : a.tmps[1]? = some (.slice (some ⟨b, off, none⟩) n1 c1) := hs'.2.2 1 (by kernel_rfl)
          unfold Go.Rel.stepOf
          go_simp
          exact hK _ _ (But.refl _ _) (hI) rfl
        · intro f a w' hI hf hanc hdesc hle hs' hd K hK
          obtain ⟨_, tg, rfl⟩ := hd 15 37 (by kernel_rfl)
          have f7 : a.tmps[7]? = some (.int .i64 (k : Int)) := hs'.2.2 7 (by kernel_rfl)
          unfold Go.Rel.stepOf
          go_simp
          exact hK _ _ (But.refl _ _) (hI) rfl
        · intro f a w' hI hf hanc hdesc hle hs' hd K hK
          obtain ⟨_, tg, rfl⟩ := hd 15 37 (by kernel_rfl)
          obtain ⟨_, t34, rfl⟩ := hd 34 56 (by kernel_rfl)
          obtain ⟨_, t35, rfl⟩ := hd 35 57 (by kernel_rfl)
          have q1 := HK.out.1
          have q2 := HK.out.2
          unfold Go.Rel.stepOf
          go_simp
          exact hK _ _ (But.refl _ _) (hI) rfl
        · intro f a w' hI hf hanc hdesc hle hs' hd K hK
          obtain ⟨_, tg, rfl⟩ := hd 15 37 (by kernel_rfl)
          obtain ⟨_, t36, rfl⟩ := hd 36 58 (by kernel_rfl)
          unfold Go.Rel.stepOf
          go_simp
          exact hK _ _ (But.refl _ _) (hI) rfl
        · intro f a w' hI hf hanc hdesc hle hs' hd K hK
          obtain ⟨_, tg, rfl⟩ := hd 15 37 (by kernel_rfl)
          obtain ⟨_, t37, rfl⟩ := hd 37 59 (by kernel_rfl)
          have cc := (HSt.out w' hle).2.2
          unfold Go.Rel.stepOf
          go_simp
          exact hK _ _ (But.refl _ _) (hI) rfl
        · intro f a w' hI hf hanc hdesc hle hs' hd K hK
          obtain ⟨_, tg, rfl⟩ := hd 15 37 (by kernel_rfl)
          obtain ⟨_, t28, rfl⟩ := hd 28 50 (by kernel_rfl)
          obtain ⟨_, t33, rfl⟩ := hd 33 55 (by kernel_rfl)
          obtain ⟨_, t38, rfl⟩ := hd 38 60 (by kernel_rfl)
          have g13 := hanc 40 13 (by kernel_rfl)
          have hst := hI.2
          rw [hf, g13] at hst
          unfold Go.Rel.stepOf
          go_simp
          refine (HO.out.2 w' hst).mono ?_
          rintro e w2 ⟨⟨A5, c5, rfl, hv5, _, hblk5⟩, hr5, hb5⟩
          have hbS : But S w' w2 := hb5.mono HT.out.2
          exact hK _ _ hbS ⟨hI.1.but hb5 HT.out.2 (fun k e h => HNe.out k h e), hr5⟩ ⟨_, _, rfl, hv5, fun b off e _ hs => by have := hblk5 b off e; have := HSlt'.out b hs; have := hle.size; omega⟩
        · intro f a w' hI hf hanc hdesc hle hs' hd K hK
          obtain ⟨_, tg, rfl⟩ := hd 15 37 (by kernel_rfl)
          obtain ⟨_, t27, A27, c27, rfl, h27⟩ := hd 27 49 (by kernel_rfl)
          obtain ⟨_, t39, A39, c39, rfl, h39⟩ := hd 39 61 (by kernel_rfl)
          unfold Go.Rel.stepOf
          go_simp
          refine (HSame.out _ _ _ _ w' h27.1 h39.1).mono ?_
          rintro e w2 ⟨rfl, hb5⟩
          exact hK _ _ (But.of_below hb5) ⟨hI.1.below hb5, hI.2.below hb5⟩ rfl
        · intro f a w' hI hf hanc hdesc hle hs' hd K hK
          obtain ⟨_, tg, rfl⟩ := hd 15 37 (by kernel_rfl)
          obtain ⟨_, t40, rfl⟩ := hd 40 62 (by kernel_rfl)
          unfold Go.Rel.stepOf
          go_simp
          exact hK _ _ (But.refl _ _) (hI) rfl
        · intro f a w' hI hf hanc hdesc hle hs' hd K hK
          obtain ⟨_, t15, rfl⟩ := hd 15 37 (by kernel_rfl)
          obtain ⟨_, t41, rfl⟩ := hd 41 63 (by kernel_rfl)
          unfold Go.Rel.stepOf
          go_simp
          exact hK _ _ (But.refl _ _) (hI) rfl
      case hend =>
        intro f a w3 hall hI hle hs' hR'
        have hf1 := hall 27 (by decide)
        have hf2 := hall 39 (by decide)
        have hI' : Hid (DwAt S w3 (.pointer (some ⟨ba, 0, none⟩)) d2 ∧ DwAt S w3 (.pointer (some ⟨bb, 0, none⟩)) d2) := Lib.hid (by
          have h := hI
          simp only [hf1, hf2, cond_true] at h
          exact h)
        have HBF : Hid (But S w2 w3) := Lib.hid (hbut.out.trans hle)
        clear hI hall hf1 hf2 hle
        obtain ⟨v22, s22, _⟩ := hR' 0 22 (by kernel_rfl)
        obtain ⟨v23, s23, _⟩ := hR' 1 23 (by kernel_rfl)
        obtain ⟨v24, s24, _⟩ := hR' 2 24 (by kernel_rfl)
        obtain ⟨v25, s25, _⟩ := hR' 3 25 (by kernel_rfl)
        obtain ⟨v26, s26, _⟩ := hR' 4 26 (by kernel_rfl)
        obtain ⟨v27, s27, _⟩ := hR' 5 27 (by kernel_rfl)
        obtain ⟨v28, s28, _⟩ := hR' 6 28 (by kernel_rfl)
        obtain ⟨v29, s29, _⟩ := hR' 7 29 (by kernel_rfl)
        obtain ⟨v30, s30, _⟩ := hR' 8 30 (by kernel_rfl)
        obtain ⟨v31, s31, _⟩ := hR' 9 31 (by kernel_rfl)
        obtain ⟨v32, s32, _⟩ := hR' 10 32 (by kernel_rfl)
        obtain ⟨v33, s33, _⟩ := hR' 11 33 (by kernel_rfl)
        obtain ⟨v34, s34, _⟩ := hR' 12 34 (by kernel_rfl)
        obtain ⟨v35, s35, _⟩ := hR' 13 35 (by kernel_rfl)
        obtain ⟨v36, s36, _⟩ := hR' 14 36 (by kernel_rfl)
        obtain ⟨v37, s37, _⟩ := hR' 15 37 (by kernel_rfl)
        obtain ⟨v38, s38, _⟩ := hR' 16 38 (by kernel_rfl)
        obtain ⟨v39, s39, _⟩ := hR' 17 39 (by kernel_rfl)
        obtain ⟨v40, s40, _⟩ := hR' 18 40 (by kernel_rfl)
        obtain ⟨v41, s41, _⟩ := hR' 19 41 (by kernel_rfl)
        obtain ⟨v42, s42, _⟩ := hR' 20 42 (by kernel_rfl)
        obtain ⟨v43, s43, _⟩ := hR' 21 43 (by kernel_rfl)
        obtain ⟨v44, s44, _⟩ := hR' 22 44 (by kernel_rfl)
        obtain ⟨v45, s45, _⟩ := hR' 23 45 (by kernel_rfl)
        obtain ⟨v46, s46, _⟩ := hR' 24 46 (by kernel_rfl)
        obtain ⟨v47, s47, _⟩ := hR' 25 47 (by kernel_rfl)
        obtain ⟨v48, s48, _⟩ := hR' 26 48 (by kernel_rfl)
        obtain ⟨v49, s49, _⟩ := hR' 27 49 (by kernel_rfl)
        obtain ⟨v50, s50, _⟩ := hR' 28 50 (by kernel_rfl)
        obtain ⟨v51, s51, _⟩ := hR' 29 51 (by kernel_rfl)
        obtain ⟨v52, s52, _⟩ := hR' 30 52 (by kernel_rfl)
        obtain ⟨v53, s53, _⟩ := hR' 31 53 (by kernel_rfl)
        obtain ⟨v54, s54, _⟩ := hR' 32 54 (by kernel_rfl)
        obtain ⟨v55, s55, _⟩ := hR' 33 55 (by kernel_rfl)
        obtain ⟨v56, s56, _⟩ := hR' 34 56 (by kernel_rfl)
        obtain ⟨v57, s57, _⟩ := hR' 35 57 (by kernel_rfl)
        obtain ⟨v58, s58, _⟩ := hR' 36 58 (by kernel_rfl)
        obtain ⟨v59, s59, _⟩ := hR' 37 59 (by kernel_rfl)
        obtain ⟨v60, s60, _⟩ := hR' 38 60 (by kernel_rfl)
        obtain ⟨v61, s61, _⟩ := hR' 39 61 (by kernel_rfl)
        obtain ⟨v62, s62, _⟩ := hR' 40 62 (by kernel_rfl)
        obtain ⟨v63, s63, _⟩ := hR' 41 63 (by kernel_rfl)
        obtain ⟨_, s64, rfl⟩ := hR' 42 64 (by kernel_rfl)
        have e := hs'.shape
        simp only [List.toList_toArray, List.foldl, Go.Rel.reset, Array.getD_eq_getD_getElem?, s22, s23, s24, s25, s26, s27, s28, s29, s30, s31, s32, s33, s34, s35, s36, s37, s38, s39, s40, s41, s42, s43, s44, s45, s46, s47, s48, s49, s50, s51, s52, s53, s54, s55, s56, s57, s58, s59, s60, s61, s62, s63, s64, Option.getD_some] at e
        simp at e
        clear hR' hs' s22 s23 s24 s25 s26 s27 s28 s29 s30 s31 s32 s33 s34 s35 s36 s37 s38 s39 s40 s41 s42 s43 s44 s45 s46 s47 s48 s49 s50 s51 s52 s53 s54 s55 s56 s57 s58 s59 s60 s61 s62 s63 s64
        subst e
        go_wp2
        go_roundw
        case rel => exact ⟨k + 1, d2, by omega, by omega, by go_num, Lib.hid hI'.out.1, Lib.hid hI'.out.2, HBF⟩
        case measure => simp [intOf]; omega
    · have hge : ¬ ((k : Int) < (n1 : Int)) ∨ ((k : Int) < (n1 : Int) ∧ ¬ ((k : Int) < 40)) := by omega
      obtain ⟨L, hL⟩ : ∃ L, d.l.length - d.at_ = L := ⟨_, rfl⟩
      have HL1 : Hid (∀ w', DwAt S w' (.pointer (some ⟨ba, 0, none⟩)) d → Calls Try.prog 18 #[.pointer (some ⟨ba, 0, none⟩)] w' fun e w2 => e = .returned (.int .i64 (L : Int)) ∧ w' = w2) := Lib.hid (fun w' h => left_of S _ d w' h hL)
      have HL2 : Hid (∀ w', DwAt S w' (.pointer (some ⟨bb, 0, none⟩)) d → Calls Try.prog 18 #[.pointer (some ⟨bb, 0, none⟩)] w' fun e w2 => e = .returned (.int .i64 (L : Int)) ∧ w' = w2) := Lib.hid (fun w' h => left_of S _ d w' h hL)
      have HBF : Hid (Below w.heap.size w wr) := Lib.hid (HB2.out.trans (hbut.out.below HB2.out.size HSold.out))
      clear hlt hL
      rcases hge with q1 | ⟨q1, q2⟩
      all_goals
        go_wp2_with fail
        refine (HL1.out wr hda.out).mono ?_
        rintro e w' ⟨rfl, rfl⟩
        go_wp2_with fail
        refine (HL2.out wr hdb.out).mono ?_
        rintro e w' ⟨rfl, rfl⟩
        have hwk := HWk.out wr
        have HWr := Lib.hid hwk
        clear hwk
        go_wp2_with (go_at_call 19; refine HWr.out.mono ?_; rintro e w4 ⟨rfl, hb4⟩)
        go_ret
        exact ⟨rfl, HBF.out.trans (hb4.mono HBF.out.size)⟩
end Go.Proofs.Ytonbojecgggheaa
