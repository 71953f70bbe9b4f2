/-
  A table together with another one has of each node what is at least what each of both had: the law sodalitylaw08.RankRises over the contracts (layer 8).
-/
import Derived.Test.YtfkaljegkkdmmaaRkSup
namespace Go.Proofs.Ytfkaljegkkdmmaa
open Go.RowKit
set_option linter.unusedSimpArgs false
set_option linter.unusedVariables false

def risesR (b : Nat) (off : Nat) (m : Nat) (c : Nat) (k : Nat) (U : Nat) (x : Up) (y : Up) : Nat → Value → World → Prop
  | 0, v, _ => v = .bool true
  | 1, v, _ => v = .bool false
  | 2, v, _ => v = .bool false
  | 3, v, _ => v = .slice (some ⟨b, off, none⟩) m c
  | 4, v, _ => v = .int .i64 (k : Int)
  | 5, v, _ => v = .pointer (some ⟨b, off + k * 3, none⟩)
  | 6, v, _ => v = .agg #[.int .i64 x.node, .int .u32 (x.inc : Int), .int .i64 x.st]
  | 7, v, _ => v = .agg #[.int .i64 y.node, .int .u32 (y.inc : Int), .int .i64 y.st]
  | 8, v, _ => v = .bool false
  | 9, v, _ => v = .bool false
  | _, _, _ => True
theorem risesR_stable (b : Nat) (off : Nat) (m : Nat) (c : Nat) (k : Nat) (U : Nat) (x : Up) (y : Up) : ∀ i v w w', risesR b off m c k U x y i v w → Go.Rel.Grew w w' → risesR b off m c k U x y i v w'
  | 0, _, _, _, h, _ | 1, _, _, _, h, _ | 2, _, _, _, h, _ | 3, _, _, _, h, _ | 4, _, _, _, h, _ | 5, _, _, _, h, _ | 6, _, _, _, h, _ | 7, _, _, _, h, _ | 8, _, _, _, h, _ | 9, _, _, _, h, _ => h
  | _ + 10, _, _, _, h, _ => h

set_option maxRecDepth 100000 in
set_option maxHeartbeats 16000000 in
theorem rises_walk (A1 : Option Addr) (n1 c : Nat) (l1 : List Up) (A2 : Option Addr) (n2 c2 : Nat) (l2 : List Up) (w : World) (hS1 : SUp w A1 n1 l1) (hnc1 : n1 ≤ c) (hm1 : c ≤ maxLen) (hS2 : SUp w A2 n2 l2) (hnc2 : n2 ≤ c2) (hm2 : c2 ≤ maxLen) :
    Calls Try.prog 8 #[.slice A1 n1 c, .slice A2 n2 c2] w fun e w' => e = .returned (.bool true) ∧ Below w.heap.size w w' := by
  have HC1 := Lib.hid (cut_any A1 n1 c l1 w hS1 hnc1 hm1)
  have HC2 := Lib.hid (cut_any A2 n2 c2 l2 w hS2 hnc2 hm2)
  obtain ⟨m, hmm⟩ : ∃ m, min n1 60 = m := ⟨_, rfl⟩
  obtain ⟨m2, hmm2⟩ : ∃ m, min n2 60 = m := ⟨_, rfl⟩
  rw [hmm] at HC1
  rw [hmm2] at HC2
  have HN := Lib.hid (And.intro (show m ≤ c by omega) hm1)
  have HN2 := Lib.hid (And.intro (show m2 ≤ c2 by omega) hm2)
  have q60 : (m : Int) ≤ 60 := by omega
  have HT := Lib.hid (hS1.take (show m ≤ n1 by omega))
  have HT2 := Lib.hid (hS2.take (show m2 ≤ n2 by omega))
  obtain ⟨p, hp⟩ : ∃ p, l1.take m = p := ⟨_, rfl⟩
  obtain ⟨p2, hp2⟩ : ∃ p, l2.take m2 = p := ⟨_, rfl⟩
  rw [hp] at HT
  rw [hp2] at HT2
  have HL := Lib.hid HT.out.1
  have HWk := Lib.hid (fun w => works_any w)
  clear hS1 hnc1 hm1 hS2 hnc2 hm2 hmm hmm2 hp hp2
  go_enter Try.func8, Try.ntmps8
  go_wp2_with fail
  refine HC1.out.mono ?_
  rintro e w' ⟨rfl, hw'⟩
  rw [hw']
  clear hw' HC1
  go_wp2_with fail
  refine HC2.out.mono ?_
  rintro e w' ⟨rfl, hw'⟩
  rw [hw']
  clear hw' HC2
  go_wp2_with fail
  refine (join_sup A1 m c p A2 m2 c2 p2 w HT.out HN.out.1 HN.out.2 HT2.out HN2.out.1 HN2.out.2).mono ?_
  rintro e W ⟨A3, c3, rfl, hS3, hn3, hm3, hb3⟩
  obtain ⟨J, hJ⟩ : ∃ j, joinU p p2 = j := ⟨_, rfl⟩
  rw [hJ] at hS3 hn3 ⊢
  have HJ := Lib.hid hJ
  obtain ⟨n3, hn⟩ : ∃ n, J.length = n := ⟨_, rfl⟩
  rw [hn] at hS3 hn3 ⊢
  have HS3 := Lib.hid hS3
  have HN3 := Lib.hid (And.intro hn3 hm3)
  have HB3 := Lib.hid hb3
  have HTW := Lib.hid (HT.out.of_block hb3)
  clear hS3 hn3 hm3 hb3 hJ hn
  go_wp2
  go_loopw [6, 7, 8] (fun i _ _ wr => ∃ k : Nat, k ≤ m ∧ i = .int .i64 (k : Int) ∧ Hid (Below W.heap.size W wr)) (fun i _ _ _ => m - (intOf i).toNat)
  case atStart => exact ⟨0, Nat.zero_le _, rfl, Lib.hid (Below.refl _ _)⟩
  case round =>
    obtain ⟨k, hk, rfl, hb⟩ := hrel
    by_cases hlt : k < m
    · have hkl : k < p.length := by have := HL.out; omega
      have hq : (0 : Int) ≤ (k : Int) ∧ (k : Int) < (m : Int) := by omega
      obtain ⟨b, off, rfl, hbl, hc0, hc1, hc2⟩ := (HTW.out.of_block hb.out).at_ hlt hkl
      obtain ⟨x, hx⟩ : ∃ x, p[k] = x := ⟨_, rfl⟩
      have hxm : x ∈ p := by rw [← hx]; exact List.getElem_mem hkl
      rw [hx] at hc0 hc1 hc2
      have HXm := Lib.hid hxm
      have HQ := Lib.hid hq
      have HC := Lib.hid (And.intro hc0 (And.intro hc1 hc2))
      obtain ⟨q0, q1⟩ := hq
      obtain ⟨r, hr⟩ : ∃ r, x.right = r := ⟨_, rfl⟩
      have HR := Lib.hid (fun w => pright_any x w r hr)
      have HRr := Lib.hid hr
      clear hx hxm hr
      go_wp2_with fail
      refine (HR.out _).mono ?_
      clear HR
      rintro e w1 ⟨rfl, hb1⟩
      have hk0 : UpAt w1 b (off + k * 3) x := UpAt.of_block HC.out (hb1.block b hbl)
      have hbl1 := Nat.lt_of_lt_of_le hbl hb1.size
      have HB1 : Hid (Below W.heap.size W w1) := Lib.hid (hb.out.trans (hb1.mono hb.out.size))
      have HK0 := Lib.hid hk0
      clear hc0 hc1 hc2 hb1
      cases r with
      | false =>
        go_wp2
        go_roundw
        case rel => exact ⟨k + 1, by omega, by go_num, HB1⟩
        case measure => simp [intOf]; omega
      | true =>
        obtain ⟨y, hy, hxy⟩ := findU_join (b := p2) HXm.out HRr.out
        rw [HJ.out] at hy
        have HF : Hid (∀ w, SUp w A3 n3 J → Calls Try.prog 17 #[.slice A3 n3 c3, .int .i64 x.node] w fun e w' => e = .returned (.tuple #[.agg #[.int .i64 y.node, .int .u32 (y.inc : Int), .int .i64 y.st], .bool true]) ∧ Below w.heap.size w w') := Lib.hid (fun w h => by
          have := pfind_any A3 n3 c3 J x.node w h HN3.out.1 HN3.out.2
          unfold foundU at this
          rw [hy] at this
          exact this)
        have HAb := Lib.hid (fun w => pabove_any x y w false hxy)
        clear hy hxy
        obtain ⟨hc0, hc1, hc2⟩ := hk0
        go_wp2_with fail
        refine (HF.out _ (HS3.out.of_block HB1.out)).mono ?_
        clear HF
        rintro e w2 ⟨rfl, hb2⟩
        have hk2 := HK0.out.of_block (hb2.block b hbl1)
        have hU0 := heap_alloc_new w2 (.cells #[.int .i64 y.node, .int .u32 (y.inc : Int), .int .i64 y.st] 24)
        obtain ⟨W2, hW2⟩ : ∃ W2, w2.alloc (.cells #[.int .i64 y.node, .int .u32 (y.inc : Int), .int .i64 y.st] 24) = W2 := ⟨_, rfl⟩
        obtain ⟨U, hU⟩ : ∃ U, w2.heap.size = U := ⟨_, rfl⟩
        have hb22 : Below w2.heap.size w2 W2 := by rw [← hW2]; exact below1 _ _
        rw [hW2, hU] at hU0
        have hbl2 := Nat.lt_of_lt_of_le hbl1 hb2.size
        have HKx := Lib.hid (hk2.of_block (hb22.block b hbl2))
        have HUx := Lib.hid hU0
        have HB2 : Hid (Below W.heap.size W W2) := Lib.hid (HB1.out.trans ((hb2.trans (hb22.mono hb2.size)).mono HB1.out.size))
        have HW2 := Lib.hid hW2
        have HU := Lib.hid hU
        have HCx : Hid (∀ w', Go.Rel.Grew W2 w' → w'.cell? ⟨b, off + k * 3, none⟩ = some (.int .i64 x.node) ∧ w'.cell? ⟨b, off + k * 3 + 1, none⟩ = some (.int .u32 (x.inc : Int)) ∧ w'.cell? ⟨b, off + k * 3 + 2, none⟩ = some (.int .i64 x.st) ∧ w'.cell? ⟨U, 0, none⟩ = some (.int .i64 y.node) ∧ w'.cell? ⟨U, 1, none⟩ = some (.int .u32 (y.inc : Int)) ∧ w'.cell? ⟨U, 2, none⟩ = some (.int .i64 y.st)) := by
          refine Lib.hid (fun w' hle => ?_)
          have hbl3 := Nat.lt_of_lt_of_le hbl2 hb22.size
          obtain ⟨x0, x1, x2⟩ := HKx.out.of_block (Below.block hle b hbl3)
          obtain ⟨x3, x4, x5⟩ := blk3 ((Below.block hle U (block_lt HUx.out)).trans HUx.out)
          exact ⟨x0, x1, x2, x3, x4, x5⟩
        clear hc0 hc1 hc2 hb2 hk2 hU0 hW2 hU hb22
        go_wp2
        rw [HW2.out, HU.out]
        refine Go.Rel.wp_region_grew (by kernel_rfl) (by kernel_rfl) (by kernel_rfl) (by kernel_rfl) (risesR b off m c k U x y) (risesR_stable b off m c k U x y) ?hsteps ?hend
        case hsteps =>
          have HC := HCx
          refine (.cons ?_ (.cons ?_ (.cons ?_ (.cons ?_ (.cons ?_ (.cons ?_ (.cons ?_ (.cons ?_ (.cons ?_ (.cons ?_ .nil))))))))))
          · intro a w' hle hs' hd K hK
            have f8 : a.tmps[8]? = some (.bool true) := hs'.2.2 8 (by kernel_rfl)
            unfold Go.Rel.stepOf
            go_simp
            exact hK _ _ (Go.Rel.Grew.refl _) rfl
          · intro a w' hle hs' hd K hK
            obtain ⟨_, t0, rfl⟩ := hd 0 38 (by kernel_rfl)
            unfold Go.Rel.stepOf
            go_simp
            exact hK _ _ (Go.Rel.Grew.refl _) rfl
          · intro a w' hle hs' hd K hK
            obtain ⟨_, t1, rfl⟩ := hd 1 39 (by kernel_rfl)
            unfold Go.Rel.stepOf
            go_simp
            exact hK _ _ (Go.Rel.Grew.refl _) rfl
          · intro a w' hle hs' hd K hK
            obtain ⟨_, tg, rfl⟩ := hd 2 40 (by kernel_rfl)
            have f0 : a.tmps[0]? = some (.slice (some ⟨b, off, none⟩) m c) := hs'.2.2 0 (by kernel_rfl)
            unfold Go.Rel.stepOf
            go_simp
            exact hK _ _ (Go.Rel.Grew.refl _) rfl
          · intro a w' hle hs' hd K hK
            obtain ⟨_, tg, rfl⟩ := hd 2 40 (by kernel_rfl)
            have f6 : a.tmps[6]? = some (.int .i64 (k : Int)) := hs'.2.2 6 (by kernel_rfl)
            unfold Go.Rel.stepOf
            go_simp
            exact hK _ _ (Go.Rel.Grew.refl _) rfl
          · intro a w' hle hs' hd K hK
            obtain ⟨_, tg, rfl⟩ := hd 2 40 (by kernel_rfl)
            obtain ⟨_, t3, rfl⟩ := hd 3 41 (by kernel_rfl)
            obtain ⟨_, t4, rfl⟩ := hd 4 42 (by kernel_rfl)
            have q0 := HQ.out.1
            have q1 := HQ.out.2
            unfold Go.Rel.stepOf
            go_simp
            exact hK _ _ (Go.Rel.Grew.refl _) rfl
          · intro a w' hle hs' hd K hK
            obtain ⟨_, tg, rfl⟩ := hd 2 40 (by kernel_rfl)
            obtain ⟨_, t5, rfl⟩ := hd 5 43 (by kernel_rfl)
            obtain ⟨x0, x1, x2, x3, x4, x5⟩ := HC.out w' hle
            unfold Go.Rel.stepOf
            go_simp
            exact hK _ _ (Go.Rel.Grew.refl _) rfl
          · intro a w' hle hs' hd K hK
            obtain ⟨_, tg, rfl⟩ := hd 2 40 (by kernel_rfl)
            have f7 : a.tmps[7]? = some (.pointer (some ⟨U, 0, none⟩)) := hs'.2.2 7 (by kernel_rfl)
            obtain ⟨x0, x1, x2, x3, x4, x5⟩ := HC.out w' hle
            unfold Go.Rel.stepOf
            go_simp
            exact hK _ _ (Go.Rel.Grew.refl _) rfl
          · intro a w' hle hs' hd K hK
            obtain ⟨_, tg, rfl⟩ := hd 2 40 (by kernel_rfl)
            obtain ⟨_, t6, rfl⟩ := hd 6 44 (by kernel_rfl)
            obtain ⟨_, t7, rfl⟩ := hd 7 45 (by kernel_rfl)
            unfold Go.Rel.stepOf
            go_simp
            refine (HAb.out w').mono ?_
            rintro e w5 ⟨rfl, hb5⟩
            exact hK _ _ hb5 rfl
          · intro a w' hle hs' hd K hK
            obtain ⟨_, t2, rfl⟩ := hd 2 40 (by kernel_rfl)
            obtain ⟨_, t8, rfl⟩ := hd 8 46 (by kernel_rfl)
            unfold Go.Rel.stepOf
            go_simp
            exact hK _ _ (Go.Rel.Grew.refl _) rfl
        case hend =>
          intro a3 w3 hle hs' hR'
          have HB5 : Hid (Below W.heap.size W w3) := Lib.hid (HB2.out.trans (Below.mono hle HB2.out.size))
          clear hle
          obtain ⟨v38, s38, _⟩ := hR' 0 38 (by kernel_rfl)
          obtain ⟨v39, s39, _⟩ := hR' 1 39 (by kernel_rfl)
          obtain ⟨v40, s40, _⟩ := hR' 2 40 (by kernel_rfl)
          obtain ⟨v41, s41, _⟩ := hR' 3 41 (by kernel_rfl)
          obtain ⟨v42, s42, _⟩ := hR' 4 42 (by kernel_rfl)
          obtain ⟨v43, s43, _⟩ := hR' 5 43 (by kernel_rfl)
          obtain ⟨v44, s44, _⟩ := hR' 6 44 (by kernel_rfl)
          obtain ⟨v45, s45, _⟩ := hR' 7 45 (by kernel_rfl)
          obtain ⟨v46, s46, _⟩ := hR' 8 46 (by kernel_rfl)
          obtain ⟨_, s47, rfl⟩ := hR' 9 47 (by kernel_rfl)
          have e := hs'.shape
          simp only [List.toList_toArray, List.foldl, Go.Rel.reset, Array.getD_eq_getD_getElem?, s38, s39, s40, s41, s42, s43, s44, s45, s46, s47, Option.getD_some] at e
          simp at e
          clear hR' hs' s38 s39 s40 s41 s42 s43 s44 s45 s46 s47
          subst e
          go_wp2
          go_roundw
          case rel => exact ⟨k + 1, by omega, by go_num, HB5⟩
          case measure => simp [intOf]; omega
    · go_wp2_with fail
      refine (HWk.out _).mono ?_
      clear HWk
      rintro e w5 ⟨rfl, hb5⟩
      have HB5 := Lib.hid (HB3.out.trans ((hb.out.trans (hb5.mono hb.out.size)).mono HB3.out.size))
      clear hb5
      go_wp2
      go_ret
      exact ⟨rfl, HB5.out⟩
end Go.Proofs.Ytfkaljegkkdmmaa
