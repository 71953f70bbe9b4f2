/-
  Get of the document, walked (layer 13).
-/
import Derived.Test.YtjbemjnofnifaaaZj37
namespace Go.Proofs.Ytjbemjnofnifaaa
open Go.RowKit
set_option linter.unusedSimpArgs false
set_option linter.unusedVariables false

set_option maxHeartbeats 4000000 in
set_option maxRecDepth 100000 in
theorem rget_kind (k : Nat) (hk8 : k < 256) (hk : k < 1 ∨ 6 < k) (A : Option Addr) (n c : Nat) (w : World) :
    Calls Try.prog 15 #[frIn k A n c] w (GetPost msNone 31 w) := by
  have HQ : Hid (∀ (o p : Obj), ((((w.alloc o).alloc (.cells #[.int .i64 0, .int .u32 0, .int .i64 0, .int .i64 0, .bool false, .slice none 0 0] 25)).alloc p)).heap[w.heap.size + 1]? = some (.cells #[.int .i64 0, .int .u32 0, .int .i64 0, .int .i64 0, .bool false, .slice none 0 0] 25 (0, 0))) := Lib.hid (fun o p => by
    have h1 := heap_alloc_new (w.alloc o) (.cells #[.int .i64 0, .int .u32 0, .int .i64 0, .int .i64 0, .bool false, .slice none 0 0] 25)
    simp only [World.size_alloc] at h1
    exact ((below1 _ p).block _ (by simp)).trans h1)
  have HBl : Hid (∀ (o p q : Obj), Below w.heap.size w (((w.alloc o).alloc p).alloc q)) := Lib.hid (fun o p q => (below2 w o p).alloc (by simp; omega) q)
  unfold frIn
  obtain ⟨PO, hPO⟩ : ∃ PO, GetPost msNone 31 w = PO := ⟨_, rfl⟩
  rw [hPO]
  have HPO := Lib.hid hPO
  clear hPO
  by_cases z1 : (k : Int) < 1
  · skip
    clear hk
    go_enter Try.func15, Try.ntmps15
    go_wp2
    obtain ⟨d0, d1, d2, d3, d4, d5⟩ := blk6 (HQ.out (.cells #[.int .u8 (k : Int), .slice A n c] 28) (.cells #[.int .i64 (k : Int), .int .u32 0, .int .i64 0, .int .i64 0, .bool false, .slice none 0 0] 25))
    refine bodyPost_ret (v := .tuple #[.agg #[.int .i64 0, .int .u32 0, .int .i64 0, .int .i64 0, .bool false, .slice none 0 0], .int .i64 31]) (by simp [results, Try.results15, go_sem, d0, d1, d2, d3, d4, d5]) rfl ?_
    rw [← HPO.out]
    exact ⟨miNone, rfl, rfl, ⟨UsOk.none _, TyU.nil _ _ _⟩, HBl.out _ _ _⟩
  · skip
    have z2 : (6 : Int) < (k : Int) := by omega
    have z3 : (1 : Int) ≤ (k : Int) := by omega
    clear z1
    clear hk
    go_enter Try.func15, Try.ntmps15
    go_wp2
    obtain ⟨d0, d1, d2, d3, d4, d5⟩ := blk6 (HQ.out (.cells #[.int .u8 (k : Int), .slice A n c] 28) (.cells #[.int .i64 (k : Int), .int .u32 0, .int .i64 0, .int .i64 0, .bool false, .slice none 0 0] 25))
    refine bodyPost_ret (v := .tuple #[.agg #[.int .i64 0, .int .u32 0, .int .i64 0, .int .i64 0, .bool false, .slice none 0 0], .int .i64 31]) (by simp [results, Try.results15, go_sem, d0, d1, d2, d3, d4, d5]) rfl ?_
    rw [← HPO.out]
    exact ⟨miNone, rfl, rfl, ⟨UsOk.none _, TyU.nil _ _ _⟩, HBl.out _ _ _⟩
set_option maxHeartbeats 16000000 in
set_option maxRecDepth 100000 in
theorem rget_1 (A : Option Addr) (n c : Nat) (xs : List UInt8) (w : World) (hB : BodyAt w A c xs) (hn : xs.length = n) :
    Calls Try.prog 15 #[frIn 1 A n c] w (GetPost (if errG (1 : Int) xs = 0 then rM (1 : Int) ⟨xs, 0⟩ else msNone) (errG (1 : Int) xs) w) := by
  have RG0 := Lib.hid (rg3_start w A n c xs hB hn 1)
  have HErr : Hid (errG (1 : Int) xs = if doneS (rS6 (1 : Int) ⟨xs, 0⟩) ≠ 0 then doneS (rS6 (1 : Int) ⟨xs, 0⟩) else if (rM (1 : Int) ⟨xs, 0⟩).right = true then 0 else 2) := Lib.hid (by unfold errG; rw [if_neg (by omega)])
  have hfold := fold_parts (1 : Int) (by decide) (by decide) ⟨xs, 0⟩
  have hpl : partsL (1 : Int) = [0, 1, 2] := by simp [partsL]
  rw [hpl] at hfold
  simp only [List.foldl_cons, List.foldl_nil, stepP, Prod.mk.injEq] at hfold
  have HFold := Lib.hid hfold
  obtain ⟨X, hX⟩ : ∃ X, w.heap.size = X := ⟨_, rfl⟩
  have HX := Lib.hid hX
  obtain ⟨M, hM⟩ : ∃ M, X + 1 + 1 = M := ⟨_, rfl⟩
  have HMM := Lib.hid hM
  obtain ⟨B, hBB⟩ : ∃ B, M + 1 = B := ⟨_, rfl⟩
  have HBB := Lib.hid hBB
  rw [hX, hM, hBB] at RG0
  obtain ⟨s0, hs0⟩ : ∃ s : St, (⟨xs, 0⟩ : St) = s := ⟨_, rfl⟩
  obtain ⟨m0, hm0⟩ : ∃ m, startM (1 : Int) = m := ⟨_, rfl⟩
  have hk0 : m0.kind = 1 := by rw [← hm0]; rfl
  have hu0 : m0.us = [] := by rw [← hm0]; rfl
  have hcast : ((1 : Nat) : Int) = (1 : Int) := rfl
  rw [hcast, hm0, hs0] at RG0
  rw [hm0, hs0] at HFold
  have HS0 := Lib.hid hs0
  have HK0 := Lib.hid hk0
  have HU0 := Lib.hid hu0
  unfold frIn
  rw [hcast]
  obtain ⟨PO, hPO⟩ : ∃ PO, GetPost (if errG (1 : Int) xs = 0 then rM (1 : Int) ⟨xs, 0⟩ else msNone) (errG (1 : Int) xs) w = PO := ⟨_, rfl⟩
  rw [hPO]
  have HPO := Lib.hid hPO
  rw [hs0] at HErr HPO
  clear hB hn hX hM hBB hfold hpl hs0 hm0 hk0 hu0 hcast hPO
  go_enter Try.func15, Try.ntmps15
  go_wp2_with fail
  rw [HX.out, HMM.out, HBB.out]
  have RGa := Lib.hid (RG0.out (.cells #[.int .u8 1, .slice A n c] 28))
  generalize (((w.alloc (.cells #[.int .u8 1, .slice A n c] 28)).alloc (.cells #[.int .i64 0, .int .u32 0, .int .i64 0, .int .i64 0, .bool false, .slice none 0 0] 25)).alloc (.cells #[.int .i64 1, .int .u32 0, .int .i64 0, .int .i64 0, .bool false, .slice none 0 0] 25)).alloc (.cells #[.slice A n c, .int .i64 0] 79) = w0 at RGa ⊢
  clear RG0
  have S1 := Lib.hid (fNum_any _ B 4294967295 s0 (w0) RGa.out.rd (by decide))
  refine S1.out.mono ?_
  rintro e w1 hr
  obtain ⟨z, hz, zl, rfl⟩ := fnum_of hr
  have zi : (z : Int) < 4294967296 := by omega
  have hR := RGa.out.read hr
  have hst := hR.store (m2 := partM 0 s0 m0) (v2 := .slice none 0 0) 1 (.int .u32 (z : Int)) (by rw [hz]; rfl) hR.row
  have hk1 : (partM 0 s0 m0).kind = 1 := HK0.out
  have hu1 : (partM 0 s0 m0).us = [] := HU0.out
  obtain ⟨c0, c1, c2, c3, c4, c5⟩ := hR.cells
  rw [HK0.out] at c0
  have gf := hR.froz 1
  have hst2 : Rg3 w (X + 1) M B (partS 0 s0) (partM 0 s0 m0) (.slice none 0 0) (w1.setCell ⟨M, 1, none⟩ (.int .u32 (z : Int))) := hst
  obtain ⟨s1, hs1⟩ : ∃ s, partS 0 s0 = s := ⟨_, rfl⟩
  obtain ⟨m1, hm1⟩ : ∃ m, partM 0 s0 m0 = m := ⟨_, rfl⟩
  simp only [show (0 : Int).toNat = 0 from rfl] at HFold
  rw [hs1, hm1] at hst2
  rw [hm1] at hk1 hu1
  have HK1 := Lib.hid hk1
  have HU1 := Lib.hid hu1
  have HS1 := Lib.hid hs1
  have HM1 := Lib.hid hm1
  have RG1 := Lib.hid hst2
  clear hR hst hst2 hk1 hu1 hs1 hm1 hr hz
  go_wp2_with fail
  have S2 := Lib.hid (fNum_any _ B 255 s1 (w1.setCell ⟨M, 1, none⟩ (.int .u32 (z : Int))) RG1.out.rd (by decide))
  refine S2.out.mono ?_
  rintro e w2 hr
  obtain ⟨z, hz, zl, rfl⟩ := fnum_of hr
  have zi : (z : Int) < 256 := by omega
  have hR := RG1.out.read hr
  have hst := hR.store (m2 := partM 1 s1 m1) (v2 := .slice none 0 0) 2 (.int .i64 (z : Int)) (by rw [hz]; rfl) hR.row
  have hk2 : (partM 1 s1 m1).kind = 1 := HK1.out
  have hu2 : (partM 1 s1 m1).us = [] := HU1.out
  obtain ⟨c0, c1, c2, c3, c4, c5⟩ := hR.cells
  rw [HK1.out] at c0
  have gf := hR.froz 2
  have hst2 : Rg3 w (X + 1) M B (partS 1 s1) (partM 1 s1 m1) (.slice none 0 0) (w2.setCell ⟨M, 2, none⟩ (.int .i64 (z : Int))) := hst
  obtain ⟨s2, hs2⟩ : ∃ s, partS 1 s1 = s := ⟨_, rfl⟩
  obtain ⟨m2, hm2⟩ : ∃ m, partM 1 s1 m1 = m := ⟨_, rfl⟩
  simp only [show (1 : Int).toNat = 1 from rfl] at HFold
  rw [hs2, hm2] at hst2
  rw [hm2] at hk2 hu2
  have HK2 := Lib.hid hk2
  have HU2 := Lib.hid hu2
  have HS2 := Lib.hid hs2
  have HM2 := Lib.hid hm2
  have RG2 := Lib.hid hst2
  clear hR hst hst2 hk2 hu2 hs2 hm2 hr hz
  go_wp2_with fail
  have S3 := Lib.hid (fNum_any _ B 255 s2 (w2.setCell ⟨M, 2, none⟩ (.int .i64 (z : Int))) RG2.out.rd (by decide))
  refine S3.out.mono ?_
  rintro e w3 hr
  obtain ⟨z, hz, zl, rfl⟩ := fnum_of hr
  have zi : (z : Int) < 256 := by omega
  have hR := RG2.out.read hr
  have hst := hR.store (m2 := partM 2 s2 m2) (v2 := .slice none 0 0) 3 (.int .i64 (z : Int)) (by rw [hz]; rfl) hR.row
  have hk3 : (partM 2 s2 m2).kind = 1 := HK2.out
  have hu3 : (partM 2 s2 m2).us = [] := HU2.out
  obtain ⟨c0, c1, c2, c3, c4, c5⟩ := hR.cells
  rw [HK2.out] at c0
  have gf := hR.froz 3
  have hst2 : Rg3 w (X + 1) M B (partS 2 s2) (partM 2 s2 m2) (.slice none 0 0) (w3.setCell ⟨M, 3, none⟩ (.int .i64 (z : Int))) := hst
  obtain ⟨s3, hs3⟩ : ∃ s, partS 2 s2 = s := ⟨_, rfl⟩
  obtain ⟨m3, hm3⟩ : ∃ m, partM 2 s2 m2 = m := ⟨_, rfl⟩
  simp only [show (2 : Int).toNat = 2 from rfl] at HFold
  rw [hs3, hm3] at hst2
  rw [hm3] at hk3 hu3
  have HK3 := Lib.hid hk3
  have HU3 := Lib.hid hu3
  have HS3 := Lib.hid hs3
  have HM3 := Lib.hid hm3
  have RG3 := Lib.hid hst2
  clear hR hst hst2 hk3 hu3 hs3 hm3 hr hz
  have HFin : Hid (doneS (rS6 (1 : Int) s0) = doneS s3) := Lib.hid (by
    have h9 := HFold.out.1
    simp only [Int.toNat_zero, Int.toNat_one, show (2 : Int).toNat = 2 from rfl, HS1.out, HM1.out, HS2.out, HM2.out, HS3.out, HM3.out] at h9
    rw [h9])
  have HMf : Hid (rM (1 : Int) s0 = m3) := Lib.hid (by
    have h9 := HFold.out.2
    simp only [Int.toNat_zero, Int.toNat_one, show (2 : Int).toNat = 2 from rfl, HS1.out, HM1.out, HS2.out, HM2.out, HS3.out, HM3.out] at h9
    exact h9.symm)
  clear HFold
  have S9 := Lib.hid (fDone_any _ B s3 (w3.setCell ⟨M, 3, none⟩ (.int .i64 (z : Int))) RG3.out.rd)
  obtain ⟨E, hE⟩ : ∃ E, doneS s3 = E := ⟨_, rfl⟩
  rw [hE] at S9 HFin
  clear hE
  go_wp2_with fail
  refine S9.out.mono ?_
  rintro e w9 ⟨rfl, rfl⟩
  obtain ⟨q0, q1, q2, q3, q4, q5⟩ := blk6 RG3.out.out
  have g0 := blk_froz RG3.out.out 0
  have g1 := blk_froz RG3.out.out 1
  have g2 := blk_froz RG3.out.out 2
  have g3 := blk_froz RG3.out.out 3
  have g4 := blk_froz RG3.out.out 4
  have g5 := blk_froz RG3.out.out 5
  by_cases hE0 : E = 0
  · subst hE0
    obtain ⟨x, hxm, hv, hxu, hxn⟩ := RG3.out.mi
    have HXu := Lib.hid hxu
    have HXn := Lib.hid hxn
    have HXm := Lib.hid hxm
    have e0 : m3.kind = x.kind := by rw [← hxm]; rfl
    have e1 : m3.seq = x.seq := by rw [← hxm]; rfl
    have e2 : m3.src = x.src := by rw [← hxm]; rfl
    have e3 : m3.tgt = x.tgt := by rw [← hxm]; rfl
    have e4 : m3.rep = x.rep := by rw [← hxm]; rfl
    obtain ⟨n0, n1, n2, n3, n4, n5⟩ := RG3.out.cells
    rw [e0] at n0
    rw [e1] at n1
    rw [e2] at n2
    rw [e3] at n3
    rw [e4] at n4
    rw [hv] at n5
    have HEG : Hid (errG (1 : Int) xs = if (rM (1 : Int) s0).right = true then 0 else 2) := Lib.hid (by rw [HErr.out, HFin.out, if_neg (fun h => h rfl)])
    clear hxu hxn hxm hv e0 e1 e2 e3 e4
    cases hr : m3.right with
    | false =>
      have S2 := Lib.hid (rRight_any x _ HXu.out.1 false (by rw [HXm.out]; exact hr))
      have HP9 : Hid (PO = GetPost msNone 2 w) := Lib.hid (by rw [← HPO.out, HEG.out, HMf.out, hr]; simp)
      unfold miV at S2
      clear hr
      go_wp2_with fail
      refine S2.out.mono ?_
      rintro e w5 ⟨rfl, hb5⟩
      have R5 := Lib.hid (RG3.out.kept hb5)
      clear q0 q1 q2 q3 q4 q5 g0 g1 g2 g3 g4 g5 n0 n1 n2 n3 n4 n5 hb5
      obtain ⟨q0, q1, q2, q3, q4, q5⟩ := blk6 R5.out.out
      have g0 := blk_froz R5.out.out 0
      have g1 := blk_froz R5.out.out 1
      have g2 := blk_froz R5.out.out 2
      have g3 := blk_froz R5.out.out 3
      have g4 := blk_froz R5.out.out 4
      have g5 := blk_froz R5.out.out 5
      go_wp2
      obtain ⟨d0, d1, d2, d3, d4, d5⟩ := blk6 (set6_blk R5.out.out (.int .i64 0) (.int .u32 0) (.int .i64 0) (.int .i64 0) (.bool false) (.slice none 0 0))
      refine bodyPost_ret (v := .tuple #[.agg #[.int .i64 0, .int .u32 0, .int .i64 0, .int .i64 0, .bool false, .slice none 0 0], .int .i64 2]) (by simp [results, Try.results15, go_sem, d0, d1, d2, d3, d4, d5]) rfl ?_
      rw [HP9.out]
      exact get_fin (x := miNone) (E := 2) R5.out.below (by rw [HX.out]; exact Nat.le_succ X) ⟨UsOk.none _, TyU.nil _ _ _⟩ (fun b off e => by cases e) rfl _ _ _ _ _ _
    | true =>
      have S2 := Lib.hid (rRight_any x _ HXu.out.1 true (by rw [HXm.out]; exact hr))
      have HP9 : Hid (PO = GetPost m3 0 w) := Lib.hid (by rw [← HPO.out, HEG.out, HMf.out, hr]; simp)
      unfold miV at S2
      go_wp2_with fail
      refine S2.out.mono ?_
      rintro e w5 ⟨rfl, hb5⟩
      have R5 := Lib.hid (RG3.out.kept hb5)
      have HU5 : Hid (UsOk w5 x.us ∧ TyU w5 x.us) := Lib.hid ⟨HXu.out.1.below hb5, HXu.out.2.below hb5⟩
      have t0 := (hb5.cell (p := ⟨M, 0, none⟩) (bcell_lt n0)).trans n0
      have t1 := (hb5.cell (p := ⟨M, 1, none⟩) (bcell_lt n1)).trans n1
      have t2 := (hb5.cell (p := ⟨M, 2, none⟩) (bcell_lt n2)).trans n2
      have t3 := (hb5.cell (p := ⟨M, 3, none⟩) (bcell_lt n3)).trans n3
      have t4 := (hb5.cell (p := ⟨M, 4, none⟩) (bcell_lt n4)).trans n4
      have t5 := (hb5.cell (p := ⟨M, 5, none⟩) (bcell_lt n5)).trans n5
      clear q0 q1 q2 q3 q4 q5 g0 g1 g2 g3 g4 g5 n0 n1 n2 n3 n4 n5 hb5 hr
      obtain ⟨q0, q1, q2, q3, q4, q5⟩ := blk6 R5.out.out
      have g0 := blk_froz R5.out.out 0
      have g1 := blk_froz R5.out.out 1
      have g2 := blk_froz R5.out.out 2
      have g3 := blk_froz R5.out.out 3
      have g4 := blk_froz R5.out.out 4
      have g5 := blk_froz R5.out.out 5
      go_wp2
      clear t0 t1 t2 t3 t4 t5
      obtain ⟨d0, d1, d2, d3, d4, d5⟩ := blk6 (set6_blk R5.out.out (.int .i64 x.kind) (.int .u32 (x.seq : Int)) (.int .i64 x.src) (.int .i64 x.tgt) (.bool x.rep) (.slice x.us.A x.us.l.length x.us.c))
      refine bodyPost_ret (v := .tuple #[.agg #[.int .i64 x.kind, .int .u32 (x.seq : Int), .int .i64 x.src, .int .i64 x.tgt, .bool x.rep, .slice x.us.A x.us.l.length x.us.c], .int .i64 0]) (by simp [results, Try.results15, go_sem, d0, d1, d2, d3, d4, d5]) rfl ?_
      rw [HP9.out]
      exact get_fin (x := x) (E := 0) R5.out.below (by rw [HX.out]; exact Nat.le_succ X) HU5.out (fun b off e => by
        have h9 := HXn.out b off e
        have h10 := R5.out.far
        omega) HXm.out _ _ _ _ _ _
  · have E1 : ((E : Int) != 0) = true := by rw [bne_iff_ne]; omega
    have E2 : ((E : Int) == 0) = false := by rw [beq_eq_false_iff_ne]; omega
    have HEG : Hid (errG (1 : Int) xs = E) := Lib.hid (by rw [HErr.out, HFin.out, if_pos hE0])
    have HP9 : Hid (PO = GetPost msNone E w) := Lib.hid (by rw [← HPO.out, HEG.out, if_neg hE0])
    clear hE0
    go_wp2
    obtain ⟨d0, d1, d2, d3, d4, d5⟩ := blk6 (set6_blk RG3.out.out (.int .i64 0) (.int .u32 0) (.int .i64 0) (.int .i64 0) (.bool false) (.slice none 0 0))
    refine bodyPost_ret (v := .tuple #[.agg #[.int .i64 0, .int .u32 0, .int .i64 0, .int .i64 0, .bool false, .slice none 0 0], .int .i64 (E : Int)]) (by simp [results, Try.results15, go_sem, d0, d1, d2, d3, d4, d5]) rfl ?_
    rw [HP9.out]
    exact get_fin (x := miNone) RG3.out.below (by rw [HX.out]; exact Nat.le_succ X) ⟨UsOk.none _, TyU.nil _ _ _⟩ (fun b off e => by cases e) rfl _ _ _ _ _ _
set_option maxHeartbeats 16000000 in
set_option maxRecDepth 100000 in
theorem rget_2 (A : Option Addr) (n c : Nat) (xs : List UInt8) (w : World) (hB : BodyAt w A c xs) (hn : xs.length = n) :
    Calls Try.prog 15 #[frIn 2 A n c] w (GetPost (if errG (2 : Int) xs = 0 then rM (2 : Int) ⟨xs, 0⟩ else msNone) (errG (2 : Int) xs) w) := by
  have RG0 := Lib.hid (rg3_start w A n c xs hB hn 2)
  have HErr : Hid (errG (2 : Int) xs = if doneS (rS6 (2 : Int) ⟨xs, 0⟩) ≠ 0 then doneS (rS6 (2 : Int) ⟨xs, 0⟩) else if (rM (2 : Int) ⟨xs, 0⟩).right = true then 0 else 2) := Lib.hid (by unfold errG; rw [if_neg (by omega)])
  have hfold := fold_parts (2 : Int) (by decide) (by decide) ⟨xs, 0⟩
  have hpl : partsL (2 : Int) = [0, 1] := by simp [partsL]
  rw [hpl] at hfold
  simp only [List.foldl_cons, List.foldl_nil, stepP, Prod.mk.injEq] at hfold
  have HFold := Lib.hid hfold
  obtain ⟨X, hX⟩ : ∃ X, w.heap.size = X := ⟨_, rfl⟩
  have HX := Lib.hid hX
  obtain ⟨M, hM⟩ : ∃ M, X + 1 + 1 = M := ⟨_, rfl⟩
  have HMM := Lib.hid hM
  obtain ⟨B, hBB⟩ : ∃ B, M + 1 = B := ⟨_, rfl⟩
  have HBB := Lib.hid hBB
  rw [hX, hM, hBB] at RG0
  obtain ⟨s0, hs0⟩ : ∃ s : St, (⟨xs, 0⟩ : St) = s := ⟨_, rfl⟩
  obtain ⟨m0, hm0⟩ : ∃ m, startM (2 : Int) = m := ⟨_, rfl⟩
  have hk0 : m0.kind = 2 := by rw [← hm0]; rfl
  have hu0 : m0.us = [] := by rw [← hm0]; rfl
  have hcast : ((2 : Nat) : Int) = (2 : Int) := rfl
  rw [hcast, hm0, hs0] at RG0
  rw [hm0, hs0] at HFold
  have HS0 := Lib.hid hs0
  have HK0 := Lib.hid hk0
  have HU0 := Lib.hid hu0
  unfold frIn
  rw [hcast]
  obtain ⟨PO, hPO⟩ : ∃ PO, GetPost (if errG (2 : Int) xs = 0 then rM (2 : Int) ⟨xs, 0⟩ else msNone) (errG (2 : Int) xs) w = PO := ⟨_, rfl⟩
  rw [hPO]
  have HPO := Lib.hid hPO
  rw [hs0] at HErr HPO
  clear hB hn hX hM hBB hfold hpl hs0 hm0 hk0 hu0 hcast hPO
  go_enter Try.func15, Try.ntmps15
  go_wp2_with fail
  rw [HX.out, HMM.out, HBB.out]
  have RGa := Lib.hid (RG0.out (.cells #[.int .u8 2, .slice A n c] 28))
  generalize (((w.alloc (.cells #[.int .u8 2, .slice A n c] 28)).alloc (.cells #[.int .i64 0, .int .u32 0, .int .i64 0, .int .i64 0, .bool false, .slice none 0 0] 25)).alloc (.cells #[.int .i64 2, .int .u32 0, .int .i64 0, .int .i64 0, .bool false, .slice none 0 0] 25)).alloc (.cells #[.slice A n c, .int .i64 0] 79) = w0 at RGa ⊢
  clear RG0
  have S1 := Lib.hid (fNum_any _ B 4294967295 s0 (w0) RGa.out.rd (by decide))
  refine S1.out.mono ?_
  rintro e w1 hr
  obtain ⟨z, hz, zl, rfl⟩ := fnum_of hr
  have zi : (z : Int) < 4294967296 := by omega
  have hR := RGa.out.read hr
  have hst := hR.store (m2 := partM 0 s0 m0) (v2 := .slice none 0 0) 1 (.int .u32 (z : Int)) (by rw [hz]; rfl) hR.row
  have hk1 : (partM 0 s0 m0).kind = 2 := HK0.out
  have hu1 : (partM 0 s0 m0).us = [] := HU0.out
  obtain ⟨c0, c1, c2, c3, c4, c5⟩ := hR.cells
  rw [HK0.out] at c0
  have gf := hR.froz 1
  have hst2 : Rg3 w (X + 1) M B (partS 0 s0) (partM 0 s0 m0) (.slice none 0 0) (w1.setCell ⟨M, 1, none⟩ (.int .u32 (z : Int))) := hst
  obtain ⟨s1, hs1⟩ : ∃ s, partS 0 s0 = s := ⟨_, rfl⟩
  obtain ⟨m1, hm1⟩ : ∃ m, partM 0 s0 m0 = m := ⟨_, rfl⟩
  simp only [show (0 : Int).toNat = 0 from rfl] at HFold
  rw [hs1, hm1] at hst2
  rw [hm1] at hk1 hu1
  have HK1 := Lib.hid hk1
  have HU1 := Lib.hid hu1
  have HS1 := Lib.hid hs1
  have HM1 := Lib.hid hm1
  have RG1 := Lib.hid hst2
  clear hR hst hst2 hk1 hu1 hs1 hm1 hr hz
  go_wp2_with fail
  have S2 := Lib.hid (fNum_any _ B 255 s1 (w1.setCell ⟨M, 1, none⟩ (.int .u32 (z : Int))) RG1.out.rd (by decide))
  refine S2.out.mono ?_
  rintro e w2 hr
  obtain ⟨z, hz, zl, rfl⟩ := fnum_of hr
  have zi : (z : Int) < 256 := by omega
  have hR := RG1.out.read hr
  have hst := hR.store (m2 := partM 1 s1 m1) (v2 := .slice none 0 0) 2 (.int .i64 (z : Int)) (by rw [hz]; rfl) hR.row
  have hk2 : (partM 1 s1 m1).kind = 2 := HK1.out
  have hu2 : (partM 1 s1 m1).us = [] := HU1.out
  obtain ⟨c0, c1, c2, c3, c4, c5⟩ := hR.cells
  rw [HK1.out] at c0
  have gf := hR.froz 2
  have hst2 : Rg3 w (X + 1) M B (partS 1 s1) (partM 1 s1 m1) (.slice none 0 0) (w2.setCell ⟨M, 2, none⟩ (.int .i64 (z : Int))) := hst
  obtain ⟨s2, hs2⟩ : ∃ s, partS 1 s1 = s := ⟨_, rfl⟩
  obtain ⟨m2, hm2⟩ : ∃ m, partM 1 s1 m1 = m := ⟨_, rfl⟩
  simp only [show (1 : Int).toNat = 1 from rfl] at HFold
  rw [hs2, hm2] at hst2
  rw [hm2] at hk2 hu2
  have HK2 := Lib.hid hk2
  have HU2 := Lib.hid hu2
  have HS2 := Lib.hid hs2
  have HM2 := Lib.hid hm2
  have RG2 := Lib.hid hst2
  clear hR hst hst2 hk2 hu2 hs2 hm2 hr hz
  have HFin : Hid (doneS (rS6 (2 : Int) s0) = doneS s2) := Lib.hid (by
    have h9 := HFold.out.1
    simp only [Int.toNat_zero, Int.toNat_one, show (2 : Int).toNat = 2 from rfl, HS1.out, HM1.out, HS2.out, HM2.out] at h9
    rw [h9])
  have HMf : Hid (rM (2 : Int) s0 = m2) := Lib.hid (by
    have h9 := HFold.out.2
    simp only [Int.toNat_zero, Int.toNat_one, show (2 : Int).toNat = 2 from rfl, HS1.out, HM1.out, HS2.out, HM2.out] at h9
    exact h9.symm)
  clear HFold
  have S9 := Lib.hid (fDone_any _ B s2 (w2.setCell ⟨M, 2, none⟩ (.int .i64 (z : Int))) RG2.out.rd)
  obtain ⟨E, hE⟩ : ∃ E, doneS s2 = E := ⟨_, rfl⟩
  rw [hE] at S9 HFin
  clear hE
  go_wp2_with fail
  refine S9.out.mono ?_
  rintro e w9 ⟨rfl, rfl⟩
  obtain ⟨q0, q1, q2, q3, q4, q5⟩ := blk6 RG2.out.out
  have g0 := blk_froz RG2.out.out 0
  have g1 := blk_froz RG2.out.out 1
  have g2 := blk_froz RG2.out.out 2
  have g3 := blk_froz RG2.out.out 3
  have g4 := blk_froz RG2.out.out 4
  have g5 := blk_froz RG2.out.out 5
  by_cases hE0 : E = 0
  · subst hE0
    obtain ⟨x, hxm, hv, hxu, hxn⟩ := RG2.out.mi
    have HXu := Lib.hid hxu
    have HXn := Lib.hid hxn
    have HXm := Lib.hid hxm
    have e0 : m2.kind = x.kind := by rw [← hxm]; rfl
    have e1 : m2.seq = x.seq := by rw [← hxm]; rfl
    have e2 : m2.src = x.src := by rw [← hxm]; rfl
    have e3 : m2.tgt = x.tgt := by rw [← hxm]; rfl
    have e4 : m2.rep = x.rep := by rw [← hxm]; rfl
    obtain ⟨n0, n1, n2, n3, n4, n5⟩ := RG2.out.cells
    rw [e0] at n0
    rw [e1] at n1
    rw [e2] at n2
    rw [e3] at n3
    rw [e4] at n4
    rw [hv] at n5
    have HEG : Hid (errG (2 : Int) xs = if (rM (2 : Int) s0).right = true then 0 else 2) := Lib.hid (by rw [HErr.out, HFin.out, if_neg (fun h => h rfl)])
    clear hxu hxn hxm hv e0 e1 e2 e3 e4
    cases hr : m2.right with
    | false =>
      have S2 := Lib.hid (rRight_any x _ HXu.out.1 false (by rw [HXm.out]; exact hr))
      have HP9 : Hid (PO = GetPost msNone 2 w) := Lib.hid (by rw [← HPO.out, HEG.out, HMf.out, hr]; simp)
      unfold miV at S2
      clear hr
      go_wp2_with fail
      refine S2.out.mono ?_
      rintro e w5 ⟨rfl, hb5⟩
      have R5 := Lib.hid (RG2.out.kept hb5)
      clear q0 q1 q2 q3 q4 q5 g0 g1 g2 g3 g4 g5 n0 n1 n2 n3 n4 n5 hb5
      obtain ⟨q0, q1, q2, q3, q4, q5⟩ := blk6 R5.out.out
      have g0 := blk_froz R5.out.out 0
      have g1 := blk_froz R5.out.out 1
      have g2 := blk_froz R5.out.out 2
      have g3 := blk_froz R5.out.out 3
      have g4 := blk_froz R5.out.out 4
      have g5 := blk_froz R5.out.out 5
      go_wp2
      obtain ⟨d0, d1, d2, d3, d4, d5⟩ := blk6 (set6_blk R5.out.out (.int .i64 0) (.int .u32 0) (.int .i64 0) (.int .i64 0) (.bool false) (.slice none 0 0))
      refine bodyPost_ret (v := .tuple #[.agg #[.int .i64 0, .int .u32 0, .int .i64 0, .int .i64 0, .bool false, .slice none 0 0], .int .i64 2]) (by simp [results, Try.results15, go_sem, d0, d1, d2, d3, d4, d5]) rfl ?_
      rw [HP9.out]
      exact get_fin (x := miNone) (E := 2) R5.out.below (by rw [HX.out]; exact Nat.le_succ X) ⟨UsOk.none _, TyU.nil _ _ _⟩ (fun b off e => by cases e) rfl _ _ _ _ _ _
    | true =>
      have S2 := Lib.hid (rRight_any x _ HXu.out.1 true (by rw [HXm.out]; exact hr))
      have HP9 : Hid (PO = GetPost m2 0 w) := Lib.hid (by rw [← HPO.out, HEG.out, HMf.out, hr]; simp)
      unfold miV at S2
      go_wp2_with fail
      refine S2.out.mono ?_
      rintro e w5 ⟨rfl, hb5⟩
      have R5 := Lib.hid (RG2.out.kept hb5)
      have HU5 : Hid (UsOk w5 x.us ∧ TyU w5 x.us) := Lib.hid ⟨HXu.out.1.below hb5, HXu.out.2.below hb5⟩
      have t0 := (hb5.cell (p := ⟨M, 0, none⟩) (bcell_lt n0)).trans n0
      have t1 := (hb5.cell (p := ⟨M, 1, none⟩) (bcell_lt n1)).trans n1
      have t2 := (hb5.cell (p := ⟨M, 2, none⟩) (bcell_lt n2)).trans n2
      have t3 := (hb5.cell (p := ⟨M, 3, none⟩) (bcell_lt n3)).trans n3
      have t4 := (hb5.cell (p := ⟨M, 4, none⟩) (bcell_lt n4)).trans n4
      have t5 := (hb5.cell (p := ⟨M, 5, none⟩) (bcell_lt n5)).trans n5
      clear q0 q1 q2 q3 q4 q5 g0 g1 g2 g3 g4 g5 n0 n1 n2 n3 n4 n5 hb5 hr
      obtain ⟨q0, q1, q2, q3, q4, q5⟩ := blk6 R5.out.out
      have g0 := blk_froz R5.out.out 0
      have g1 := blk_froz R5.out.out 1
      have g2 := blk_froz R5.out.out 2
      have g3 := blk_froz R5.out.out 3
      have g4 := blk_froz R5.out.out 4
      have g5 := blk_froz R5.out.out 5
      go_wp2
      clear t0 t1 t2 t3 t4 t5
      obtain ⟨d0, d1, d2, d3, d4, d5⟩ := blk6 (set6_blk R5.out.out (.int .i64 x.kind) (.int .u32 (x.seq : Int)) (.int .i64 x.src) (.int .i64 x.tgt) (.bool x.rep) (.slice x.us.A x.us.l.length x.us.c))
      refine bodyPost_ret (v := .tuple #[.agg #[.int .i64 x.kind, .int .u32 (x.seq : Int), .int .i64 x.src, .int .i64 x.tgt, .bool x.rep, .slice x.us.A x.us.l.length x.us.c], .int .i64 0]) (by simp [results, Try.results15, go_sem, d0, d1, d2, d3, d4, d5]) rfl ?_
      rw [HP9.out]
      exact get_fin (x := x) (E := 0) R5.out.below (by rw [HX.out]; exact Nat.le_succ X) HU5.out (fun b off e => by
        have h9 := HXn.out b off e
        have h10 := R5.out.far
        omega) HXm.out _ _ _ _ _ _
  · have E1 : ((E : Int) != 0) = true := by rw [bne_iff_ne]; omega
    have E2 : ((E : Int) == 0) = false := by rw [beq_eq_false_iff_ne]; omega
    have HEG : Hid (errG (2 : Int) xs = E) := Lib.hid (by rw [HErr.out, HFin.out, if_pos hE0])
    have HP9 : Hid (PO = GetPost msNone E w) := Lib.hid (by rw [← HPO.out, HEG.out, if_neg hE0])
    clear hE0
    go_wp2
    obtain ⟨d0, d1, d2, d3, d4, d5⟩ := blk6 (set6_blk RG2.out.out (.int .i64 0) (.int .u32 0) (.int .i64 0) (.int .i64 0) (.bool false) (.slice none 0 0))
    refine bodyPost_ret (v := .tuple #[.agg #[.int .i64 0, .int .u32 0, .int .i64 0, .int .i64 0, .bool false, .slice none 0 0], .int .i64 (E : Int)]) (by simp [results, Try.results15, go_sem, d0, d1, d2, d3, d4, d5]) rfl ?_
    rw [HP9.out]
    exact get_fin (x := miNone) RG2.out.below (by rw [HX.out]; exact Nat.le_succ X) ⟨UsOk.none _, TyU.nil _ _ _⟩ (fun b off e => by cases e) rfl _ _ _ _ _ _
set_option maxHeartbeats 16000000 in
set_option maxRecDepth 100000 in
theorem rget_3 (A : Option Addr) (n c : Nat) (xs : List UInt8) (w : World) (hB : BodyAt w A c xs) (hn : xs.length = n) :
    Calls Try.prog 15 #[frIn 3 A n c] w (GetPost (if errG (3 : Int) xs = 0 then rM (3 : Int) ⟨xs, 0⟩ else msNone) (errG (3 : Int) xs) w) := by
  have RG0 := Lib.hid (rg3_start w A n c xs hB hn 3)
  have HErr : Hid (errG (3 : Int) xs = if doneS (rS6 (3 : Int) ⟨xs, 0⟩) ≠ 0 then doneS (rS6 (3 : Int) ⟨xs, 0⟩) else if (rM (3 : Int) ⟨xs, 0⟩).right = true then 0 else 2) := Lib.hid (by unfold errG; rw [if_neg (by omega)])
  have hfold := fold_parts (3 : Int) (by decide) (by decide) ⟨xs, 0⟩
  have hpl : partsL (3 : Int) = [0, 1, 2] := by simp [partsL]
  rw [hpl] at hfold
  simp only [List.foldl_cons, List.foldl_nil, stepP, Prod.mk.injEq] at hfold
  have HFold := Lib.hid hfold
  obtain ⟨X, hX⟩ : ∃ X, w.heap.size = X := ⟨_, rfl⟩
  have HX := Lib.hid hX
  obtain ⟨M, hM⟩ : ∃ M, X + 1 + 1 = M := ⟨_, rfl⟩
  have HMM := Lib.hid hM
  obtain ⟨B, hBB⟩ : ∃ B, M + 1 = B := ⟨_, rfl⟩
  have HBB := Lib.hid hBB
  rw [hX, hM, hBB] at RG0
  obtain ⟨s0, hs0⟩ : ∃ s : St, (⟨xs, 0⟩ : St) = s := ⟨_, rfl⟩
  obtain ⟨m0, hm0⟩ : ∃ m, startM (3 : Int) = m := ⟨_, rfl⟩
  have hk0 : m0.kind = 3 := by rw [← hm0]; rfl
  have hu0 : m0.us = [] := by rw [← hm0]; rfl
  have hcast : ((3 : Nat) : Int) = (3 : Int) := rfl
  rw [hcast, hm0, hs0] at RG0
  rw [hm0, hs0] at HFold
  have HS0 := Lib.hid hs0
  have HK0 := Lib.hid hk0
  have HU0 := Lib.hid hu0
  unfold frIn
  rw [hcast]
  obtain ⟨PO, hPO⟩ : ∃ PO, GetPost (if errG (3 : Int) xs = 0 then rM (3 : Int) ⟨xs, 0⟩ else msNone) (errG (3 : Int) xs) w = PO := ⟨_, rfl⟩
  rw [hPO]
  have HPO := Lib.hid hPO
  rw [hs0] at HErr HPO
  clear hB hn hX hM hBB hfold hpl hs0 hm0 hk0 hu0 hcast hPO
  go_enter Try.func15, Try.ntmps15
  go_wp2_with fail
  rw [HX.out, HMM.out, HBB.out]
  have RGa := Lib.hid (RG0.out (.cells #[.int .u8 3, .slice A n c] 28))
  generalize (((w.alloc (.cells #[.int .u8 3, .slice A n c] 28)).alloc (.cells #[.int .i64 0, .int .u32 0, .int .i64 0, .int .i64 0, .bool false, .slice none 0 0] 25)).alloc (.cells #[.int .i64 3, .int .u32 0, .int .i64 0, .int .i64 0, .bool false, .slice none 0 0] 25)).alloc (.cells #[.slice A n c, .int .i64 0] 79) = w0 at RGa ⊢
  clear RG0
  have S1 := Lib.hid (fNum_any _ B 4294967295 s0 (w0) RGa.out.rd (by decide))
  refine S1.out.mono ?_
  rintro e w1 hr
  obtain ⟨z, hz, zl, rfl⟩ := fnum_of hr
  have zi : (z : Int) < 4294967296 := by omega
  have hR := RGa.out.read hr
  have hst := hR.store (m2 := partM 0 s0 m0) (v2 := .slice none 0 0) 1 (.int .u32 (z : Int)) (by rw [hz]; rfl) hR.row
  have hk1 : (partM 0 s0 m0).kind = 3 := HK0.out
  have hu1 : (partM 0 s0 m0).us = [] := HU0.out
  obtain ⟨c0, c1, c2, c3, c4, c5⟩ := hR.cells
  rw [HK0.out] at c0
  have gf := hR.froz 1
  have hst2 : Rg3 w (X + 1) M B (partS 0 s0) (partM 0 s0 m0) (.slice none 0 0) (w1.setCell ⟨M, 1, none⟩ (.int .u32 (z : Int))) := hst
  obtain ⟨s1, hs1⟩ : ∃ s, partS 0 s0 = s := ⟨_, rfl⟩
  obtain ⟨m1, hm1⟩ : ∃ m, partM 0 s0 m0 = m := ⟨_, rfl⟩
  simp only [show (0 : Int).toNat = 0 from rfl] at HFold
  rw [hs1, hm1] at hst2
  rw [hm1] at hk1 hu1
  have HK1 := Lib.hid hk1
  have HU1 := Lib.hid hu1
  have HS1 := Lib.hid hs1
  have HM1 := Lib.hid hm1
  have RG1 := Lib.hid hst2
  clear hR hst hst2 hk1 hu1 hs1 hm1 hr hz
  go_wp2_with fail
  have S2 := Lib.hid (fNum_any _ B 255 s1 (w1.setCell ⟨M, 1, none⟩ (.int .u32 (z : Int))) RG1.out.rd (by decide))
  refine S2.out.mono ?_
  rintro e w2 hr
  obtain ⟨z, hz, zl, rfl⟩ := fnum_of hr
  have zi : (z : Int) < 256 := by omega
  have hR := RG1.out.read hr
  have hst := hR.store (m2 := partM 1 s1 m1) (v2 := .slice none 0 0) 2 (.int .i64 (z : Int)) (by rw [hz]; rfl) hR.row
  have hk2 : (partM 1 s1 m1).kind = 3 := HK1.out
  have hu2 : (partM 1 s1 m1).us = [] := HU1.out
  obtain ⟨c0, c1, c2, c3, c4, c5⟩ := hR.cells
  rw [HK1.out] at c0
  have gf := hR.froz 2
  have hst2 : Rg3 w (X + 1) M B (partS 1 s1) (partM 1 s1 m1) (.slice none 0 0) (w2.setCell ⟨M, 2, none⟩ (.int .i64 (z : Int))) := hst
  obtain ⟨s2, hs2⟩ : ∃ s, partS 1 s1 = s := ⟨_, rfl⟩
  obtain ⟨m2, hm2⟩ : ∃ m, partM 1 s1 m1 = m := ⟨_, rfl⟩
  simp only [show (1 : Int).toNat = 1 from rfl] at HFold
  rw [hs2, hm2] at hst2
  rw [hm2] at hk2 hu2
  have HK2 := Lib.hid hk2
  have HU2 := Lib.hid hu2
  have HS2 := Lib.hid hs2
  have HM2 := Lib.hid hm2
  have RG2 := Lib.hid hst2
  clear hR hst hst2 hk2 hu2 hs2 hm2 hr hz
  go_wp2_with fail
  have S3 := Lib.hid (fNum_any _ B 255 s2 (w2.setCell ⟨M, 2, none⟩ (.int .i64 (z : Int))) RG2.out.rd (by decide))
  refine S3.out.mono ?_
  rintro e w3 hr
  obtain ⟨z, hz, zl, rfl⟩ := fnum_of hr
  have zi : (z : Int) < 256 := by omega
  have hR := RG2.out.read hr
  have hst := hR.store (m2 := partM 2 s2 m2) (v2 := .slice none 0 0) 3 (.int .i64 (z : Int)) (by rw [hz]; rfl) hR.row
  have hk3 : (partM 2 s2 m2).kind = 3 := HK2.out
  have hu3 : (partM 2 s2 m2).us = [] := HU2.out
  obtain ⟨c0, c1, c2, c3, c4, c5⟩ := hR.cells
  rw [HK2.out] at c0
  have gf := hR.froz 3
  have hst2 : Rg3 w (X + 1) M B (partS 2 s2) (partM 2 s2 m2) (.slice none 0 0) (w3.setCell ⟨M, 3, none⟩ (.int .i64 (z : Int))) := hst
  obtain ⟨s3, hs3⟩ : ∃ s, partS 2 s2 = s := ⟨_, rfl⟩
  obtain ⟨m3, hm3⟩ : ∃ m, partM 2 s2 m2 = m := ⟨_, rfl⟩
  simp only [show (2 : Int).toNat = 2 from rfl] at HFold
  rw [hs3, hm3] at hst2
  rw [hm3] at hk3 hu3
  have HK3 := Lib.hid hk3
  have HU3 := Lib.hid hu3
  have HS3 := Lib.hid hs3
  have HM3 := Lib.hid hm3
  have RG3 := Lib.hid hst2
  clear hR hst hst2 hk3 hu3 hs3 hm3 hr hz
  have HFin : Hid (doneS (rS6 (3 : Int) s0) = doneS s3) := Lib.hid (by
    have h9 := HFold.out.1
    simp only [Int.toNat_zero, Int.toNat_one, show (2 : Int).toNat = 2 from rfl, HS1.out, HM1.out, HS2.out, HM2.out, HS3.out, HM3.out] at h9
    rw [h9])
  have HMf : Hid (rM (3 : Int) s0 = m3) := Lib.hid (by
    have h9 := HFold.out.2
    simp only [Int.toNat_zero, Int.toNat_one, show (2 : Int).toNat = 2 from rfl, HS1.out, HM1.out, HS2.out, HM2.out, HS3.out, HM3.out] at h9
    exact h9.symm)
  clear HFold
  have S9 := Lib.hid (fDone_any _ B s3 (w3.setCell ⟨M, 3, none⟩ (.int .i64 (z : Int))) RG3.out.rd)
  obtain ⟨E, hE⟩ : ∃ E, doneS s3 = E := ⟨_, rfl⟩
  rw [hE] at S9 HFin
  clear hE
  go_wp2_with fail
  refine S9.out.mono ?_
  rintro e w9 ⟨rfl, rfl⟩
  obtain ⟨q0, q1, q2, q3, q4, q5⟩ := blk6 RG3.out.out
  have g0 := blk_froz RG3.out.out 0
  have g1 := blk_froz RG3.out.out 1
  have g2 := blk_froz RG3.out.out 2
  have g3 := blk_froz RG3.out.out 3
  have g4 := blk_froz RG3.out.out 4
  have g5 := blk_froz RG3.out.out 5
  by_cases hE0 : E = 0
  · subst hE0
    obtain ⟨x, hxm, hv, hxu, hxn⟩ := RG3.out.mi
    have HXu := Lib.hid hxu
    have HXn := Lib.hid hxn
    have HXm := Lib.hid hxm
    have e0 : m3.kind = x.kind := by rw [← hxm]; rfl
    have e1 : m3.seq = x.seq := by rw [← hxm]; rfl
    have e2 : m3.src = x.src := by rw [← hxm]; rfl
    have e3 : m3.tgt = x.tgt := by rw [← hxm]; rfl
    have e4 : m3.rep = x.rep := by rw [← hxm]; rfl
    obtain ⟨n0, n1, n2, n3, n4, n5⟩ := RG3.out.cells
    rw [e0] at n0
    rw [e1] at n1
    rw [e2] at n2
    rw [e3] at n3
    rw [e4] at n4
    rw [hv] at n5
    have HEG : Hid (errG (3 : Int) xs = if (rM (3 : Int) s0).right = true then 0 else 2) := Lib.hid (by rw [HErr.out, HFin.out, if_neg (fun h => h rfl)])
    clear hxu hxn hxm hv e0 e1 e2 e3 e4
    cases hr : m3.right with
    | false =>
      have S2 := Lib.hid (rRight_any x _ HXu.out.1 false (by rw [HXm.out]; exact hr))
      have HP9 : Hid (PO = GetPost msNone 2 w) := Lib.hid (by rw [← HPO.out, HEG.out, HMf.out, hr]; simp)
      unfold miV at S2
      clear hr
      go_wp2_with fail
      refine S2.out.mono ?_
      rintro e w5 ⟨rfl, hb5⟩
      have R5 := Lib.hid (RG3.out.kept hb5)
      clear q0 q1 q2 q3 q4 q5 g0 g1 g2 g3 g4 g5 n0 n1 n2 n3 n4 n5 hb5
      obtain ⟨q0, q1, q2, q3, q4, q5⟩ := blk6 R5.out.out
      have g0 := blk_froz R5.out.out 0
      have g1 := blk_froz R5.out.out 1
      have g2 := blk_froz R5.out.out 2
      have g3 := blk_froz R5.out.out 3
      have g4 := blk_froz R5.out.out 4
      have g5 := blk_froz R5.out.out 5
      go_wp2
      obtain ⟨d0, d1, d2, d3, d4, d5⟩ := blk6 (set6_blk R5.out.out (.int .i64 0) (.int .u32 0) (.int .i64 0) (.int .i64 0) (.bool false) (.slice none 0 0))
      refine bodyPost_ret (v := .tuple #[.agg #[.int .i64 0, .int .u32 0, .int .i64 0, .int .i64 0, .bool false, .slice none 0 0], .int .i64 2]) (by simp [results, Try.results15, go_sem, d0, d1, d2, d3, d4, d5]) rfl ?_
      rw [HP9.out]
      exact get_fin (x := miNone) (E := 2) R5.out.below (by rw [HX.out]; exact Nat.le_succ X) ⟨UsOk.none _, TyU.nil _ _ _⟩ (fun b off e => by cases e) rfl _ _ _ _ _ _
    | true =>
      have S2 := Lib.hid (rRight_any x _ HXu.out.1 true (by rw [HXm.out]; exact hr))
      have HP9 : Hid (PO = GetPost m3 0 w) := Lib.hid (by rw [← HPO.out, HEG.out, HMf.out, hr]; simp)
      unfold miV at S2
      go_wp2_with fail
      refine S2.out.mono ?_
      rintro e w5 ⟨rfl, hb5⟩
      have R5 := Lib.hid (RG3.out.kept hb5)
      have HU5 : Hid (UsOk w5 x.us ∧ TyU w5 x.us) := Lib.hid ⟨HXu.out.1.below hb5, HXu.out.2.below hb5⟩
      have t0 := (hb5.cell (p := ⟨M, 0, none⟩) (bcell_lt n0)).trans n0
      have t1 := (hb5.cell (p := ⟨M, 1, none⟩) (bcell_lt n1)).trans n1
      have t2 := (hb5.cell (p := ⟨M, 2, none⟩) (bcell_lt n2)).trans n2
      have t3 := (hb5.cell (p := ⟨M, 3, none⟩) (bcell_lt n3)).trans n3
      have t4 := (hb5.cell (p := ⟨M, 4, none⟩) (bcell_lt n4)).trans n4
      have t5 := (hb5.cell (p := ⟨M, 5, none⟩) (bcell_lt n5)).trans n5
      clear q0 q1 q2 q3 q4 q5 g0 g1 g2 g3 g4 g5 n0 n1 n2 n3 n4 n5 hb5 hr
      obtain ⟨q0, q1, q2, q3, q4, q5⟩ := blk6 R5.out.out
      have g0 := blk_froz R5.out.out 0
      have g1 := blk_froz R5.out.out 1
      have g2 := blk_froz R5.out.out 2
      have g3 := blk_froz R5.out.out 3
      have g4 := blk_froz R5.out.out 4
      have g5 := blk_froz R5.out.out 5
      go_wp2
      clear t0 t1 t2 t3 t4 t5
      obtain ⟨d0, d1, d2, d3, d4, d5⟩ := blk6 (set6_blk R5.out.out (.int .i64 x.kind) (.int .u32 (x.seq : Int)) (.int .i64 x.src) (.int .i64 x.tgt) (.bool x.rep) (.slice x.us.A x.us.l.length x.us.c))
      refine bodyPost_ret (v := .tuple #[.agg #[.int .i64 x.kind, .int .u32 (x.seq : Int), .int .i64 x.src, .int .i64 x.tgt, .bool x.rep, .slice x.us.A x.us.l.length x.us.c], .int .i64 0]) (by simp [results, Try.results15, go_sem, d0, d1, d2, d3, d4, d5]) rfl ?_
      rw [HP9.out]
      exact get_fin (x := x) (E := 0) R5.out.below (by rw [HX.out]; exact Nat.le_succ X) HU5.out (fun b off e => by
        have h9 := HXn.out b off e
        have h10 := R5.out.far
        omega) HXm.out _ _ _ _ _ _
  · have E1 : ((E : Int) != 0) = true := by rw [bne_iff_ne]; omega
    have E2 : ((E : Int) == 0) = false := by rw [beq_eq_false_iff_ne]; omega
    have HEG : Hid (errG (3 : Int) xs = E) := Lib.hid (by rw [HErr.out, HFin.out, if_pos hE0])
    have HP9 : Hid (PO = GetPost msNone E w) := Lib.hid (by rw [← HPO.out, HEG.out, if_neg hE0])
    clear hE0
    go_wp2
    obtain ⟨d0, d1, d2, d3, d4, d5⟩ := blk6 (set6_blk RG3.out.out (.int .i64 0) (.int .u32 0) (.int .i64 0) (.int .i64 0) (.bool false) (.slice none 0 0))
    refine bodyPost_ret (v := .tuple #[.agg #[.int .i64 0, .int .u32 0, .int .i64 0, .int .i64 0, .bool false, .slice none 0 0], .int .i64 (E : Int)]) (by simp [results, Try.results15, go_sem, d0, d1, d2, d3, d4, d5]) rfl ?_
    rw [HP9.out]
    exact get_fin (x := miNone) RG3.out.below (by rw [HX.out]; exact Nat.le_succ X) ⟨UsOk.none _, TyU.nil _ _ _⟩ (fun b off e => by cases e) rfl _ _ _ _ _ _
set_option maxHeartbeats 16000000 in
set_option maxRecDepth 100000 in
theorem rget_4 (A : Option Addr) (n c : Nat) (xs : List UInt8) (w : World) (hB : BodyAt w A c xs) (hn : xs.length = n) :
    Calls Try.prog 15 #[frIn 4 A n c] w (GetPost (if errG (4 : Int) xs = 0 then rM (4 : Int) ⟨xs, 0⟩ else msNone) (errG (4 : Int) xs) w) := by
  have RG0 := Lib.hid (rg3_start w A n c xs hB hn 4)
  have HErr : Hid (errG (4 : Int) xs = if doneS (rS6 (4 : Int) ⟨xs, 0⟩) ≠ 0 then doneS (rS6 (4 : Int) ⟨xs, 0⟩) else if (rM (4 : Int) ⟨xs, 0⟩).right = true then 0 else 2) := Lib.hid (by unfold errG; rw [if_neg (by omega)])
  have hfold := fold_parts (4 : Int) (by decide) (by decide) ⟨xs, 0⟩
  have hpl : partsL (4 : Int) = [0, 1] := by simp [partsL]
  rw [hpl] at hfold
  simp only [List.foldl_cons, List.foldl_nil, stepP, Prod.mk.injEq] at hfold
  have HFold := Lib.hid hfold
  obtain ⟨X, hX⟩ : ∃ X, w.heap.size = X := ⟨_, rfl⟩
  have HX := Lib.hid hX
  obtain ⟨M, hM⟩ : ∃ M, X + 1 + 1 = M := ⟨_, rfl⟩
  have HMM := Lib.hid hM
  obtain ⟨B, hBB⟩ : ∃ B, M + 1 = B := ⟨_, rfl⟩
  have HBB := Lib.hid hBB
  rw [hX, hM, hBB] at RG0
  obtain ⟨s0, hs0⟩ : ∃ s : St, (⟨xs, 0⟩ : St) = s := ⟨_, rfl⟩
  obtain ⟨m0, hm0⟩ : ∃ m, startM (4 : Int) = m := ⟨_, rfl⟩
  have hk0 : m0.kind = 4 := by rw [← hm0]; rfl
  have hu0 : m0.us = [] := by rw [← hm0]; rfl
  have hcast : ((4 : Nat) : Int) = (4 : Int) := rfl
  rw [hcast, hm0, hs0] at RG0
  rw [hm0, hs0] at HFold
  have HS0 := Lib.hid hs0
  have HK0 := Lib.hid hk0
  have HU0 := Lib.hid hu0
  unfold frIn
  rw [hcast]
  obtain ⟨PO, hPO⟩ : ∃ PO, GetPost (if errG (4 : Int) xs = 0 then rM (4 : Int) ⟨xs, 0⟩ else msNone) (errG (4 : Int) xs) w = PO := ⟨_, rfl⟩
  rw [hPO]
  have HPO := Lib.hid hPO
  rw [hs0] at HErr HPO
  clear hB hn hX hM hBB hfold hpl hs0 hm0 hk0 hu0 hcast hPO
  go_enter Try.func15, Try.ntmps15
  go_wp2_with fail
  rw [HX.out, HMM.out, HBB.out]
  have RGa := Lib.hid (RG0.out (.cells #[.int .u8 4, .slice A n c] 28))
  generalize (((w.alloc (.cells #[.int .u8 4, .slice A n c] 28)).alloc (.cells #[.int .i64 0, .int .u32 0, .int .i64 0, .int .i64 0, .bool false, .slice none 0 0] 25)).alloc (.cells #[.int .i64 4, .int .u32 0, .int .i64 0, .int .i64 0, .bool false, .slice none 0 0] 25)).alloc (.cells #[.slice A n c, .int .i64 0] 79) = w0 at RGa ⊢
  clear RG0
  have S1 := Lib.hid (fNum_any _ B 4294967295 s0 (w0) RGa.out.rd (by decide))
  refine S1.out.mono ?_
  rintro e w1 hr
  obtain ⟨z, hz, zl, rfl⟩ := fnum_of hr
  have zi : (z : Int) < 4294967296 := by omega
  have hR := RGa.out.read hr
  have hst := hR.store (m2 := partM 0 s0 m0) (v2 := .slice none 0 0) 1 (.int .u32 (z : Int)) (by rw [hz]; rfl) hR.row
  have hk1 : (partM 0 s0 m0).kind = 4 := HK0.out
  have hu1 : (partM 0 s0 m0).us = [] := HU0.out
  obtain ⟨c0, c1, c2, c3, c4, c5⟩ := hR.cells
  rw [HK0.out] at c0
  have gf := hR.froz 1
  have hst2 : Rg3 w (X + 1) M B (partS 0 s0) (partM 0 s0 m0) (.slice none 0 0) (w1.setCell ⟨M, 1, none⟩ (.int .u32 (z : Int))) := hst
  obtain ⟨s1, hs1⟩ : ∃ s, partS 0 s0 = s := ⟨_, rfl⟩
  obtain ⟨m1, hm1⟩ : ∃ m, partM 0 s0 m0 = m := ⟨_, rfl⟩
  simp only [show (0 : Int).toNat = 0 from rfl] at HFold
  rw [hs1, hm1] at hst2
  rw [hm1] at hk1 hu1
  have HK1 := Lib.hid hk1
  have HU1 := Lib.hid hu1
  have HS1 := Lib.hid hs1
  have HM1 := Lib.hid hm1
  have RG1 := Lib.hid hst2
  clear hR hst hst2 hk1 hu1 hs1 hm1 hr hz
  go_wp2_with fail
  have S2 := Lib.hid (fNum_any _ B 255 s1 (w1.setCell ⟨M, 1, none⟩ (.int .u32 (z : Int))) RG1.out.rd (by decide))
  refine S2.out.mono ?_
  rintro e w2 hr
  obtain ⟨z, hz, zl, rfl⟩ := fnum_of hr
  have zi : (z : Int) < 256 := by omega
  have hR := RG1.out.read hr
  have hst := hR.store (m2 := partM 1 s1 m1) (v2 := .slice none 0 0) 2 (.int .i64 (z : Int)) (by rw [hz]; rfl) hR.row
  have hk2 : (partM 1 s1 m1).kind = 4 := HK1.out
  have hu2 : (partM 1 s1 m1).us = [] := HU1.out
  obtain ⟨c0, c1, c2, c3, c4, c5⟩ := hR.cells
  rw [HK1.out] at c0
  have gf := hR.froz 2
  have hst2 : Rg3 w (X + 1) M B (partS 1 s1) (partM 1 s1 m1) (.slice none 0 0) (w2.setCell ⟨M, 2, none⟩ (.int .i64 (z : Int))) := hst
  obtain ⟨s2, hs2⟩ : ∃ s, partS 1 s1 = s := ⟨_, rfl⟩
  obtain ⟨m2, hm2⟩ : ∃ m, partM 1 s1 m1 = m := ⟨_, rfl⟩
  simp only [show (1 : Int).toNat = 1 from rfl] at HFold
  rw [hs2, hm2] at hst2
  rw [hm2] at hk2 hu2
  have HK2 := Lib.hid hk2
  have HU2 := Lib.hid hu2
  have HS2 := Lib.hid hs2
  have HM2 := Lib.hid hm2
  have RG2 := Lib.hid hst2
  clear hR hst hst2 hk2 hu2 hs2 hm2 hr hz
  have HFin : Hid (doneS (rS6 (4 : Int) s0) = doneS s2) := Lib.hid (by
    have h9 := HFold.out.1
    simp only [Int.toNat_zero, Int.toNat_one, show (2 : Int).toNat = 2 from rfl, HS1.out, HM1.out, HS2.out, HM2.out] at h9
    rw [h9])
  have HMf : Hid (rM (4 : Int) s0 = m2) := Lib.hid (by
    have h9 := HFold.out.2
    simp only [Int.toNat_zero, Int.toNat_one, show (2 : Int).toNat = 2 from rfl, HS1.out, HM1.out, HS2.out, HM2.out] at h9
    exact h9.symm)
  clear HFold
  have S9 := Lib.hid (fDone_any _ B s2 (w2.setCell ⟨M, 2, none⟩ (.int .i64 (z : Int))) RG2.out.rd)
  obtain ⟨E, hE⟩ : ∃ E, doneS s2 = E := ⟨_, rfl⟩
  rw [hE] at S9 HFin
  clear hE
  go_wp2_with fail
  refine S9.out.mono ?_
  rintro e w9 ⟨rfl, rfl⟩
  obtain ⟨q0, q1, q2, q3, q4, q5⟩ := blk6 RG2.out.out
  have g0 := blk_froz RG2.out.out 0
  have g1 := blk_froz RG2.out.out 1
  have g2 := blk_froz RG2.out.out 2
  have g3 := blk_froz RG2.out.out 3
  have g4 := blk_froz RG2.out.out 4
  have g5 := blk_froz RG2.out.out 5
  by_cases hE0 : E = 0
  · subst hE0
    obtain ⟨x, hxm, hv, hxu, hxn⟩ := RG2.out.mi
    have HXu := Lib.hid hxu
    have HXn := Lib.hid hxn
    have HXm := Lib.hid hxm
    have e0 : m2.kind = x.kind := by rw [← hxm]; rfl
    have e1 : m2.seq = x.seq := by rw [← hxm]; rfl
    have e2 : m2.src = x.src := by rw [← hxm]; rfl
    have e3 : m2.tgt = x.tgt := by rw [← hxm]; rfl
    have e4 : m2.rep = x.rep := by rw [← hxm]; rfl
    obtain ⟨n0, n1, n2, n3, n4, n5⟩ := RG2.out.cells
    rw [e0] at n0
    rw [e1] at n1
    rw [e2] at n2
    rw [e3] at n3
    rw [e4] at n4
    rw [hv] at n5
    have HEG : Hid (errG (4 : Int) xs = if (rM (4 : Int) s0).right = true then 0 else 2) := Lib.hid (by rw [HErr.out, HFin.out, if_neg (fun h => h rfl)])
    clear hxu hxn hxm hv e0 e1 e2 e3 e4
    cases hr : m2.right with
    | false =>
      have S2 := Lib.hid (rRight_any x _ HXu.out.1 false (by rw [HXm.out]; exact hr))
      have HP9 : Hid (PO = GetPost msNone 2 w) := Lib.hid (by rw [← HPO.out, HEG.out, HMf.out, hr]; simp)
      unfold miV at S2
      clear hr
      go_wp2_with fail
      refine S2.out.mono ?_
      rintro e w5 ⟨rfl, hb5⟩
      have R5 := Lib.hid (RG2.out.kept hb5)
      clear q0 q1 q2 q3 q4 q5 g0 g1 g2 g3 g4 g5 n0 n1 n2 n3 n4 n5 hb5
      obtain ⟨q0, q1, q2, q3, q4, q5⟩ := blk6 R5.out.out
      have g0 := blk_froz R5.out.out 0
      have g1 := blk_froz R5.out.out 1
      have g2 := blk_froz R5.out.out 2
      have g3 := blk_froz R5.out.out 3
      have g4 := blk_froz R5.out.out 4
      have g5 := blk_froz R5.out.out 5
      go_wp2
      obtain ⟨d0, d1, d2, d3, d4, d5⟩ := blk6 (set6_blk R5.out.out (.int .i64 0) (.int .u32 0) (.int .i64 0) (.int .i64 0) (.bool false) (.slice none 0 0))
      refine bodyPost_ret (v := .tuple #[.agg #[.int .i64 0, .int .u32 0, .int .i64 0, .int .i64 0, .bool false, .slice none 0 0], .int .i64 2]) (by simp [results, Try.results15, go_sem, d0, d1, d2, d3, d4, d5]) rfl ?_
      rw [HP9.out]
      exact get_fin (x := miNone) (E := 2) R5.out.below (by rw [HX.out]; exact Nat.le_succ X) ⟨UsOk.none _, TyU.nil _ _ _⟩ (fun b off e => by cases e) rfl _ _ _ _ _ _
    | true =>
      have S2 := Lib.hid (rRight_any x _ HXu.out.1 true (by rw [HXm.out]; exact hr))
      have HP9 : Hid (PO = GetPost m2 0 w) := Lib.hid (by rw [← HPO.out, HEG.out, HMf.out, hr]; simp)
      unfold miV at S2
      go_wp2_with fail
      refine S2.out.mono ?_
      rintro e w5 ⟨rfl, hb5⟩
      have R5 := Lib.hid (RG2.out.kept hb5)
      have HU5 : Hid (UsOk w5 x.us ∧ TyU w5 x.us) := Lib.hid ⟨HXu.out.1.below hb5, HXu.out.2.below hb5⟩
      have t0 := (hb5.cell (p := ⟨M, 0, none⟩) (bcell_lt n0)).trans n0
      have t1 := (hb5.cell (p := ⟨M, 1, none⟩) (bcell_lt n1)).trans n1
      have t2 := (hb5.cell (p := ⟨M, 2, none⟩) (bcell_lt n2)).trans n2
      have t3 := (hb5.cell (p := ⟨M, 3, none⟩) (bcell_lt n3)).trans n3
      have t4 := (hb5.cell (p := ⟨M, 4, none⟩) (bcell_lt n4)).trans n4
      have t5 := (hb5.cell (p := ⟨M, 5, none⟩) (bcell_lt n5)).trans n5
      clear q0 q1 q2 q3 q4 q5 g0 g1 g2 g3 g4 g5 n0 n1 n2 n3 n4 n5 hb5 hr
      obtain ⟨q0, q1, q2, q3, q4, q5⟩ := blk6 R5.out.out
      have g0 := blk_froz R5.out.out 0
      have g1 := blk_froz R5.out.out 1
      have g2 := blk_froz R5.out.out 2
      have g3 := blk_froz R5.out.out 3
      have g4 := blk_froz R5.out.out 4
      have g5 := blk_froz R5.out.out 5
      go_wp2
      clear t0 t1 t2 t3 t4 t5
      obtain ⟨d0, d1, d2, d3, d4, d5⟩ := blk6 (set6_blk R5.out.out (.int .i64 x.kind) (.int .u32 (x.seq : Int)) (.int .i64 x.src) (.int .i64 x.tgt) (.bool x.rep) (.slice x.us.A x.us.l.length x.us.c))
      refine bodyPost_ret (v := .tuple #[.agg #[.int .i64 x.kind, .int .u32 (x.seq : Int), .int .i64 x.src, .int .i64 x.tgt, .bool x.rep, .slice x.us.A x.us.l.length x.us.c], .int .i64 0]) (by simp [results, Try.results15, go_sem, d0, d1, d2, d3, d4, d5]) rfl ?_
      rw [HP9.out]
      exact get_fin (x := x) (E := 0) R5.out.below (by rw [HX.out]; exact Nat.le_succ X) HU5.out (fun b off e => by
        have h9 := HXn.out b off e
        have h10 := R5.out.far
        omega) HXm.out _ _ _ _ _ _
  · have E1 : ((E : Int) != 0) = true := by rw [bne_iff_ne]; omega
    have E2 : ((E : Int) == 0) = false := by rw [beq_eq_false_iff_ne]; omega
    have HEG : Hid (errG (4 : Int) xs = E) := Lib.hid (by rw [HErr.out, HFin.out, if_pos hE0])
    have HP9 : Hid (PO = GetPost msNone E w) := Lib.hid (by rw [← HPO.out, HEG.out, if_neg hE0])
    clear hE0
    go_wp2
    obtain ⟨d0, d1, d2, d3, d4, d5⟩ := blk6 (set6_blk RG2.out.out (.int .i64 0) (.int .u32 0) (.int .i64 0) (.int .i64 0) (.bool false) (.slice none 0 0))
    refine bodyPost_ret (v := .tuple #[.agg #[.int .i64 0, .int .u32 0, .int .i64 0, .int .i64 0, .bool false, .slice none 0 0], .int .i64 (E : Int)]) (by simp [results, Try.results15, go_sem, d0, d1, d2, d3, d4, d5]) rfl ?_
    rw [HP9.out]
    exact get_fin (x := miNone) RG2.out.below (by rw [HX.out]; exact Nat.le_succ X) ⟨UsOk.none _, TyU.nil _ _ _⟩ (fun b off e => by cases e) rfl _ _ _ _ _ _
set_option maxHeartbeats 16000000 in
set_option maxRecDepth 100000 in
theorem rget_5 (A : Option Addr) (n c : Nat) (xs : List UInt8) (w : World) (hB : BodyAt w A c xs) (hn : xs.length = n) :
    Calls Try.prog 15 #[frIn 5 A n c] w (GetPost (if errG (5 : Int) xs = 0 then rM (5 : Int) ⟨xs, 0⟩ else msNone) (errG (5 : Int) xs) w) := by
  have RG0 := Lib.hid (rg3_start w A n c xs hB hn 5)
  have HErr : Hid (errG (5 : Int) xs = if doneS (rS6 (5 : Int) ⟨xs, 0⟩) ≠ 0 then doneS (rS6 (5 : Int) ⟨xs, 0⟩) else if (rM (5 : Int) ⟨xs, 0⟩).right = true then 0 else 2) := Lib.hid (by unfold errG; rw [if_neg (by omega)])
  have hfold := fold_parts (5 : Int) (by decide) (by decide) ⟨xs, 0⟩
  have hpl : partsL (5 : Int) = [1, 4] := by simp [partsL]
  rw [hpl] at hfold
  simp only [List.foldl_cons, List.foldl_nil, stepP, Prod.mk.injEq] at hfold
  have HFold := Lib.hid hfold
  obtain ⟨X, hX⟩ : ∃ X, w.heap.size = X := ⟨_, rfl⟩
  have HX := Lib.hid hX
  obtain ⟨M, hM⟩ : ∃ M, X + 1 + 1 = M := ⟨_, rfl⟩
  have HMM := Lib.hid hM
  obtain ⟨B, hBB⟩ : ∃ B, M + 1 = B := ⟨_, rfl⟩
  have HBB := Lib.hid hBB
  rw [hX, hM, hBB] at RG0
  obtain ⟨s0, hs0⟩ : ∃ s : St, (⟨xs, 0⟩ : St) = s := ⟨_, rfl⟩
  obtain ⟨m0, hm0⟩ : ∃ m, startM (5 : Int) = m := ⟨_, rfl⟩
  have hk0 : m0.kind = 5 := by rw [← hm0]; rfl
  have hu0 : m0.us = [] := by rw [← hm0]; rfl
  have hcast : ((5 : Nat) : Int) = (5 : Int) := rfl
  rw [hcast, hm0, hs0] at RG0
  rw [hm0, hs0] at HFold
  have HS0 := Lib.hid hs0
  have HK0 := Lib.hid hk0
  have HU0 := Lib.hid hu0
  unfold frIn
  rw [hcast]
  obtain ⟨PO, hPO⟩ : ∃ PO, GetPost (if errG (5 : Int) xs = 0 then rM (5 : Int) ⟨xs, 0⟩ else msNone) (errG (5 : Int) xs) w = PO := ⟨_, rfl⟩
  rw [hPO]
  have HPO := Lib.hid hPO
  rw [hs0] at HErr HPO
  clear hB hn hX hM hBB hfold hpl hs0 hm0 hk0 hu0 hcast hPO
  go_enter Try.func15, Try.ntmps15
  go_wp2_with fail
  rw [HX.out, HMM.out, HBB.out]
  have RGa := Lib.hid (RG0.out (.cells #[.int .u8 5, .slice A n c] 28))
  generalize (((w.alloc (.cells #[.int .u8 5, .slice A n c] 28)).alloc (.cells #[.int .i64 0, .int .u32 0, .int .i64 0, .int .i64 0, .bool false, .slice none 0 0] 25)).alloc (.cells #[.int .i64 5, .int .u32 0, .int .i64 0, .int .i64 0, .bool false, .slice none 0 0] 25)).alloc (.cells #[.slice A n c, .int .i64 0] 79) = w0 at RGa ⊢
  clear RG0
  have S1 := Lib.hid (fNum_any _ B 255 s0 (w0) RGa.out.rd (by decide))
  refine S1.out.mono ?_
  rintro e w1 hr
  obtain ⟨z, hz, zl, rfl⟩ := fnum_of hr
  have zi : (z : Int) < 256 := by omega
  have hR := RGa.out.read hr
  have hst := hR.store (m2 := partM 1 s0 m0) (v2 := .slice none 0 0) 2 (.int .i64 (z : Int)) (by rw [hz]; rfl) hR.row
  have hk1 : (partM 1 s0 m0).kind = 5 := HK0.out
  have hu1 : (partM 1 s0 m0).us = [] := HU0.out
  obtain ⟨c0, c1, c2, c3, c4, c5⟩ := hR.cells
  rw [HK0.out] at c0
  have gf := hR.froz 2
  have hst2 : Rg3 w (X + 1) M B (partS 1 s0) (partM 1 s0 m0) (.slice none 0 0) (w1.setCell ⟨M, 2, none⟩ (.int .i64 (z : Int))) := hst
  obtain ⟨s1, hs1⟩ : ∃ s, partS 1 s0 = s := ⟨_, rfl⟩
  obtain ⟨m1, hm1⟩ : ∃ m, partM 1 s0 m0 = m := ⟨_, rfl⟩
  simp only [show (1 : Int).toNat = 1 from rfl] at HFold
  rw [hs1, hm1] at hst2
  rw [hm1] at hk1 hu1
  have HK1 := Lib.hid hk1
  have HU1 := Lib.hid hu1
  have HS1 := Lib.hid hs1
  have HM1 := Lib.hid hm1
  have RG1 := Lib.hid hst2
  clear hR hst hst2 hk1 hu1 hs1 hm1 hr hz
  go_wp2_with fail
  have S2 := Lib.hid (fNum_any _ B 16 s1 (w1.setCell ⟨M, 2, none⟩ (.int .i64 (z : Int))) RG1.out.rd (by decide))
  refine S2.out.mono ?_
  rintro e w2 hr
  obtain ⟨N, hz, zl, rfl⟩ := fnum_of hr
  have zi : (N : Int) < 17 := by omega
  have hR := RG1.out.read hr
  obtain ⟨t1, ht1⟩ : ∃ t, (itNum 16).next s1 = t := ⟨_, rfl⟩
  rw [ht1] at hR
  have HFin : Hid (rS6 (5 : Int) s0 = upsNext N t1) := Lib.hid (by
    have h9 := HFold.out.1
    simp only [Int.toNat_zero, Int.toNat_one, show (3 : Int).toNat = 3 from rfl, show (4 : Int).toNat = 4 from rfl, HS1.out, HM1.out] at h9
    rw [← h9, hz, ← ht1]
    rfl)
  have HMf : Hid (rM (5 : Int) s0 = { m1 with us := upsOut N t1 }) := Lib.hid (by
    have h9 := HFold.out.2
    simp only [Int.toNat_zero, Int.toNat_one, show (3 : Int).toNat = 3 from rfl, show (4 : Int).toNat = 4 from rfl, HS1.out, HM1.out] at h9
    rw [← h9, hz, ← ht1]
    rfl)
  have HSt : Hid (Rg3 w (X + 1) M B (upsNext 0 t1) { m1 with us := upsOut 0 t1 } (.slice none 0 0) w2) := Lib.hid (by
    have e : ({ m1 with us := upsOut 0 t1 } : Ms) = m1 := by
      have := HU1.out
      cases hmm : m1 with
      | mk a b c d e f => rw [hmm] at this; simp only at this; subst this; rfl
    rw [e]
    exact hR)
  obtain ⟨c0, c1, c2, c3, c4, c5⟩ := hR.cells
  rw [HK1.out] at c0
  clear hR hr hz ht1 HFold
  go_wp2
  clear c0 c1 c2 c3 c4 c5
  go_loopw [7] (fun kv wr => ∃ (j : Nat) (v : Value), j ≤ N ∧ kv = .int .i64 (j : Int) ∧ Hid (Rg3 w (X + 1) M B (upsNext j t1) { m1 with us := upsOut j t1 } v wr)) (fun kv _ => N - (RowKit.intOf kv).toNat)
  case atStart => exact ⟨0, _, Nat.zero_le _, rfl, HSt⟩
  case round =>
    obtain ⟨j, v, hj, rfl, hrg⟩ := hrel
    have hen := hrg.out.rd.err
    by_cases hlt : j < N
    · have q2 : (j : Int) < (N : Int) := by omega
      by_cases he : (upsNext j t1).e = 0
      · rw [he] at hen
        have HSn := Lib.hid (upsOut_snoc j t1)
        have HNn := Lib.hid (upsNext_snoc j t1)
        have HLn := Lib.hid (upsOut_length j t1)
        obtain ⟨t, ht⟩ : ∃ t, upsNext j t1 = t := ⟨_, rfl⟩
        obtain ⟨l, hl⟩ : ∃ l, upsOut j t1 = l := ⟨_, rfl⟩
        rw [ht] at HSn HNn hrg
        rw [hl] at HSn HLn hrg
        clear ht hl he
        go_wp2_with fail
        refine (fNum_any _ B 255 t wr hrg.out.rd (by decide)).mono ?_
        rintro e wa hr
        obtain ⟨za, hza, zla, rfl⟩ := fnum_of hr
        have RA := Lib.hid (hrg.out.read hr)
        have zia : (za : Int) < 256 := by omega
        have HZa := Lib.hid hza
        clear hr hza hen
        go_wp2_with fail
        refine (fNum_any _ B 4294967295 (upS1 t) wa RA.out.rd (by decide)).mono ?_
        rintro e wb hr
        obtain ⟨zb, hzb, zlb, rfl⟩ := fnum_of hr
        have RB' := Lib.hid (RA.out.read hr)
        have zib : (zb : Int) < 4294967296 := by omega
        have HZb := Lib.hid hzb
        clear hr hzb
        go_wp2_with fail
        refine (fNum_any _ B 255 (upS2 t) wb RB'.out.rd (by decide)).mono ?_
        rintro e wc hr
        obtain ⟨zc, hzc, zlc, rfl⟩ := fnum_of hr
        have RC : Hid (Rg3 w (X + 1) M B (upNext t) { m1 with us := l } v wc) := Lib.hid (RB'.out.read hr)
        have zic : (zc : Int) < 256 := by omega
        have HZc := Lib.hid hzc
        clear hr hzc
        have HUp : Hid (upOut t = ⟨(za : Int), zb, (zc : Int)⟩) := Lib.hid (by rw [HZa.out, HZb.out, HZc.out]; rfl)
        obtain ⟨-, -, -, -, -, c5⟩ := RC.out.cells
        have HRw : Hid (upRow (wc.alloc (.cells #[.int .i64 (za : Int), .int .u32 (zb : Int), .int .i64 (zc : Int)] 66)) (B + 1) v l) := Lib.hid (bown_keep RC.out.row (below1 wc _))
        have HXn := Lib.hid (up_new wc ⟨(za : Int), zb, (zc : Int)⟩ 66)
        have HLE : Hid (B + 1 ≤ wc.heap.size) := Lib.hid RC.out.size
        have RCk := Lib.hid (RC.out.kept (below1 wc (.cells #[.int .i64 (za : Int), .int .u32 (zb : Int), .int .i64 (zc : Int)] 66)))
        go_wp2_with (at_builtin; refine wpList_append_up rfl (.tmp 86) (.tmp 91) rfl (B + 1) v l rfl HRw.out wc.heap.size ⟨(za : Int), zb, (zc : Int)⟩ rfl HXn.out (by rw [HLn.out]; omega) (by rw [World.size_alloc]; exact Nat.le_succ_of_le HLE.out) ?_)
        refine Lib.hid ?_
        intro v3 w3 hr3 hg3
        have hm3 := RCk.out.mgGrown hg3
        have RN := RCk.out.more (u := ⟨(za : Int), zb, (zc : Int)⟩) hg3 hr3
        have HRN : Hid (Rg3 w (X + 1) M B (upsNext (j + 1) t1) { m1 with us := upsOut (j + 1) t1 } v3 (w3.setCell ⟨M, 5, none⟩ v3)) := Lib.hid (by
          rw [HNn.out, HSn.out, HUp.out]
          exact RN)
        have gf := blk_froz hm3 5
        obtain ⟨-, -, -, -, -, c5'⟩ := blk6 hm3
        obtain ⟨A8, c8, hv8, -, -, -⟩ := UsOk.of_row RC.out.row
        obtain ⟨A7, c7, hv7, -, -, -⟩ := UsOk.of_row hr3
        obtain ⟨L8, hL8⟩ : ∃ L, (l ++ [(⟨(za : Int), zb, (zc : Int)⟩ : Up)]).length = L := ⟨_, rfl⟩
        rw [hL8] at hv7
        simp only at hv8
        subst hv8
        subst hv7
        clear hr3 hg3 hm3 RN c5 hL8
        go_wp2
        go_roundw
        case rel => exact ⟨j + 1, _, by omega, by go_num, HRN⟩
        case measure => simp [RowKit.intOf]; omega
      · have HNE : Hid (doneS (upsNext j t1) ≠ 0) := Lib.hid (doneS_err he)
        have HF0 := Lib.hid (ups_stop hj he)
        have HF1 := HFin
        clear HFin
        have HFin : Hid (doneS (rS6 (5 : Int) s0) = doneS (upsNext j t1)) := Lib.hid (by rw [HF1.out, HF0.out])
        obtain ⟨ee, hee⟩ : ∃ ee, (upsNext j t1).e = ee := ⟨_, rfl⟩
        rw [hee] at hen he
        have ez : ((ee : Int) == 0) = false := by rw [beq_eq_false_iff_ne]; omega
        obtain ⟨t, ht⟩ : ∃ t, upsNext j t1 = t := ⟨_, rfl⟩
        rw [ht] at HNE HFin hrg
        clear hee he ht HF0 HF1
        have S9 := Lib.hid (fDone_any _ B t wr hrg.out.rd)
        obtain ⟨E, hE⟩ : ∃ E, doneS t = E := ⟨_, rfl⟩
        rw [hE] at S9 HFin
        rw [hE] at HNE
        clear hE
        go_wp2_with fail
        refine S9.out.mono ?_
        rintro e w9 ⟨rfl, rfl⟩
        obtain ⟨q0, q1, q2, q3, q4, q5⟩ := blk6 hrg.out.out
        have g0 := blk_froz hrg.out.out 0
        have g1 := blk_froz hrg.out.out 1
        have g2 := blk_froz hrg.out.out 2
        have g3 := blk_froz hrg.out.out 3
        have g4 := blk_froz hrg.out.out 4
        have g5 := blk_froz hrg.out.out 5
        have hE0 := HNE.out
        have E1 : ((E : Int) != 0) = true := by rw [bne_iff_ne]; omega
        have E2 : ((E : Int) == 0) = false := by rw [beq_eq_false_iff_ne]; omega
        have HEG : Hid (errG (5 : Int) xs = E) := Lib.hid (by rw [HErr.out, HFin.out, if_pos hE0])
        have HP9 : Hid (PO = GetPost msNone E w) := Lib.hid (by rw [← HPO.out, HEG.out, if_neg hE0])
        clear hE0
        go_wp2
        obtain ⟨d0, d1, d2, d3, d4, d5⟩ := blk6 (set6_blk hrg.out.out (.int .i64 0) (.int .u32 0) (.int .i64 0) (.int .i64 0) (.bool false) (.slice none 0 0))
        refine bodyPost_ret (v := .tuple #[.agg #[.int .i64 0, .int .u32 0, .int .i64 0, .int .i64 0, .bool false, .slice none 0 0], .int .i64 (E : Int)]) (by simp [results, Try.results15, go_sem, d0, d1, d2, d3, d4, d5]) rfl ?_
        rw [HP9.out]
        exact get_fin (x := miNone) hrg.out.below (by rw [HX.out]; exact Nat.le_succ X) ⟨UsOk.none _, TyU.nil _ _ _⟩ (fun b off e => by cases e) rfl _ _ _ _ _ _
    · obtain rfl : j = N := by omega
      have HF1 := HFin
      clear HFin
      have HFin : Hid (doneS (rS6 (5 : Int) s0) = doneS (upsNext j t1)) := Lib.hid (by rw [HF1.out])
      obtain ⟨t, ht⟩ : ∃ t, upsNext j t1 = t := ⟨_, rfl⟩
      obtain ⟨mm, hmm⟩ : ∃ mm : Ms, { m1 with us := upsOut j t1 } = mm := ⟨_, rfl⟩
      rw [ht] at HFin hrg
      rw [hmm] at HMf hrg
      clear ht hmm HF1 hen hlt
      have S9 := Lib.hid (fDone_any _ B t wr hrg.out.rd)
      obtain ⟨E, hE⟩ : ∃ E, doneS t = E := ⟨_, rfl⟩
      rw [hE] at S9 HFin
      clear hE
      go_wp2_with fail
      refine S9.out.mono ?_
      rintro e w9 ⟨rfl, rfl⟩
      obtain ⟨q0, q1, q2, q3, q4, q5⟩ := blk6 hrg.out.out
      have g0 := blk_froz hrg.out.out 0
      have g1 := blk_froz hrg.out.out 1
      have g2 := blk_froz hrg.out.out 2
      have g3 := blk_froz hrg.out.out 3
      have g4 := blk_froz hrg.out.out 4
      have g5 := blk_froz hrg.out.out 5
      by_cases hE0 : E = 0
      · subst hE0
        obtain ⟨x, hxm, hv, hxu, hxn⟩ := hrg.out.mi
        have HXu := Lib.hid hxu
        have HXn := Lib.hid hxn
        have HXm := Lib.hid hxm
        have e0 : mm.kind = x.kind := by rw [← hxm]; rfl
        have e1 : mm.seq = x.seq := by rw [← hxm]; rfl
        have e2 : mm.src = x.src := by rw [← hxm]; rfl
        have e3 : mm.tgt = x.tgt := by rw [← hxm]; rfl
        have e4 : mm.rep = x.rep := by rw [← hxm]; rfl
        obtain ⟨n0, n1, n2, n3, n4, n5⟩ := hrg.out.cells
        rw [e0] at n0
        rw [e1] at n1
        rw [e2] at n2
        rw [e3] at n3
        rw [e4] at n4
        rw [hv] at n5
        have HEG : Hid (errG (5 : Int) xs = if (rM (5 : Int) s0).right = true then 0 else 2) := Lib.hid (by rw [HErr.out, HFin.out, if_neg (fun h => h rfl)])
        clear hxu hxn hxm hv e0 e1 e2 e3 e4
        cases hr : mm.right with
        | false =>
          have S2 := Lib.hid (rRight_any x _ HXu.out.1 false (by rw [HXm.out]; exact hr))
          have HP9 : Hid (PO = GetPost msNone 2 w) := Lib.hid (by rw [← HPO.out, HEG.out, HMf.out, hr]; simp)
          unfold miV at S2
          clear hr
          go_wp2_with fail
          refine S2.out.mono ?_
          rintro e w5 ⟨rfl, hb5⟩
          have R5 := Lib.hid (hrg.out.kept hb5)
          clear q0 q1 q2 q3 q4 q5 g0 g1 g2 g3 g4 g5 n0 n1 n2 n3 n4 n5 hb5
          obtain ⟨q0, q1, q2, q3, q4, q5⟩ := blk6 R5.out.out
          have g0 := blk_froz R5.out.out 0
          have g1 := blk_froz R5.out.out 1
          have g2 := blk_froz R5.out.out 2
          have g3 := blk_froz R5.out.out 3
          have g4 := blk_froz R5.out.out 4
          have g5 := blk_froz R5.out.out 5
          go_wp2
          obtain ⟨d0, d1, d2, d3, d4, d5⟩ := blk6 (set6_blk R5.out.out (.int .i64 0) (.int .u32 0) (.int .i64 0) (.int .i64 0) (.bool false) (.slice none 0 0))
          refine bodyPost_ret (v := .tuple #[.agg #[.int .i64 0, .int .u32 0, .int .i64 0, .int .i64 0, .bool false, .slice none 0 0], .int .i64 2]) (by simp [results, Try.results15, go_sem, d0, d1, d2, d3, d4, d5]) rfl ?_
          rw [HP9.out]
          exact get_fin (x := miNone) (E := 2) R5.out.below (by rw [HX.out]; exact Nat.le_succ X) ⟨UsOk.none _, TyU.nil _ _ _⟩ (fun b off e => by cases e) rfl _ _ _ _ _ _
        | true =>
          have S2 := Lib.hid (rRight_any x _ HXu.out.1 true (by rw [HXm.out]; exact hr))
          have HP9 : Hid (PO = GetPost mm 0 w) := Lib.hid (by rw [← HPO.out, HEG.out, HMf.out, hr]; simp)
          unfold miV at S2
          go_wp2_with fail
          refine S2.out.mono ?_
          rintro e w5 ⟨rfl, hb5⟩
          have R5 := Lib.hid (hrg.out.kept hb5)
          have HU5 : Hid (UsOk w5 x.us ∧ TyU w5 x.us) := Lib.hid ⟨HXu.out.1.below hb5, HXu.out.2.below hb5⟩
          have t0 := (hb5.cell (p := ⟨M, 0, none⟩) (bcell_lt n0)).trans n0
          have t1 := (hb5.cell (p := ⟨M, 1, none⟩) (bcell_lt n1)).trans n1
          have t2 := (hb5.cell (p := ⟨M, 2, none⟩) (bcell_lt n2)).trans n2
          have t3 := (hb5.cell (p := ⟨M, 3, none⟩) (bcell_lt n3)).trans n3
          have t4 := (hb5.cell (p := ⟨M, 4, none⟩) (bcell_lt n4)).trans n4
          have t5 := (hb5.cell (p := ⟨M, 5, none⟩) (bcell_lt n5)).trans n5
          clear q0 q1 q2 q3 q4 q5 g0 g1 g2 g3 g4 g5 n0 n1 n2 n3 n4 n5 hb5 hr
          obtain ⟨q0, q1, q2, q3, q4, q5⟩ := blk6 R5.out.out
          have g0 := blk_froz R5.out.out 0
          have g1 := blk_froz R5.out.out 1
          have g2 := blk_froz R5.out.out 2
          have g3 := blk_froz R5.out.out 3
          have g4 := blk_froz R5.out.out 4
          have g5 := blk_froz R5.out.out 5
          go_wp2
          clear t0 t1 t2 t3 t4 t5
          obtain ⟨d0, d1, d2, d3, d4, d5⟩ := blk6 (set6_blk R5.out.out (.int .i64 x.kind) (.int .u32 (x.seq : Int)) (.int .i64 x.src) (.int .i64 x.tgt) (.bool x.rep) (.slice x.us.A x.us.l.length x.us.c))
          refine bodyPost_ret (v := .tuple #[.agg #[.int .i64 x.kind, .int .u32 (x.seq : Int), .int .i64 x.src, .int .i64 x.tgt, .bool x.rep, .slice x.us.A x.us.l.length x.us.c], .int .i64 0]) (by simp [results, Try.results15, go_sem, d0, d1, d2, d3, d4, d5]) rfl ?_
          rw [HP9.out]
          exact get_fin (x := x) (E := 0) R5.out.below (by rw [HX.out]; exact Nat.le_succ X) HU5.out (fun b off e => by
            have h9 := HXn.out b off e
            have h10 := R5.out.far
            omega) HXm.out _ _ _ _ _ _
      · have E1 : ((E : Int) != 0) = true := by rw [bne_iff_ne]; omega
        have E2 : ((E : Int) == 0) = false := by rw [beq_eq_false_iff_ne]; omega
        have HEG : Hid (errG (5 : Int) xs = E) := Lib.hid (by rw [HErr.out, HFin.out, if_pos hE0])
        have HP9 : Hid (PO = GetPost msNone E w) := Lib.hid (by rw [← HPO.out, HEG.out, if_neg hE0])
        clear hE0
        go_wp2
        obtain ⟨d0, d1, d2, d3, d4, d5⟩ := blk6 (set6_blk hrg.out.out (.int .i64 0) (.int .u32 0) (.int .i64 0) (.int .i64 0) (.bool false) (.slice none 0 0))
        refine bodyPost_ret (v := .tuple #[.agg #[.int .i64 0, .int .u32 0, .int .i64 0, .int .i64 0, .bool false, .slice none 0 0], .int .i64 (E : Int)]) (by simp [results, Try.results15, go_sem, d0, d1, d2, d3, d4, d5]) rfl ?_
        rw [HP9.out]
        exact get_fin (x := miNone) hrg.out.below (by rw [HX.out]; exact Nat.le_succ X) ⟨UsOk.none _, TyU.nil _ _ _⟩ (fun b off e => by cases e) rfl _ _ _ _ _ _
set_option maxHeartbeats 16000000 in
set_option maxRecDepth 100000 in
theorem rget_6 (A : Option Addr) (n c : Nat) (xs : List UInt8) (w : World) (hB : BodyAt w A c xs) (hn : xs.length = n) :
    Calls Try.prog 15 #[frIn 6 A n c] w (GetPost (if errG (6 : Int) xs = 0 then rM (6 : Int) ⟨xs, 0⟩ else msNone) (errG (6 : Int) xs) w) := by
  have RG0 := Lib.hid (rg3_start w A n c xs hB hn 6)
  have HErr : Hid (errG (6 : Int) xs = if doneS (rS6 (6 : Int) ⟨xs, 0⟩) ≠ 0 then doneS (rS6 (6 : Int) ⟨xs, 0⟩) else if (rM (6 : Int) ⟨xs, 0⟩).right = true then 0 else 2) := Lib.hid (by unfold errG; rw [if_neg (by omega)])
  have hfold := fold_parts (6 : Int) (by decide) (by decide) ⟨xs, 0⟩
  have hpl : partsL (6 : Int) = [1, 3, 4] := by simp [partsL]
  rw [hpl] at hfold
  simp only [List.foldl_cons, List.foldl_nil, stepP, Prod.mk.injEq] at hfold
  have HFold := Lib.hid hfold
  obtain ⟨X, hX⟩ : ∃ X, w.heap.size = X := ⟨_, rfl⟩
  have HX := Lib.hid hX
  obtain ⟨M, hM⟩ : ∃ M, X + 1 + 1 = M := ⟨_, rfl⟩
  have HMM := Lib.hid hM
  obtain ⟨B, hBB⟩ : ∃ B, M + 1 = B := ⟨_, rfl⟩
  have HBB := Lib.hid hBB
  rw [hX, hM, hBB] at RG0
  obtain ⟨s0, hs0⟩ : ∃ s : St, (⟨xs, 0⟩ : St) = s := ⟨_, rfl⟩
  obtain ⟨m0, hm0⟩ : ∃ m, startM (6 : Int) = m := ⟨_, rfl⟩
  have hk0 : m0.kind = 6 := by rw [← hm0]; rfl
  have hu0 : m0.us = [] := by rw [← hm0]; rfl
  have hcast : ((6 : Nat) : Int) = (6 : Int) := rfl
  rw [hcast, hm0, hs0] at RG0
  rw [hm0, hs0] at HFold
  have HS0 := Lib.hid hs0
  have HK0 := Lib.hid hk0
  have HU0 := Lib.hid hu0
  unfold frIn
  rw [hcast]
  obtain ⟨PO, hPO⟩ : ∃ PO, GetPost (if errG (6 : Int) xs = 0 then rM (6 : Int) ⟨xs, 0⟩ else msNone) (errG (6 : Int) xs) w = PO := ⟨_, rfl⟩
  rw [hPO]
  have HPO := Lib.hid hPO
  rw [hs0] at HErr HPO
  clear hB hn hX hM hBB hfold hpl hs0 hm0 hk0 hu0 hcast hPO
  go_enter Try.func15, Try.ntmps15
  go_wp2_with fail
  rw [HX.out, HMM.out, HBB.out]
  have RGa := Lib.hid (RG0.out (.cells #[.int .u8 6, .slice A n c] 28))
  generalize (((w.alloc (.cells #[.int .u8 6, .slice A n c] 28)).alloc (.cells #[.int .i64 0, .int .u32 0, .int .i64 0, .int .i64 0, .bool false, .slice none 0 0] 25)).alloc (.cells #[.int .i64 6, .int .u32 0, .int .i64 0, .int .i64 0, .bool false, .slice none 0 0] 25)).alloc (.cells #[.slice A n c, .int .i64 0] 79) = w0 at RGa ⊢
  clear RG0
  have S1 := Lib.hid (fNum_any _ B 255 s0 (w0) RGa.out.rd (by decide))
  refine S1.out.mono ?_
  rintro e w1 hr
  obtain ⟨z, hz, zl, rfl⟩ := fnum_of hr
  have zi : (z : Int) < 256 := by omega
  have hR := RGa.out.read hr
  have hst := hR.store (m2 := partM 1 s0 m0) (v2 := .slice none 0 0) 2 (.int .i64 (z : Int)) (by rw [hz]; rfl) hR.row
  have hk1 : (partM 1 s0 m0).kind = 6 := HK0.out
  have hu1 : (partM 1 s0 m0).us = [] := HU0.out
  obtain ⟨c0, c1, c2, c3, c4, c5⟩ := hR.cells
  rw [HK0.out] at c0
  have gf := hR.froz 2
  have hst2 : Rg3 w (X + 1) M B (partS 1 s0) (partM 1 s0 m0) (.slice none 0 0) (w1.setCell ⟨M, 2, none⟩ (.int .i64 (z : Int))) := hst
  obtain ⟨s1, hs1⟩ : ∃ s, partS 1 s0 = s := ⟨_, rfl⟩
  obtain ⟨m1, hm1⟩ : ∃ m, partM 1 s0 m0 = m := ⟨_, rfl⟩
  simp only [show (1 : Int).toNat = 1 from rfl] at HFold
  rw [hs1, hm1] at hst2
  rw [hm1] at hk1 hu1
  have HK1 := Lib.hid hk1
  have HU1 := Lib.hid hu1
  have HS1 := Lib.hid hs1
  have HM1 := Lib.hid hm1
  have RG1 := Lib.hid hst2
  clear hR hst hst2 hk1 hu1 hs1 hm1 hr hz
  go_wp2_with fail
  have S2 := Lib.hid (fFlag_any _ B s1 (w1.setCell ⟨M, 2, none⟩ (.int .i64 (z : Int))) RG1.out.rd)
  refine S2.out.mono ?_
  rintro e w2 hr
  obtain ⟨z, hz⟩ : ∃ z, itFlag.out s1 = z := ⟨_, rfl⟩
  obtain rfl : e = .returned (.bool z) := by rw [← hz]; exact hr.1
  have hR := RG1.out.read hr
  have hst := hR.store (m2 := partM 3 s1 m1) (v2 := .slice none 0 0) 4 (.bool z) (by rw [← hz]; rfl) hR.row
  have hk2 : (partM 3 s1 m1).kind = 6 := HK1.out
  have hu2 : (partM 3 s1 m1).us = [] := HU1.out
  obtain ⟨c0, c1, c2, c3, c4, c5⟩ := hR.cells
  rw [HK1.out] at c0
  have gf := hR.froz 4
  have hst2 : Rg3 w (X + 1) M B (partS 3 s1) (partM 3 s1 m1) (.slice none 0 0) (w2.setCell ⟨M, 4, none⟩ (.bool z)) := hst
  obtain ⟨s2, hs2⟩ : ∃ s, partS 3 s1 = s := ⟨_, rfl⟩
  obtain ⟨m2, hm2⟩ : ∃ m, partM 3 s1 m1 = m := ⟨_, rfl⟩
  simp only [show (3 : Int).toNat = 3 from rfl] at HFold
  rw [hs2, hm2] at hst2
  rw [hm2] at hk2 hu2
  have HK2 := Lib.hid hk2
  have HU2 := Lib.hid hu2
  have HS2 := Lib.hid hs2
  have HM2 := Lib.hid hm2
  have RG2 := Lib.hid hst2
  clear hR hst hst2 hk2 hu2 hs2 hm2 hr hz
  go_wp2_with fail
  have S3 := Lib.hid (fNum_any _ B 16 s2 (w2.setCell ⟨M, 4, none⟩ (.bool z)) RG2.out.rd (by decide))
  refine S3.out.mono ?_
  rintro e w3 hr
  obtain ⟨N, hz, zl, rfl⟩ := fnum_of hr
  have zi : (N : Int) < 17 := by omega
  have hR := RG2.out.read hr
  obtain ⟨t1, ht1⟩ : ∃ t, (itNum 16).next s2 = t := ⟨_, rfl⟩
  rw [ht1] at hR
  have HFin : Hid (rS6 (6 : Int) s0 = upsNext N t1) := Lib.hid (by
    have h9 := HFold.out.1
    simp only [Int.toNat_zero, Int.toNat_one, show (3 : Int).toNat = 3 from rfl, show (4 : Int).toNat = 4 from rfl, HS1.out, HM1.out, HS2.out, HM2.out] at h9
    rw [← h9, hz, ← ht1]
    rfl)
  have HMf : Hid (rM (6 : Int) s0 = { m2 with us := upsOut N t1 }) := Lib.hid (by
    have h9 := HFold.out.2
    simp only [Int.toNat_zero, Int.toNat_one, show (3 : Int).toNat = 3 from rfl, show (4 : Int).toNat = 4 from rfl, HS1.out, HM1.out, HS2.out, HM2.out] at h9
    rw [← h9, hz, ← ht1]
    rfl)
  have HSt : Hid (Rg3 w (X + 1) M B (upsNext 0 t1) { m2 with us := upsOut 0 t1 } (.slice none 0 0) w3) := Lib.hid (by
    have e : ({ m2 with us := upsOut 0 t1 } : Ms) = m2 := by
      have := HU2.out
      cases hmm : m2 with
      | mk a b c d e f => rw [hmm] at this; simp only at this; subst this; rfl
    rw [e]
    exact hR)
  obtain ⟨c0, c1, c2, c3, c4, c5⟩ := hR.cells
  rw [HK2.out] at c0
  clear hR hr hz ht1 HFold
  go_wp2
  clear c0 c1 c2 c3 c4 c5
  go_loopw [7] (fun kv wr => ∃ (j : Nat) (v : Value), j ≤ N ∧ kv = .int .i64 (j : Int) ∧ Hid (Rg3 w (X + 1) M B (upsNext j t1) { m2 with us := upsOut j t1 } v wr)) (fun kv _ => N - (RowKit.intOf kv).toNat)
  case atStart => exact ⟨0, _, Nat.zero_le _, rfl, HSt⟩
  case round =>
    obtain ⟨j, v, hj, rfl, hrg⟩ := hrel
    have hen := hrg.out.rd.err
    by_cases hlt : j < N
    · have q2 : (j : Int) < (N : Int) := by omega
      by_cases he : (upsNext j t1).e = 0
      · rw [he] at hen
        have HSn := Lib.hid (upsOut_snoc j t1)
        have HNn := Lib.hid (upsNext_snoc j t1)
        have HLn := Lib.hid (upsOut_length j t1)
        obtain ⟨t, ht⟩ : ∃ t, upsNext j t1 = t := ⟨_, rfl⟩
        obtain ⟨l, hl⟩ : ∃ l, upsOut j t1 = l := ⟨_, rfl⟩
        rw [ht] at HSn HNn hrg
        rw [hl] at HSn HLn hrg
        clear ht hl he
        go_wp2_with fail
        refine (fNum_any _ B 255 t wr hrg.out.rd (by decide)).mono ?_
        rintro e wa hr
        obtain ⟨za, hza, zla, rfl⟩ := fnum_of hr
        have RA := Lib.hid (hrg.out.read hr)
        have zia : (za : Int) < 256 := by omega
        have HZa := Lib.hid hza
        clear hr hza hen
        go_wp2_with fail
        refine (fNum_any _ B 4294967295 (upS1 t) wa RA.out.rd (by decide)).mono ?_
        rintro e wb hr
        obtain ⟨zb, hzb, zlb, rfl⟩ := fnum_of hr
        have RB' := Lib.hid (RA.out.read hr)
        have zib : (zb : Int) < 4294967296 := by omega
        have HZb := Lib.hid hzb
        clear hr hzb
        go_wp2_with fail
        refine (fNum_any _ B 255 (upS2 t) wb RB'.out.rd (by decide)).mono ?_
        rintro e wc hr
        obtain ⟨zc, hzc, zlc, rfl⟩ := fnum_of hr
        have RC : Hid (Rg3 w (X + 1) M B (upNext t) { m2 with us := l } v wc) := Lib.hid (RB'.out.read hr)
        have zic : (zc : Int) < 256 := by omega
        have HZc := Lib.hid hzc
        clear hr hzc
        have HUp : Hid (upOut t = ⟨(za : Int), zb, (zc : Int)⟩) := Lib.hid (by rw [HZa.out, HZb.out, HZc.out]; rfl)
        obtain ⟨-, -, -, -, -, c5⟩ := RC.out.cells
        have HRw : Hid (upRow (wc.alloc (.cells #[.int .i64 (za : Int), .int .u32 (zb : Int), .int .i64 (zc : Int)] 66)) (B + 1) v l) := Lib.hid (bown_keep RC.out.row (below1 wc _))
        have HXn := Lib.hid (up_new wc ⟨(za : Int), zb, (zc : Int)⟩ 66)
        have HLE : Hid (B + 1 ≤ wc.heap.size) := Lib.hid RC.out.size
        have RCk := Lib.hid (RC.out.kept (below1 wc (.cells #[.int .i64 (za : Int), .int .u32 (zb : Int), .int .i64 (zc : Int)] 66)))
        go_wp2_with (at_builtin; refine wpList_append_up rfl (.tmp 86) (.tmp 91) rfl (B + 1) v l rfl HRw.out wc.heap.size ⟨(za : Int), zb, (zc : Int)⟩ rfl HXn.out (by rw [HLn.out]; omega) (by rw [World.size_alloc]; exact Nat.le_succ_of_le HLE.out) ?_)
        refine Lib.hid ?_
        intro v3 w3 hr3 hg3
        have hm3 := RCk.out.mgGrown hg3
        have RN := RCk.out.more (u := ⟨(za : Int), zb, (zc : Int)⟩) hg3 hr3
        have HRN : Hid (Rg3 w (X + 1) M B (upsNext (j + 1) t1) { m2 with us := upsOut (j + 1) t1 } v3 (w3.setCell ⟨M, 5, none⟩ v3)) := Lib.hid (by
          rw [HNn.out, HSn.out, HUp.out]
          exact RN)
        have gf := blk_froz hm3 5
        obtain ⟨-, -, -, -, -, c5'⟩ := blk6 hm3
        obtain ⟨A8, c8, hv8, -, -, -⟩ := UsOk.of_row RC.out.row
        obtain ⟨A7, c7, hv7, -, -, -⟩ := UsOk.of_row hr3
        obtain ⟨L8, hL8⟩ : ∃ L, (l ++ [(⟨(za : Int), zb, (zc : Int)⟩ : Up)]).length = L := ⟨_, rfl⟩
        rw [hL8] at hv7
        simp only at hv8
        subst hv8
        subst hv7
        clear hr3 hg3 hm3 RN c5 hL8
        go_wp2
        go_roundw
        case rel => exact ⟨j + 1, _, by omega, by go_num, HRN⟩
        case measure => simp [RowKit.intOf]; omega
      · have HNE : Hid (doneS (upsNext j t1) ≠ 0) := Lib.hid (doneS_err he)
        have HF0 := Lib.hid (ups_stop hj he)
        have HF1 := HFin
        clear HFin
        have HFin : Hid (doneS (rS6 (6 : Int) s0) = doneS (upsNext j t1)) := Lib.hid (by rw [HF1.out, HF0.out])
        obtain ⟨ee, hee⟩ : ∃ ee, (upsNext j t1).e = ee := ⟨_, rfl⟩
        rw [hee] at hen he
        have ez : ((ee : Int) == 0) = false := by rw [beq_eq_false_iff_ne]; omega
        obtain ⟨t, ht⟩ : ∃ t, upsNext j t1 = t := ⟨_, rfl⟩
        rw [ht] at HNE HFin hrg
        clear hee he ht HF0 HF1
        have S9 := Lib.hid (fDone_any _ B t wr hrg.out.rd)
        obtain ⟨E, hE⟩ : ∃ E, doneS t = E := ⟨_, rfl⟩
        rw [hE] at S9 HFin
        rw [hE] at HNE
        clear hE
        go_wp2_with fail
        refine S9.out.mono ?_
        rintro e w9 ⟨rfl, rfl⟩
        obtain ⟨q0, q1, q2, q3, q4, q5⟩ := blk6 hrg.out.out
        have g0 := blk_froz hrg.out.out 0
        have g1 := blk_froz hrg.out.out 1
        have g2 := blk_froz hrg.out.out 2
        have g3 := blk_froz hrg.out.out 3
        have g4 := blk_froz hrg.out.out 4
        have g5 := blk_froz hrg.out.out 5
        have hE0 := HNE.out
        have E1 : ((E : Int) != 0) = true := by rw [bne_iff_ne]; omega
        have E2 : ((E : Int) == 0) = false := by rw [beq_eq_false_iff_ne]; omega
        have HEG : Hid (errG (6 : Int) xs = E) := Lib.hid (by rw [HErr.out, HFin.out, if_pos hE0])
        have HP9 : Hid (PO = GetPost msNone E w) := Lib.hid (by rw [← HPO.out, HEG.out, if_neg hE0])
        clear hE0
        go_wp2
        obtain ⟨d0, d1, d2, d3, d4, d5⟩ := blk6 (set6_blk hrg.out.out (.int .i64 0) (.int .u32 0) (.int .i64 0) (.int .i64 0) (.bool false) (.slice none 0 0))
        refine bodyPost_ret (v := .tuple #[.agg #[.int .i64 0, .int .u32 0, .int .i64 0, .int .i64 0, .bool false, .slice none 0 0], .int .i64 (E : Int)]) (by simp [results, Try.results15, go_sem, d0, d1, d2, d3, d4, d5]) rfl ?_
        rw [HP9.out]
        exact get_fin (x := miNone) hrg.out.below (by rw [HX.out]; exact Nat.le_succ X) ⟨UsOk.none _, TyU.nil _ _ _⟩ (fun b off e => by cases e) rfl _ _ _ _ _ _
    · obtain rfl : j = N := by omega
      have HF1 := HFin
      clear HFin
      have HFin : Hid (doneS (rS6 (6 : Int) s0) = doneS (upsNext j t1)) := Lib.hid (by rw [HF1.out])
      obtain ⟨t, ht⟩ : ∃ t, upsNext j t1 = t := ⟨_, rfl⟩
      obtain ⟨mm, hmm⟩ : ∃ mm : Ms, { m2 with us := upsOut j t1 } = mm := ⟨_, rfl⟩
      rw [ht] at HFin hrg
      rw [hmm] at HMf hrg
      clear ht hmm HF1 hen hlt
      have S9 := Lib.hid (fDone_any _ B t wr hrg.out.rd)
      obtain ⟨E, hE⟩ : ∃ E, doneS t = E := ⟨_, rfl⟩
      rw [hE] at S9 HFin
      clear hE
      go_wp2_with fail
      refine S9.out.mono ?_
      rintro e w9 ⟨rfl, rfl⟩
      obtain ⟨q0, q1, q2, q3, q4, q5⟩ := blk6 hrg.out.out
      have g0 := blk_froz hrg.out.out 0
      have g1 := blk_froz hrg.out.out 1
      have g2 := blk_froz hrg.out.out 2
      have g3 := blk_froz hrg.out.out 3
      have g4 := blk_froz hrg.out.out 4
      have g5 := blk_froz hrg.out.out 5
      by_cases hE0 : E = 0
      · subst hE0
        obtain ⟨x, hxm, hv, hxu, hxn⟩ := hrg.out.mi
        have HXu := Lib.hid hxu
        have HXn := Lib.hid hxn
        have HXm := Lib.hid hxm
        have e0 : mm.kind = x.kind := by rw [← hxm]; rfl
        have e1 : mm.seq = x.seq := by rw [← hxm]; rfl
        have e2 : mm.src = x.src := by rw [← hxm]; rfl
        have e3 : mm.tgt = x.tgt := by rw [← hxm]; rfl
        have e4 : mm.rep = x.rep := by rw [← hxm]; rfl
        obtain ⟨n0, n1, n2, n3, n4, n5⟩ := hrg.out.cells
        rw [e0] at n0
        rw [e1] at n1
        rw [e2] at n2
        rw [e3] at n3
        rw [e4] at n4
        rw [hv] at n5
        have HEG : Hid (errG (6 : Int) xs = if (rM (6 : Int) s0).right = true then 0 else 2) := Lib.hid (by rw [HErr.out, HFin.out, if_neg (fun h => h rfl)])
        clear hxu hxn hxm hv e0 e1 e2 e3 e4
        cases hr : mm.right with
        | false =>
          have S2 := Lib.hid (rRight_any x _ HXu.out.1 false (by rw [HXm.out]; exact hr))
          have HP9 : Hid (PO = GetPost msNone 2 w) := Lib.hid (by rw [← HPO.out, HEG.out, HMf.out, hr]; simp)
          unfold miV at S2
          clear hr
          go_wp2_with fail
          refine S2.out.mono ?_
          rintro e w5 ⟨rfl, hb5⟩
          have R5 := Lib.hid (hrg.out.kept hb5)
          clear q0 q1 q2 q3 q4 q5 g0 g1 g2 g3 g4 g5 n0 n1 n2 n3 n4 n5 hb5
          obtain ⟨q0, q1, q2, q3, q4, q5⟩ := blk6 R5.out.out
          have g0 := blk_froz R5.out.out 0
          have g1 := blk_froz R5.out.out 1
          have g2 := blk_froz R5.out.out 2
          have g3 := blk_froz R5.out.out 3
          have g4 := blk_froz R5.out.out 4
          have g5 := blk_froz R5.out.out 5
          go_wp2
          obtain ⟨d0, d1, d2, d3, d4, d5⟩ := blk6 (set6_blk R5.out.out (.int .i64 0) (.int .u32 0) (.int .i64 0) (.int .i64 0) (.bool false) (.slice none 0 0))
          refine bodyPost_ret (v := .tuple #[.agg #[.int .i64 0, .int .u32 0, .int .i64 0, .int .i64 0, .bool false, .slice none 0 0], .int .i64 2]) (by simp [results, Try.results15, go_sem, d0, d1, d2, d3, d4, d5]) rfl ?_
          rw [HP9.out]
          exact get_fin (x := miNone) (E := 2) R5.out.below (by rw [HX.out]; exact Nat.le_succ X) ⟨UsOk.none _, TyU.nil _ _ _⟩ (fun b off e => by cases e) rfl _ _ _ _ _ _
        | true =>
          have S2 := Lib.hid (rRight_any x _ HXu.out.1 true (by rw [HXm.out]; exact hr))
          have HP9 : Hid (PO = GetPost mm 0 w) := Lib.hid (by rw [← HPO.out, HEG.out, HMf.out, hr]; simp)
          unfold miV at S2
          go_wp2_with fail
          refine S2.out.mono ?_
          rintro e w5 ⟨rfl, hb5⟩
          have R5 := Lib.hid (hrg.out.kept hb5)
          have HU5 : Hid (UsOk w5 x.us ∧ TyU w5 x.us) := Lib.hid ⟨HXu.out.1.below hb5, HXu.out.2.below hb5⟩
          have t0 := (hb5.cell (p := ⟨M, 0, none⟩) (bcell_lt n0)).trans n0
          have t1 := (hb5.cell (p := ⟨M, 1, none⟩) (bcell_lt n1)).trans n1
          have t2 := (hb5.cell (p := ⟨M, 2, none⟩) (bcell_lt n2)).trans n2
          have t3 := (hb5.cell (p := ⟨M, 3, none⟩) (bcell_lt n3)).trans n3
          have t4 := (hb5.cell (p := ⟨M, 4, none⟩) (bcell_lt n4)).trans n4
          have t5 := (hb5.cell (p := ⟨M, 5, none⟩) (bcell_lt n5)).trans n5
          clear q0 q1 q2 q3 q4 q5 g0 g1 g2 g3 g4 g5 n0 n1 n2 n3 n4 n5 hb5 hr
          obtain ⟨q0, q1, q2, q3, q4, q5⟩ := blk6 R5.out.out
          have g0 := blk_froz R5.out.out 0
          have g1 := blk_froz R5.out.out 1
          have g2 := blk_froz R5.out.out 2
          have g3 := blk_froz R5.out.out 3
          have g4 := blk_froz R5.out.out 4
          have g5 := blk_froz R5.out.out 5
          go_wp2
          clear t0 t1 t2 t3 t4 t5
          obtain ⟨d0, d1, d2, d3, d4, d5⟩ := blk6 (set6_blk R5.out.out (.int .i64 x.kind) (.int .u32 (x.seq : Int)) (.int .i64 x.src) (.int .i64 x.tgt) (.bool x.rep) (.slice x.us.A x.us.l.length x.us.c))
          refine bodyPost_ret (v := .tuple #[.agg #[.int .i64 x.kind, .int .u32 (x.seq : Int), .int .i64 x.src, .int .i64 x.tgt, .bool x.rep, .slice x.us.A x.us.l.length x.us.c], .int .i64 0]) (by simp [results, Try.results15, go_sem, d0, d1, d2, d3, d4, d5]) rfl ?_
          rw [HP9.out]
          exact get_fin (x := x) (E := 0) R5.out.below (by rw [HX.out]; exact Nat.le_succ X) HU5.out (fun b off e => by
            have h9 := HXn.out b off e
            have h10 := R5.out.far
            omega) HXm.out _ _ _ _ _ _
      · have E1 : ((E : Int) != 0) = true := by rw [bne_iff_ne]; omega
        have E2 : ((E : Int) == 0) = false := by rw [beq_eq_false_iff_ne]; omega
        have HEG : Hid (errG (6 : Int) xs = E) := Lib.hid (by rw [HErr.out, HFin.out, if_pos hE0])
        have HP9 : Hid (PO = GetPost msNone E w) := Lib.hid (by rw [← HPO.out, HEG.out, if_neg hE0])
        clear hE0
        go_wp2
        obtain ⟨d0, d1, d2, d3, d4, d5⟩ := blk6 (set6_blk hrg.out.out (.int .i64 0) (.int .u32 0) (.int .i64 0) (.int .i64 0) (.bool false) (.slice none 0 0))
        refine bodyPost_ret (v := .tuple #[.agg #[.int .i64 0, .int .u32 0, .int .i64 0, .int .i64 0, .bool false, .slice none 0 0], .int .i64 (E : Int)]) (by simp [results, Try.results15, go_sem, d0, d1, d2, d3, d4, d5]) rfl ?_
        rw [HP9.out]
        exact get_fin (x := miNone) hrg.out.below (by rw [HX.out]; exact Nat.le_succ X) ⟨UsOk.none _, TyU.nil _ _ _⟩ (fun b off e => by cases e) rfl _ _ _ _ _ _
theorem rget_any (k : Nat) (h1 : 1 ≤ k) (h6 : k ≤ 6) (A : Option Addr) (n c : Nat) (xs : List UInt8) (w : World) (hB : BodyAt w A c xs) (hn : xs.length = n) :
    Calls Try.prog 15 #[frIn k A n c] w (GetPost (if errG k xs = 0 then rM k ⟨xs, 0⟩ else msNone) (errG k xs) w) := by
  match k, h1, h6 with
  | 1, _, _ => exact rget_1 A n c xs w hB hn
  | 2, _, _ => exact rget_2 A n c xs w hB hn
  | 3, _, _ => exact rget_3 A n c xs w hB hn
  | 4, _, _ => exact rget_4 A n c xs w hB hn
  | 5, _, _ => exact rget_5 A n c xs w hB hn
  | 6, _, _ => exact rget_6 A n c xs w hB hn
end Go.Proofs.Ytjbemjnofnifaaa
