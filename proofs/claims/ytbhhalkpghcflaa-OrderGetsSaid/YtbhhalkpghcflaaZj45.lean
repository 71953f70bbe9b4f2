/-
  The document's read, walked (layer 20).
-/
import Derived.Test.YtbhhalkpghcflaaZj44
namespace Go.Proofs.Ytbhhalkpghcflaa
open Go.RowKit
set_option linter.unusedSimpArgs false
set_option linter.unusedVariables false

set_option maxRecDepth 100000 in
set_option maxHeartbeats 4000000 in
theorem fread_gen (deep : Bool) (may : Nat) (hmay : may = if deep then 32767 else 65535) (S : Nat → Prop) (R : Nat) (s : St) (w : World) (hr : RfAt S w R s) (hSn : ∀ k, w.heap.size ≤ k → S k)
    (hsub : deep = false → ∀ W s', w.heap.size ≤ W.heap.size → RfAt S W R s' → Calls Try.prog 30 #[.pointer (some ⟨R, 0, none⟩), .bool true] W (FdP 32767 S R W s')) :
    Calls Try.prog 30 #[.pointer (some ⟨R, 0, none⟩), .bool deep] w (FdP may S R w s) := by
  have hRlt := hr.lt
  obtain ⟨w2, hw2⟩ : ∃ w2, (w.alloc (.cells #[.int .i64 0, .int .i64 0, .int .i64 0, .int .i64 0, .string ⟨#[]⟩, .string ⟨#[]⟩, .string ⟨#[]⟩, .string ⟨#[]⟩, .string ⟨#[]⟩, .string ⟨#[]⟩, .string ⟨#[]⟩, .string ⟨#[]⟩, .slice none 0 0, .bool false, .int .u64 0, .int .u64 0, .slice none 0 0] TCm)).alloc (.cells #[.int .i64 0, .int .i64 0, .int .i64 0, .int .i64 0, .string ⟨#[]⟩, .string ⟨#[]⟩, .string ⟨#[]⟩, .string ⟨#[]⟩, .string ⟨#[]⟩, .string ⟨#[]⟩, .string ⟨#[]⟩, .string ⟨#[]⟩, .slice none 0 0, .bool false, .int .u64 0, .int .u64 0, .slice none 0 0] TCm) = w2 := ⟨_, rfl⟩
  have hb2 : Below w.heap.size w w2 := by rw [← hw2]; exact ((Below.refl _ w).alloc (Nat.le_refl _) _).alloc (by simp) _
  have hsz2 : w2.heap.size = w.heap.size + 2 := by rw [← hw2]; simp
  have hp2 : w2.heap[w.heap.size]? = some (.cells #[.int .i64 0, .int .i64 0, .int .i64 0, .int .i64 0, .string ⟨#[]⟩, .string ⟨#[]⟩, .string ⟨#[]⟩, .string ⟨#[]⟩, .string ⟨#[]⟩, .string ⟨#[]⟩, .string ⟨#[]⟩, .string ⟨#[]⟩, .slice none 0 0, .bool false, .int .u64 0, .int .u64 0, .slice none 0 0] TCm (0, 0)) := by rw [← hw2]; exact (Below.heap_alloc _ _ _ (by simp)).trans (heap_alloc_new w _)
  have hq2 : w2.heap[w.heap.size + 1]? = some (.cells #[.int .i64 0, .int .i64 0, .int .i64 0, .int .i64 0, .string ⟨#[]⟩, .string ⟨#[]⟩, .string ⟨#[]⟩, .string ⟨#[]⟩, .string ⟨#[]⟩, .string ⟨#[]⟩, .string ⟨#[]⟩, .string ⟨#[]⟩, .slice none 0 0, .bool false, .int .u64 0, .int .u64 0, .slice none 0 0] TCm (0, 0)) := by
    rw [← hw2]
    have := heap_alloc_new (w.alloc (.cells #[.int .i64 0, .int .i64 0, .int .i64 0, .int .i64 0, .string ⟨#[]⟩, .string ⟨#[]⟩, .string ⟨#[]⟩, .string ⟨#[]⟩, .string ⟨#[]⟩, .string ⟨#[]⟩, .string ⟨#[]⟩, .string ⟨#[]⟩, .slice none 0 0, .bool false, .int .u64 0, .int .u64 0, .slice none 0 0] TCm)) (.cells #[.int .i64 0, .int .i64 0, .int .i64 0, .int .i64 0, .string ⟨#[]⟩, .string ⟨#[]⟩, .string ⟨#[]⟩, .string ⟨#[]⟩, .string ⟨#[]⟩, .string ⟨#[]⟩, .string ⟨#[]⟩, .string ⟨#[]⟩, .slice none 0 0, .bool false, .int .u64 0, .int .u64 0, .slice none 0 0] TCm)
    simpa using this
  have CN := Lib.hid (fNum_any S R 255 s w2 (hr.below hb2) (by decide))
  have hk255 := num_out_le 255 s
  have hkg := kindG_num may s
  obtain ⟨kn, hkn⟩ : ∃ kn, (itNum 255).out s = kn := ⟨_, rfl⟩
  obtain ⟨s1, hs1⟩ : ∃ s1, (itNum 255).next s = s1 := ⟨_, rfl⟩
  rw [hkn, hs1] at CN hkg
  rw [hkn] at hk255
  rw [hmay, badK_is] at hkg
  rw [← hmay] at hkg
  have HKG := Lib.hid hkg
  have CH := Lib.hid (fun W => rhas_any (kn : Int) W ⟨by omega, by omega⟩)
  obtain ⟨P, hP⟩ : ∃ P, w.heap.size = P := ⟨_, rfl⟩
  rw [hP] at hsz2 hp2 hq2
  have HSN := Lib.hid hSn
  have HSUB := Lib.hid hsub
  have LOW2 : Hid (But (fun k => k = R) w w2) := Lib.hid (But.of_below hb2)
  have HP2 := Lib.hid hp2
  have HQ2 := Lib.hid hq2
  have HMAY := Lib.hid hmay
  have hRP : R < P := by omega
  have HPW := Lib.hid hP
  have e1 : IntKind.i64.wrap (kn : Int) = (kn : Int) := IntWalk.i64_in _ (by omega)
  have HSP : Hid (S P ∧ S (P + 1)) := Lib.hid ⟨hSn _ (by omega), hSn _ (by omega)⟩
  clear hr hSn hsub hb2 hp2 hq2 hkn hs1 hkg hmay
  have HW2 := Lib.hid hw2
  clear hw2
  unfold u64V at CN
  go_enter Try.func30, Try.ntmps30
  go_wp2_with fail
  rw [HW2.out]
  refine CN.out.mono ?_
  rintro e w3 ⟨rfl, hr3, hb3⟩
  have hp3 := (hb3.block P (by omega) (by omega)).trans HP2.out
  have hq3 := (hb3.block (P + 1) (by omega) (by omega)).trans HQ2.out
  have c0 : w3.cell? ⟨P + 1, 0, none⟩ = some (.int .i64 0) := by rw [cell_of_row w3 (P + 1) 0 _ TCm (0, 0) hq3]; rfl
  have f0 : w3.frozen? ⟨P + 1, 0, none⟩ = false := by unfold World.frozen?; rw [hq3]; simp
  obtain ⟨w4, hw4⟩ : ∃ w4, w3.setCell ⟨P + 1, 0, none⟩ (.int .i64 (kn : Int)) = w4 := ⟨_, rfl⟩
  have hb4 : But (fun k => k = P + 1) w3 w4 := by rw [← hw4]; exact But.set (S := fun k => k = P + 1) w3 (p := ⟨P + 1, 0, none⟩) rfl _
  have HQ4 : Hid (w4.heap[P + 1]? = some (.cells #[.int .i64 (kn : Int), .int .i64 0, .int .i64 0, .int .i64 0, .string ⟨#[]⟩, .string ⟨#[]⟩, .string ⟨#[]⟩, .string ⟨#[]⟩, .string ⟨#[]⟩, .string ⟨#[]⟩, .string ⟨#[]⟩, .string ⟨#[]⟩, .slice none 0 0, .bool false, .int .u64 0, .int .u64 0, .slice none 0 0] TCm (0, 0))) := Lib.hid (by rw [← hw4]; exact block_set hq3 0 _)
  have HP4 := Lib.hid ((hb4.block P (block_lt hp3) (by omega)).trans hp3)
  have LOW4 := Lib.hid ((LOW2.out.trans hb3).then_ hb4 (fun i hi hlt => by omega))
  have HR4 := Lib.hid (hr3.but hb4 (fun k hk => hk ▸ HSP.out.2) (by omega))
  have HS4 := Lib.hid (show P + 1 < w4.heap.size from block_lt HQ4.out)
  have HW4 := Lib.hid hw4
  clear hr3 hb3 hp3 hq3 hw4 hb4 CN HW2 HP2 HQ2 LOW2 hsz2
  go_wp2_with fail
  rw [HW4.out]
  refine (CH.out w4).mono ?_
  rintro e w5 ⟨rfl, hb5⟩
  have HQ5 := Lib.hid ((hb5.block (P + 1) HS4.out).trans HQ4.out)
  have HP5 := Lib.hid ((hb5.block P (by have := HS4.out; omega)).trans HP4.out)
  have LOW5 := Lib.hid (LOW4.out.trans (But.of_below hb5))
  have HR5 := Lib.hid (HR4.out.below hb5)
  have HS5 := Lib.hid (Nat.lt_of_lt_of_le HS4.out hb5.size)
  clear c0 f0 hb5 HQ4 HP4 LOW4 HR4 HS4 CH HW4
  have q1 := HR5.out.err
  have EARLY : Hid (∀ W, ((genC may).rd s).2.e ≠ 0 → But (fun k => k = R) w W → RfAt S W R ((genC may).rd s).2 → W.heap[P]? = some (.cells #[.int .i64 0, .int .i64 0, .int .i64 0, .int .i64 0, .string ⟨#[]⟩, .string ⟨#[]⟩, .string ⟨#[]⟩, .string ⟨#[]⟩, .string ⟨#[]⟩, .string ⟨#[]⟩, .string ⟨#[]⟩, .string ⟨#[]⟩, .slice none 0 0, .bool false, .int .u64 0, .int .u64 0, .slice none 0 0] TCm (0, 0)) → FdP may S R w s (.returned (cmV (y0 kn))) (W.setRow P #[.int .i64 (kn : Int), .int .i64 0, .int .i64 0, .int .i64 0, .string ⟨#[]⟩, .string ⟨#[]⟩, .string ⟨#[]⟩, .string ⟨#[]⟩, .string ⟨#[]⟩, .string ⟨#[]⟩, .string ⟨#[]⟩, .string ⟨#[]⟩, .slice none 0 0, .bool false, .int .u64 0, .int .u64 0, .slice none 0 0])) := Lib.hid (fun W he hl hr hp => by
    have hb := but_setRow W P #[.int .i64 (kn : Int), .int .i64 0, .int .i64 0, .int .i64 0, .string ⟨#[]⟩, .string ⟨#[]⟩, .string ⟨#[]⟩, .string ⟨#[]⟩, .string ⟨#[]⟩, .string ⟨#[]⟩, .string ⟨#[]⟩, .string ⟨#[]⟩, .slice none 0 0, .bool false, .int .u64 0, .int .u64 0, .slice none 0 0]
    exact ⟨hl.then_ hb (fun i hi hlt => by have := HPW.out; omega), (y0 kn, []), [], rfl, hr.but hb (fun k hk => hk ▸ HSP.out.1) (by omega), genR_early hk255 he⟩)
  by_cases he : s1.e = 0
  · by_cases hbad : badK deep kn = true
    · by_cases hko : kindOk (kn : Int) = true
      · have hdk : deep = true ∧ kn = 18 := by
          unfold badK at hbad
          rw [hko] at hbad
          simpa using hbad
        obtain ⟨rfl, h18⟩ := hdk
        have u18 : ((kn : Int) == 18) = true := by rw [h18]; rfl
        obtain ⟨hss, hhs⟩ : ∃ hss, hasS (kn : Int) = hss := ⟨_, rfl⟩
        have hne : ¬ hss.toList = [] := by
          rw [ByteArray.toList_eq, ← hhs]
          intro e
          have h1 := hasS_size hko
          have h2 : (hasS (kn : Int)).data.toList.length = 16 := by rw [Array.length_toList]; exact h1
          rw [e] at h2
          cases h2
        have hne2 : hss.toList.isEmpty = false := by rw [List.isEmpty_eq_false_iff]; exact hne
        rw [hhs]
        have hg : ((kindG may).rd s) = (kn, ⟨s1.b, 40⟩) := by rw [HKG.out, if_pos ⟨he, by rw [hbad]; rfl⟩]
        have hE : ((genC may).rd s).2 = ⟨s1.b, 40⟩ := by rw [genC_err (by rw [hg]; show (40 : Nat) ≠ 0; decide), hg]
        have f1 : w5.frozen? ⟨R, 1, none⟩ = false := by
          obtain ⟨_, A, n, c, hh, _⟩ := HR5.out
          unfold World.frozen?
          rw [hh]
          simp
        obtain ⟨w6, hw6⟩ : ∃ w6, w5.setCell ⟨R, 1, none⟩ (.int .i64 40) = w6 := ⟨_, rfl⟩
        have hb6 : But (fun k => k = R) w5 w6 := by rw [← hw6]; exact But.set (S := fun k => k = R) w5 (p := ⟨R, 1, none⟩) rfl _
        have HP6 := Lib.hid ((hb6.block P (block_lt HP5.out) (by omega)).trans HP5.out)
        have HQ6 := Lib.hid ((hb6.block (P + 1) (block_lt HQ5.out) (by omega)).trans HQ5.out)
        have HR6 : RfAt S w6 R ⟨s1.b, 40⟩ := by rw [← hw6]; exact HR5.out.fail 40
        have q6 := HR6.err
        have HRES := Lib.hid (EARLY.out w6 (by rw [hE]; show (40 : Nat) ≠ 0; decide) (LOW5.out.trans hb6) (by rw [hE]; exact HR6) HP6.out)
        have HIR := Lib.hid (range_row HQ6.out)
        have HNEW := Lib.hid (setRow_heap w6 P _ #[.int .i64 (kn : Int), .int .i64 0, .int .i64 0, .int .i64 0, .string ⟨#[]⟩, .string ⟨#[]⟩, .string ⟨#[]⟩, .string ⟨#[]⟩, .string ⟨#[]⟩, .string ⟨#[]⟩, .string ⟨#[]⟩, .string ⟨#[]⟩, .slice none 0 0, .bool false, .int .u64 0, .int .u64 0, .slice none 0 0] TCm (0, 0) HP6.out)
        have qk : w5.cell? ⟨P + 1, 0, none⟩ = some (.int .i64 (kn : Int)) := by rw [cell_of_row w5 (P + 1) 0 _ TCm (0, 0) HQ5.out]; rfl
        subst hw6
        rw [he] at q1
        clear hg hE hb6 HR6 EARLY he q6
        clear hhs hbad hko h18
        go_wp2_with (first | (refine wpList_load_mid rfl TCm (.tmp 5) rfl (P + 1) 0 rfl [.int .i64 (kn : Int), .int .i64 0, .int .i64 0, .int .i64 0, .string ⟨#[]⟩, .string ⟨#[]⟩, .string ⟨#[]⟩, .string ⟨#[]⟩, .string ⟨#[]⟩, .string ⟨#[]⟩, .string ⟨#[]⟩, .string ⟨#[]⟩, .slice none 0 0, .bool false, .int .u64 0, .int .u64 0, .slice none 0 0] _ HIR.out Try.underlying26 rfl (by kernel_rfl) ?_) | (refine wpList_store_row rfl TCm (.tmp 4) (.tmp 45) rfl P #[.int .i64 (kn : Int), .int .i64 0, .int .i64 0, .int .i64 0, .string ⟨#[]⟩, .string ⟨#[]⟩, .string ⟨#[]⟩, .string ⟨#[]⟩, .string ⟨#[]⟩, .string ⟨#[]⟩, .string ⟨#[]⟩, .string ⟨#[]⟩, .slice none 0 0, .bool false, .int .u64 0, .int .u64 0, .slice none 0 0] rfl rfl TCm #[.int .i64 0, .int .i64 0, .int .i64 0, .int .i64 0, .string ⟨#[]⟩, .string ⟨#[]⟩, .string ⟨#[]⟩, .string ⟨#[]⟩, .string ⟨#[]⟩, .string ⟨#[]⟩, .string ⟨#[]⟩, .string ⟨#[]⟩, .slice none 0 0, .bool false, .int .u64 0, .int .u64 0, .slice none 0 0] HP6.out cm_info rfl (by kernel_rfl) ?_))
        exact bodyPost_ret (v := cmV (y0 kn)) (results_cell_row rfl _ _ _ TCm _ (0, 0) _ rfl HNEW.out Try.underlying26 rfl (by kernel_rfl)) rfl HRES.out
      · rw [hasS_none (by simpa using hko)]
        have hg : ((kindG may).rd s) = (kn, ⟨s1.b, 40⟩) := by rw [HKG.out, if_pos ⟨he, by rw [hbad]; rfl⟩]
        have hE : ((genC may).rd s).2 = ⟨s1.b, 40⟩ := by rw [genC_err (by rw [hg]; show (40 : Nat) ≠ 0; decide), hg]
        have f1 : w5.frozen? ⟨R, 1, none⟩ = false := by
          obtain ⟨_, A, n, c, hh, _⟩ := HR5.out
          unfold World.frozen?
          rw [hh]
          simp
        obtain ⟨w6, hw6⟩ : ∃ w6, w5.setCell ⟨R, 1, none⟩ (.int .i64 40) = w6 := ⟨_, rfl⟩
        have hb6 : But (fun k => k = R) w5 w6 := by rw [← hw6]; exact But.set (S := fun k => k = R) w5 (p := ⟨R, 1, none⟩) rfl _
        have HP6 := Lib.hid ((hb6.block P (block_lt HP5.out) (by omega)).trans HP5.out)
        have HQ6 := Lib.hid ((hb6.block (P + 1) (block_lt HQ5.out) (by omega)).trans HQ5.out)
        have HR6 : RfAt S w6 R ⟨s1.b, 40⟩ := by rw [← hw6]; exact HR5.out.fail 40
        have q6 := HR6.err
        have HRES := Lib.hid (EARLY.out w6 (by rw [hE]; show (40 : Nat) ≠ 0; decide) (LOW5.out.trans hb6) (by rw [hE]; exact HR6) HP6.out)
        have HIR := Lib.hid (range_row HQ6.out)
        have HNEW := Lib.hid (setRow_heap w6 P _ #[.int .i64 (kn : Int), .int .i64 0, .int .i64 0, .int .i64 0, .string ⟨#[]⟩, .string ⟨#[]⟩, .string ⟨#[]⟩, .string ⟨#[]⟩, .string ⟨#[]⟩, .string ⟨#[]⟩, .string ⟨#[]⟩, .string ⟨#[]⟩, .slice none 0 0, .bool false, .int .u64 0, .int .u64 0, .slice none 0 0] TCm (0, 0) HP6.out)
        have qk : w5.cell? ⟨P + 1, 0, none⟩ = some (.int .i64 (kn : Int)) := by rw [cell_of_row w5 (P + 1) 0 _ TCm (0, 0) HQ5.out]; rfl
        subst hw6
        rw [he] at q1
        clear hg hE hb6 HR6 EARLY he q6
        clear hbad hko
        go_wp2_with (first | (refine wpList_load_mid rfl TCm (.tmp 5) rfl (P + 1) 0 rfl [.int .i64 (kn : Int), .int .i64 0, .int .i64 0, .int .i64 0, .string ⟨#[]⟩, .string ⟨#[]⟩, .string ⟨#[]⟩, .string ⟨#[]⟩, .string ⟨#[]⟩, .string ⟨#[]⟩, .string ⟨#[]⟩, .string ⟨#[]⟩, .slice none 0 0, .bool false, .int .u64 0, .int .u64 0, .slice none 0 0] _ HIR.out Try.underlying26 rfl (by kernel_rfl) ?_) | (refine wpList_store_row rfl TCm (.tmp 4) (.tmp 45) rfl P #[.int .i64 (kn : Int), .int .i64 0, .int .i64 0, .int .i64 0, .string ⟨#[]⟩, .string ⟨#[]⟩, .string ⟨#[]⟩, .string ⟨#[]⟩, .string ⟨#[]⟩, .string ⟨#[]⟩, .string ⟨#[]⟩, .string ⟨#[]⟩, .slice none 0 0, .bool false, .int .u64 0, .int .u64 0, .slice none 0 0] rfl rfl TCm #[.int .i64 0, .int .i64 0, .int .i64 0, .int .i64 0, .string ⟨#[]⟩, .string ⟨#[]⟩, .string ⟨#[]⟩, .string ⟨#[]⟩, .string ⟨#[]⟩, .string ⟨#[]⟩, .string ⟨#[]⟩, .string ⟨#[]⟩, .slice none 0 0, .bool false, .int .u64 0, .int .u64 0, .slice none 0 0] HP6.out cm_info rfl (by kernel_rfl) ?_))
        exact bodyPost_ret (v := cmV (y0 kn)) (results_cell_row rfl _ _ _ TCm _ (0, 0) _ rfl HNEW.out Try.underlying26 rfl (by kernel_rfl)) rfl HRES.out
    · have hbad' : badK deep kn = false := by simpa using hbad
      have hko : kindOk (kn : Int) = true := by
        unfold badK at hbad'
        simp only [Bool.or_eq_false_iff, Bool.not_eq_false'] at hbad'
        exact hbad'.1
      have hdk : (deep && decide (kn = 18)) = false := by
        unfold badK at hbad'
        simp only [Bool.or_eq_false_iff] at hbad'
        exact hbad'.2
      have HG2 : Hid (((kindG may).rd s) = (kn, s1)) := Lib.hid (by rw [HKG.out, if_neg (fun h => by rw [hbad'] at h; exact absurd h.2 (by decide))])
      obtain ⟨hss, hhs⟩ : ∃ hss, hasS (kn : Int) = hss := ⟨_, rfl⟩
      have hz : hss.size = 16 := by rw [← hhs]; exact hasS_size hko
      have HX := Lib.hid (show ∀ i (hi : i < 16), hss[i]'(by omega) = if hasB kn i then 120 else 46 from fun i hi => by
        subst hhs
        exact hasS_at hko hi _)
      have hne : ¬ hss.toList = [] := by
        rw [ByteArray.toList_eq]
        intro e
        have h2 : hss.data.toList.length = 16 := by rw [Array.length_toList]; exact hz
        rw [e] at h2
        cases h2
      have HDK : Hid (hasB kn 15 = (maskN (kn : Int) &&& may).testBit 15) := Lib.hid (by
        rw [HMAY.out]
        cases deep with
        | false =>
          show _ = (maskN (kn : Int) &&& 65535).testBit 15
          rw [mask_all, maskN_bit _ (by decide), Int.toNat_natCast]
        | true =>
          show _ = (maskN (kn : Int) &&& 32767).testBit 15
          rw [mask_in15]
          have h18 : kn ≠ 18 := by simpa using hdk
          have := not15 hko (by omega)
          rwa [Int.toNat_natCast] at this)
      have u18 : (deep && ((kn : Int) == 18)) = false := by
        cases deep with
        | false => rfl
        | true =>
          have h18 : kn ≠ 18 := by simpa using hdk
          rw [Bool.true_and, beq_eq_false_iff_ne]
          omega
      have HE := Lib.hid he
      have qk : w5.cell? ⟨P + 1, 0, none⟩ = some (.int .i64 (kn : Int)) := by rw [cell_of_row w5 (P + 1) 0 _ TCm (0, 0) HQ5.out]; rfl
      have HSUB2 : Hid (hasB kn 15 = true → ∀ W s', w.heap.size ≤ W.heap.size → RfAt S W R s' → Calls Try.prog 30 #[.pointer (some ⟨R, 0, none⟩), .bool true] W (FdP 32767 S R W s')) := Lib.hid (fun h15 => HSUB.out (by
        cases deep with
        | false => rfl
        | true =>
          have h18 : kn ≠ 18 := by simpa using hdk
          have := not15 hko (by omega)
          rw [Int.toNat_natCast, h15] at this
          cases this))
      rw [he] at q1
      have hne2 : hss.toList.isEmpty = false := by rw [List.isEmpty_eq_false_iff]; exact hne
      rw [hhs]
      clear hhs hbad hbad' hko hdk EARLY HSUB HKG he
      have u18' : deep = true → ((kn : Int) == 18) = false := fun h => by rw [h, Bool.true_and] at u18; exact u18
      obtain ⟨w6, hw6⟩ : ∃ w6, w5.alloc (.cells #[.int .i64 0, .int .i64 0, .int .i64 0] 88) = w6 := ⟨_, rfl⟩
      have hb6 : Below w5.heap.size w5 w6 := by rw [← hw6]; exact (Below.refl _ w5).alloc (Nat.le_refl _) _
      obtain ⟨Nb, hNb⟩ : ∃ Nb, w5.heap.size = Nb := ⟨_, rfl⟩
      have HA6 : Hid (ArI kn s1 Nb 88 0 3 0 w6) := Lib.hid ⟨#[.int .i64 0, .int .i64 0, .int .i64 0], by rw [← hw6, ← hNb]; exact heap_alloc_new w5 _, rfl⟩
      have HQ6 := Lib.hid ((hb6.block (P + 1) HS5.out).trans HQ5.out)
      have HP6 := Lib.hid ((hb6.block P (by have := HS5.out; omega)).trans HP5.out)
      have LOW6 := Lib.hid (LOW5.out.trans (But.of_below hb6))
      have HR6 := Lib.hid (HR5.out.below hb6)
      have hNP : P + 1 < Nb := by have := HS5.out; omega
      have HW6 := Lib.hid hw6
      have HNb := Lib.hid hNb
      clear hb6 hw6 hNb HQ5 HP5 LOW5 HR5
      cases deep
      all_goals
        first | (have u18'' := u18' rfl) | skip
        go_wp2_with fail
        rw [HW6.out, HNb.out]
        clear u18' u18 qk q1 hne hne2 HW6 HNb HS5
        go_loopw [8] (fun i wr => ∃ k : Nat, k ≤ 3 ∧ i = .int .i64 k ∧ But (fun j => j = R ∨ j = Nb) w6 wr ∧ RfAt S wr R (stK kn s1 k) ∧ ArI kn s1 Nb 88 0 3 k wr) (fun i _ => 3 - (intOf i).toNat)
        case atStart => exact ⟨0, Nat.zero_le _, rfl, But.refl _ _, HR6.out, HA6.out⟩
        case round =>
          obtain ⟨k, hk, rfl, hlow, hrr, har⟩ := hrel
          have HLW := Lib.hid hlow
          have HRR := Lib.hid hrr
          have HAR := Lib.hid har
          clear hlow hrr har
          by_cases hlt : k < 3
          · have hxk := HX.out k (by omega)
            have t0 : (k : Int) < (hss.size : Int) := by omega
            have u1 : (k : Int) < 3 := by omega
            have u2 : (0 : Int) ≤ (k : Int) := by omega
            cases hh : hasB kn k with
            | true =>
              have C2 := Lib.hid (fNum_any S R 65535 (stK kn s1 k) wr HRR.out (by decide))
              obtain ⟨z, hz'⟩ : ∃ z, (itNum 65535).out (stK kn s1 k) = z := ⟨_, rfl⟩
              have hzl : z ≤ 65535 := by rw [← hz']; exact num_out_le 65535 _
              have hf : (fvC k).rd (stK kn s1 k) = (.num (z : Int), (itNum 65535).next (stK kn s1 k)) := by unfold fvC; rw [if_pos hlt, ← hz']; rfl
              have hst : stK kn s1 (k + 1) = (itNum 65535).next (stK kn s1 k) := by rw [(expL_has (s := s1) (by omega) hh).2, hf]
              have HF' := Lib.hid hf
              have HST := Lib.hid hst
              have HH := Lib.hid hh
              rw [hz'] at C2
              unfold u64V at C2
              have e2 : IntKind.i64.wrap (z : Int) = (z : Int) := IntWalk.i64_in _ (by omega)
              rw [hh, if_pos rfl] at hxk
              clear hh hz' hf hst
              go_wp2_with fail
              refine C2.out.mono ?_
              rintro e w7 ⟨rfl, hr7, hb7⟩
              have A7 := Lib.hid (HAR.out.but hb7 (by omega))
              obtain ⟨⟨c, c0⟩, f0⟩ := A7.out.cell (by decide) hlt
              have HB7 := Lib.hid (HLW.out.trans (hb7.mono (S' := fun j => j = R ∨ j = Nb) (fun j hj => .inl hj)))
              have HR7 := Lib.hid hr7
              clear hr7 hb7 C2
              go_wp2
              go_roundw
              case rel =>
                have hb8 := But.set (S := fun j => j = Nb) w7 (p := ⟨Nb, k, none⟩) rfl (.int .i64 (z : Int))
                exact ⟨k + 1, by omega, by go_num, HB7.out.trans (hb8.mono (fun j hj => .inr hj)), by rw [HST.out]; exact HR7.out.but hb8 (fun j hj => HSN.out j (by omega)) (by omega), A7.out.has (v := .num (z : Int)) (by omega) hlt (by rw [Nat.zero_add]; exact HH.out) (by rw [Nat.zero_add, HF'.out])⟩
              case measure => simp [intOf]; omega
            | false =>
              have hst : stK kn s1 (k + 1) = stK kn s1 k := (expL_no (s := s1) (by omega) hh).2
              have HST := Lib.hid hst
              have HH := Lib.hid hh
              rw [hh, if_neg (by decide)] at hxk
              clear hh hst
              go_wp2
              go_roundw
              case rel => exact ⟨k + 1, by omega, by go_num, HLW.out, by rw [HST.out]; exact HRR.out, HAR.out.no (by omega) (by rw [Nat.zero_add]; exact HH.out)⟩
              case measure => simp [intOf]; omega
          · obtain rfl : k = 3 := by omega
            clear hlt hk
            rw [show ((3 : Nat) : Int) = (3 : Int) from rfl]
            obtain ⟨w7, hw7⟩ : ∃ w7, wr.alloc (.cells #[.string ⟨#[]⟩, .string ⟨#[]⟩, .string ⟨#[]⟩, .string ⟨#[]⟩, .string ⟨#[]⟩, .string ⟨#[]⟩, .string ⟨#[]⟩, .string ⟨#[]⟩] 89) = w7 := ⟨_, rfl⟩
            have hb7 : Below wr.heap.size wr w7 := by rw [← hw7]; exact (Below.refl _ wr).alloc (Nat.le_refl _) _
            obtain ⟨Mb, hMb⟩ : ∃ Mb, wr.heap.size = Mb := ⟨_, rfl⟩
            have HA7 : Hid (ArI kn s1 Mb 89 3 8 0 w7) := Lib.hid ⟨#[.string ⟨#[]⟩, .string ⟨#[]⟩, .string ⟨#[]⟩, .string ⟨#[]⟩, .string ⟨#[]⟩, .string ⟨#[]⟩, .string ⟨#[]⟩, .string ⟨#[]⟩], by rw [← hw7, ← hMb]; exact heap_alloc_new wr _, by rw [show 3 + 0 = 3 from rfl, expL_drop (by decide)]; rfl⟩
            have hNM : Nb < Mb := by
              obtain ⟨arr, h1, _⟩ := HAR.out
              have := block_lt h1
              omega
            have HN7 := Lib.hid (HAR.out.but (But.of_below (S := fun _ => False) hb7) (fun h => h))
            have LOW7 := Lib.hid (LOW6.out.then_ (HLW.out.trans (But.of_below hb7)) (fun i hi hlt => by have := HPW.out; omega))
            have HQ7 := Lib.hid (((HLW.out.trans (But.of_below hb7)).block (P + 1) (block_lt HQ6.out) (by omega)).trans HQ6.out)
            have HP7 := Lib.hid (((HLW.out.trans (But.of_below hb7)).block P (block_lt HP6.out) (by omega)).trans HP6.out)
            have HR7 := Lib.hid (HRR.out.below hb7)
            have HW7 := Lib.hid hw7
            have HMb := Lib.hid hMb
            clear hb7 hw7 hMb HAR HLW HRR HQ6 HP6 LOW6 HR6 HA6
            go_wp2_with fail
            rw [HW7.out, HMb.out]
            clear HW7 HMb
            go_loopw [10] (fun i wr => ∃ k : Nat, k ≤ 8 ∧ i = .int .i64 k ∧ But (fun j => j = R ∨ j = Mb) w7 wr ∧ RfAt S wr R (stK kn s1 (3 + k)) ∧ ArI kn s1 Mb 89 3 8 k wr) (fun i _ => 8 - (intOf i).toNat)
            case atStart => exact ⟨0, Nat.zero_le _, rfl, But.refl _ _, HR7.out, HA7.out⟩
            case round =>
              obtain ⟨k, hk, rfl, hlow, hrr, har⟩ := hrel
              have HLW := Lib.hid hlow
              have HRR := Lib.hid hrr
              have HAR := Lib.hid har
              clear hlow hrr har
              by_cases hlt : k < 8
              · have hxk := HX.out (3 + k) (by omega)
                have ek : IntKind.i64.wrap (3 + (k : Int)) = 3 + (k : Int) := IntWalk.i64_in _ (by omega)
                have ek2 : (3 + (k : Int)).toNat = 3 + k := by omega
                have t0 : 3 + (k : Int) < (hss.size : Int) := by omega
                have t1 : (0 : Int) ≤ 3 + (k : Int) := by omega
                have u1 : (k : Int) < 8 := by omega
                have u2 : (0 : Int) ≤ (k : Int) := by omega
                cases hh : hasB kn (3 + k) with
                | true =>
                  have C2 := Lib.hid (fText_any S R 80 (stK kn s1 (3 + k)) wr HRR.out (by decide))
                  obtain ⟨z, hz'⟩ : ∃ z, (itText 80).out (stK kn s1 (3 + k)) = z := ⟨_, rfl⟩
                  have hf : (fvC (3 + k)).rd (stK kn s1 (3 + k)) = (.text z, (itText 80).next (stK kn s1 (3 + k))) := by unfold fvC; rw [if_neg (by omega), if_pos (by omega), ← hz']; rfl
                  have hst : stK kn s1 (3 + k + 1) = (itText 80).next (stK kn s1 (3 + k)) := by rw [(expL_has (s := s1) (by omega) hh).2, hf]
                  have HF' := Lib.hid hf
                  have HST := Lib.hid hst
                  have HH := Lib.hid hh
                  rw [show ((80 : Int)).toNat = 80 from rfl, hz'] at C2
                  unfold strV at C2
                  rw [hh, if_pos rfl] at hxk
                  clear hh hz' hf hst
                  go_wp2_with fail
                  refine C2.out.mono ?_
                  rintro e w8 ⟨rfl, hr8, hb8⟩
                  have A8 := Lib.hid (HAR.out.but hb8 (by omega))
                  obtain ⟨⟨c, c0⟩, f0⟩ := A8.out.cell (by decide) hlt
                  have HB8 := Lib.hid (HLW.out.trans (hb8.mono (S' := fun j => j = R ∨ j = Mb) (fun j hj => .inl hj)))
                  have HR8 := Lib.hid hr8
                  clear hr8 hb8 C2
                  go_wp2
                  go_roundw
                  case rel =>
                    have hb9 := But.set (S := fun j => j = Mb) w8 (p := ⟨Mb, k, none⟩) rfl (.string ⟨z.toArray⟩)
                    exact ⟨k + 1, by omega, by go_num, HB8.out.trans (hb9.mono (fun j hj => .inr hj)), by rw [show 3 + (k + 1) = 3 + k + 1 from rfl, HST.out]; exact HR8.out.but hb9 (fun j hj => HSN.out j (by omega)) (by omega), A8.out.has (v := .text z) (by omega) hlt HH.out (by rw [HF'.out])⟩
                  case measure => simp [intOf]; omega
                | false =>
                  have hst : stK kn s1 (3 + k + 1) = stK kn s1 (3 + k) := (expL_no (s := s1) (by omega) hh).2
                  have HST := Lib.hid hst
                  have HH := Lib.hid hh
                  rw [hh, if_neg (by decide)] at hxk
                  clear hh hst
                  go_wp2
                  go_roundw
                  case rel => exact ⟨k + 1, by omega, by go_num, HLW.out, by rw [show 3 + (k + 1) = 3 + k + 1 from rfl, HST.out]; exact HRR.out, HAR.out.no (by omega) HH.out⟩
                  case measure => simp [intOf]; omega
              · obtain rfl : k = 8 := by omega
                clear hlt hk
                rw [show ((8 : Nat) : Int) = (8 : Int) from rfl]
                have HN8 := Lib.hid (HN7.out.but HLW.out (by omega))
                have HQ8 := Lib.hid ((HLW.out.block (P + 1) (block_lt HQ7.out) (by omega)).trans HQ7.out)
                have HP8 := Lib.hid ((HLW.out.block P (block_lt HP7.out) (by omega)).trans HP7.out)
                have LOW8 := Lib.hid (LOW7.out.then_ HLW.out (fun i hi hlt => by have := HPW.out; omega))
                obtain ⟨a0, a1, a2, x0, x1, x2, x3, x4, x5, x6, x7, hsh⟩ := good_shape (l := expL kn s1 11) (expL_len (by decide)) (expL_good (by decide))
                have HGD := Lib.hid (expL_good (kn := kn) (s1 := s1) (k := 11) (by decide))
                have HSH := Lib.hid hsh
                obtain ⟨r1, hn1, hn2⟩ := HN8.out
                obtain ⟨r2, hm1, hm2⟩ := HAR.out
                rw [show (0 : Nat) + 3 = 3 from rfl, List.drop_zero, ← expL_take3 (k := 8) (by decide), show 3 + 8 = 11 from rfl, hsh] at hn2
                rw [show 3 + 8 = 11 from rfl, hsh] at hm2
                obtain rfl : r1 = #[.int .i64 a0, .int .i64 a1, .int .i64 a2] := Array.ext' hn2
                obtain rfl : r2 = #[.string ⟨x0.toArray⟩, .string ⟨x1.toArray⟩, .string ⟨x2.toArray⟩, .string ⟨x3.toArray⟩, .string ⟨x4.toArray⟩, .string ⟨x5.toArray⟩, .string ⟨x6.toArray⟩, .string ⟨x7.toArray⟩] := Array.ext' hm2
                have q0 : wr.cell? ⟨P + 1, 0, none⟩ = some (.int .i64 (kn : Int)) := by rw [cell_of_row wr (P + 1) 0 _ TCm (0, 0) HQ8.out]; rfl
                have m0 : wr.cell? ⟨Nb, 0, none⟩ = some (.int .i64 a0) := by rw [cell_of_row wr Nb 0 _ _ (0, 0) hn1]; rfl
                have m1 : wr.cell? ⟨Nb, 1, none⟩ = some (.int .i64 a1) := by rw [cell_of_row wr Nb 1 _ _ (0, 0) hn1]; rfl
                have m2 : wr.cell? ⟨Nb, 2, none⟩ = some (.int .i64 a2) := by rw [cell_of_row wr Nb 2 _ _ (0, 0) hn1]; rfl
                have p0 : wr.cell? ⟨Mb, 0, none⟩ = some (.string ⟨x0.toArray⟩) := by rw [cell_of_row wr Mb 0 _ _ (0, 0) hm1]; rfl
                have p1 : wr.cell? ⟨Mb, 1, none⟩ = some (.string ⟨x1.toArray⟩) := by rw [cell_of_row wr Mb 1 _ _ (0, 0) hm1]; rfl
                have p2 : wr.cell? ⟨Mb, 2, none⟩ = some (.string ⟨x2.toArray⟩) := by rw [cell_of_row wr Mb 2 _ _ (0, 0) hm1]; rfl
                have p3 : wr.cell? ⟨Mb, 3, none⟩ = some (.string ⟨x3.toArray⟩) := by rw [cell_of_row wr Mb 3 _ _ (0, 0) hm1]; rfl
                have p4 : wr.cell? ⟨Mb, 4, none⟩ = some (.string ⟨x4.toArray⟩) := by rw [cell_of_row wr Mb 4 _ _ (0, 0) hm1]; rfl
                have p5 : wr.cell? ⟨Mb, 5, none⟩ = some (.string ⟨x5.toArray⟩) := by rw [cell_of_row wr Mb 5 _ _ (0, 0) hm1]; rfl
                have p6 : wr.cell? ⟨Mb, 6, none⟩ = some (.string ⟨x6.toArray⟩) := by rw [cell_of_row wr Mb 6 _ _ (0, 0) hm1]; rfl
                have p7 : wr.cell? ⟨Mb, 7, none⟩ = some (.string ⟨x7.toArray⟩) := by rw [cell_of_row wr Mb 7 _ _ (0, 0) hm1]; rfl
                obtain ⟨w9, hw9⟩ : ∃ w9, wr.setRow (P + 1) #[.int .i64 (kn : Int), .int .i64 a0, .int .i64 a1, .int .i64 a2, .string ⟨x0.toArray⟩, .string ⟨x1.toArray⟩, .string ⟨x2.toArray⟩, .string ⟨x3.toArray⟩, .string ⟨x4.toArray⟩, .string ⟨x5.toArray⟩, .string ⟨x6.toArray⟩, .string ⟨x7.toArray⟩, .slice none 0 0, .bool false, .int .u64 0, .int .u64 0, .slice none 0 0] = w9 := ⟨_, rfl⟩
                have hb9 : But (fun k => k = P + 1) wr w9 := by rw [← hw9]; exact but_setRow _ _ _
                have hq9 : w9.heap[P + 1]? = some (.cells #[.int .i64 (kn : Int), .int .i64 a0, .int .i64 a1, .int .i64 a2, .string ⟨x0.toArray⟩, .string ⟨x1.toArray⟩, .string ⟨x2.toArray⟩, .string ⟨x3.toArray⟩, .string ⟨x4.toArray⟩, .string ⟨x5.toArray⟩, .string ⟨x6.toArray⟩, .string ⟨x7.toArray⟩, .slice none 0 0, .bool false, .int .u64 0, .int .u64 0, .slice none 0 0] TCm (0, 0)) := by rw [← hw9]; exact setRow_heap wr (P + 1) _ _ TCm (0, 0) HQ8.out
                have ST : Hid (LpD S R (P + 1) w9.heap.size kn s1 11 w9) := Lib.hid ⟨#[.int .i64 (kn : Int), .int .i64 a0, .int .i64 a1, .int .i64 a2, .string ⟨x0.toArray⟩, .string ⟨x1.toArray⟩, .string ⟨x2.toArray⟩, .string ⟨x3.toArray⟩, .string ⟨x4.toArray⟩, .string ⟨x5.toArray⟩, .string ⟨x6.toArray⟩, .string ⟨x7.toArray⟩, .slice none 0 0, .bool false, .int .u64 0, .int .u64 0, .slice none 0 0], expL kn s1 11, box_eleven hq9 hsh HGD.out, rfl, HRR.out.but hb9 (fun k hk => hk ▸ HSP.out.2) (by omega), fun _ => rfl⟩
                have HP9 := Lib.hid ((hb9.block P (block_lt HP8.out) (by omega)).trans HP8.out)
                have LOW9 := Lib.hid (LOW8.out.then_ hb9 (fun i hi hlt => by have := HPW.out; omega))
                have HSZ9 := Lib.hid (show P + 1 < w9.heap.size from block_lt hq9)
                have HW9 := Lib.hid hw9
                clear hb9 hq9 hw9 hn1 hm1 hn2 hm2 hsh HN8 HAR HRR HLW LOW8 HP8 HGD
                go_upto_region 20 with (fail)
                have HK := Lib.hid (‹∀ (a : Act) (w : World), Code.wp _ _ _ a w → _›)
                go_tidy
                go_wp2_with (refine wpList_store_row rfl TCm (.tmp 5) (.tmp 96) rfl (P + 1) #[.int .i64 (kn : Int), .int .i64 a0, .int .i64 a1, .int .i64 a2, .string ⟨x0.toArray⟩, .string ⟨x1.toArray⟩, .string ⟨x2.toArray⟩, .string ⟨x3.toArray⟩, .string ⟨x4.toArray⟩, .string ⟨x5.toArray⟩, .string ⟨x6.toArray⟩, .string ⟨x7.toArray⟩, .slice none 0 0, .bool false, .int .u64 0, .int .u64 0, .slice none 0 0] rfl rfl TCm #[.int .i64 (kn : Int), .int .i64 0, .int .i64 0, .int .i64 0, .string ⟨#[]⟩, .string ⟨#[]⟩, .string ⟨#[]⟩, .string ⟨#[]⟩, .string ⟨#[]⟩, .string ⟨#[]⟩, .string ⟨#[]⟩, .string ⟨#[]⟩, .slice none 0 0, .bool false, .int .u64 0, .int .u64 0, .slice none 0 0] HQ8.out cm_info rfl (by kernel_rfl) ?_; rw [HW9.out])
                refine HK.out _ _ ?_
                exact fd_tail _ may S R s w kn s1 P hP hRP hk255 HG2 hss hz HX HDK HSUB2 HSN HSP w9 LOW9 HP9 HSZ9 ST _ _ _ _ _ _ _ _ _ _ _ _ _ _ _ _ _ _ _ _ _ _ _ _ _ _ _ _ _ _ _ _ _ _ _ _ _ _ _ _ _ _ _ _ _ _ _ _ _ _ _ _ _ _ _ _ _ _ _ _ _ _ _ _ _ _ _ _ _ _ _ _ _ _ _ _ _ _ _ _ _ _ _ _ _ _ _ _ _ _ _ _ _ _ _ _ _ _ _ _ _ _ _ _ _ _ _ _ _ _ _ _ _ _ _ _ _ _ _ _ _ _ _ _ _ _ _ _ _ _ _ _ _ _ _ _ _ _ _ _ _ _
  · have hg : ((kindG may).rd s) = (kn, s1) := by rw [HKG.out, if_neg (fun h => he h.1)]
    have hE : ((genC may).rd s).2 = s1 := by rw [genC_err (by rw [hg]; exact he), hg]
    have HRES := Lib.hid (EARLY.out w5 (by rw [hE]; exact he) LOW5.out (by rw [hE]; exact HR5.out) HP5.out)
    have HIR := Lib.hid (range_row HQ5.out)
    have HNEW := Lib.hid (setRow_heap w5 P _ #[.int .i64 (kn : Int), .int .i64 0, .int .i64 0, .int .i64 0, .string ⟨#[]⟩, .string ⟨#[]⟩, .string ⟨#[]⟩, .string ⟨#[]⟩, .string ⟨#[]⟩, .string ⟨#[]⟩, .string ⟨#[]⟩, .string ⟨#[]⟩, .slice none 0 0, .bool false, .int .u64 0, .int .u64 0, .slice none 0 0] TCm (0, 0) HP5.out)
    have t1 : ((s1.e : Int) == 0) = false := by rw [beq_eq_false_iff_ne]; omega
    have t2 : ((s1.e : Int) != 0) = true := by rw [bne_iff_ne]; omega
    obtain ⟨E, hEE⟩ : ∃ E : Int, (s1.e : Int) = E := ⟨_, rfl⟩
    rw [hEE] at q1 t1 t2
    clear he hg hE hEE EARLY
    go_wp2_with (first | (refine wpList_load_mid rfl TCm (.tmp 5) rfl (P + 1) 0 rfl [.int .i64 (kn : Int), .int .i64 0, .int .i64 0, .int .i64 0, .string ⟨#[]⟩, .string ⟨#[]⟩, .string ⟨#[]⟩, .string ⟨#[]⟩, .string ⟨#[]⟩, .string ⟨#[]⟩, .string ⟨#[]⟩, .string ⟨#[]⟩, .slice none 0 0, .bool false, .int .u64 0, .int .u64 0, .slice none 0 0] _ HIR.out Try.underlying26 rfl (by kernel_rfl) ?_) | (refine wpList_store_row rfl TCm (.tmp 4) (.tmp 45) rfl P #[.int .i64 (kn : Int), .int .i64 0, .int .i64 0, .int .i64 0, .string ⟨#[]⟩, .string ⟨#[]⟩, .string ⟨#[]⟩, .string ⟨#[]⟩, .string ⟨#[]⟩, .string ⟨#[]⟩, .string ⟨#[]⟩, .string ⟨#[]⟩, .slice none 0 0, .bool false, .int .u64 0, .int .u64 0, .slice none 0 0] rfl rfl TCm #[.int .i64 0, .int .i64 0, .int .i64 0, .int .i64 0, .string ⟨#[]⟩, .string ⟨#[]⟩, .string ⟨#[]⟩, .string ⟨#[]⟩, .string ⟨#[]⟩, .string ⟨#[]⟩, .string ⟨#[]⟩, .string ⟨#[]⟩, .slice none 0 0, .bool false, .int .u64 0, .int .u64 0, .slice none 0 0] HP5.out cm_info rfl (by kernel_rfl) ?_))
    exact bodyPost_ret (v := cmV (y0 kn)) (results_cell_row rfl _ _ _ TCm _ (0, 0) _ rfl HNEW.out Try.underlying26 rfl (by kernel_rfl)) rfl HRES.out
end Go.Proofs.Ytbhhalkpghcflaa
