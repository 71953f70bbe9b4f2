/-
  The document's Close and Open of sessions, walked (layer 18).
-/
import Derived.Test.YtnobpbbedclbkaaZj31
namespace Go.Proofs.Ytnobpbbedclbkaa
open Go.RowKit
set_option linter.unusedSimpArgs false
set_option linter.unusedVariables false

theorem off_step {l : List Sn} {k : Nat} {id : Nat} (hk : k < l.length) : offS (l.take (k + 1)) id = offS (l.take k) id ++ (if l[k].id = id then [] else [l[k]]) := by
  unfold offS
  rw [List.take_succ_eq_append_getElem hk, List.filter_append]
  by_cases h : l[k].id = id
  · rw [if_pos h, List.filter_cons_of_neg (by simp [h])]; rfl
  · rw [if_neg h, List.filter_cons_of_pos (by simp [h])]; rfl
/-- What is still to be laid. -/
def restS (x : Sn) (laid : Bool) (q : List Sn) : List Sn := if laid then q else insS x q
theorem restS_laid {x y : Sn} {q : List Sn} : restS x true (y :: q) = y :: restS x true q := rfl
theorem restS_now {x y : Sn} {q : List Sn} (h : x.id < y.id) : restS x false (y :: q) = x :: y :: restS x true q := by
  unfold restS
  simp [insS, h]
theorem restS_later {x y : Sn} {q : List Sn} (h : ¬ x.id < y.id) : restS x false (y :: q) = y :: restS x false q := by
  unfold restS
  simp [insS, h]
set_option maxHeartbeats 4000000 in
theorem rsclose_any {S : Nat → Prop} {B : Nat} {t : Sm} (id i : Nat) (w : World) (h : RsAt S w B t) (hi : i < 18446744073709551616) :
    Calls Try.prog 12 #[.pointer (some ⟨B, 0, none⟩), .int .u64 (id : Int), .int .u64 (i : Int)] w fun e w' => e = .returned (.int .i64 ((t.closeS id i).1 : Int)) ∧ RsAt (fun k => S k ∨ w.heap.size ≤ k) w' B (t.closeS id i).2 ∧ But (· = B) w w' := by
  have HAt := Lib.hid h
  have HOk := Lib.hid (h.1.close_ (id := id) hi)
  obtain ⟨hok, A, c, h, _⟩ := h
  have h64 : t.l.length ≤ 64 := Nat.le_trans hok.len hok.most.2
  have HG := Lib.hid (rsget_any id w h)
  have HLst := Lib.hid hok.last
  have HI := Lib.hid hi
  have H := Lib.hid h
  unfold Ls.closeS at HOk ⊢
  cases hg : getS t.l id with
  | none =>
    rw [hg] at HG
    unfold getV at HG
    clear h hok hi hg HOk
    go_enter Try.func12, Try.ntmps12
    go_wp2_with fail
    refine HG.out.mono ?_
    rintro e w1 ⟨rfl, hb1⟩
    have HB := Lib.hid (hb1.alloc hb1.size (.cells #[.int .u64 0, .int .i64 0, .int .u64 0, .int .u64 0] TSn))
    clear hb1 HG
    go_wp2
    go_ret
    exact ⟨rfl, (HAt.out.below HB.out).narrow fun _ _ z => .inl z, But.of_below HB.out⟩
  | some x =>
    rw [hg] at HG HOk
    unfold getV snV at HG
    simp only at HOk ⊢
    obtain ⟨M, hM⟩ : ∃ M, offS t.l id = M := ⟨_, rfl⟩
    rw [hM] at HOk ⊢
    have HM := Lib.hid hM
    obtain ⟨X, hX⟩ : ∃ X, w.heap.size = X := ⟨_, rfl⟩
    have HX := Lib.hid hX
    have hBX : B < X := hX ▸ h.lt
    obtain ⟨L, hL⟩ : ∃ L, t.l.length = L := ⟨_, rfl⟩
    rw [hL] at h64
    have HL := Lib.hid hL
    rw [hX] at HG ⊢
    have hm9 : L ≤ 9223372036854775807 := by omega
    clear h hM hX hL hok hi hg
    go_enter Try.func12, Try.ntmps12
    go_wp2_with fail
    refine HG.out.mono ?_
    rintro e w1 ⟨rfl, hb1⟩
    have HB := Lib.hid (hb1.alloc (Nat.le_trans (by rw [HX.out]; exact Nat.le_refl _) hb1.size) (.cells #[.int .u64 (x.id : Int), .int .i64 x.node, .int .u64 (x.made : Int), .int .u64 (x.ix : Int)] TSn))
    clear hb1 HG
    go_wp2
    go_loopw [9, 10] (fun vv iv wr => ∃ k : Nat, k ≤ L ∧ iv = .int .i64 (k : Int) ∧ Hid (snRow wr X vv (offS (t.l.take k) id)) ∧ Hid (Below X w wr)) (fun _ iv _ => L - (intOf iv).toNat)
    case atStart => exact ⟨0, Nat.zero_le _, rfl, Lib.hid (rowK.nil _ _), HB⟩
    case round =>
      obtain ⟨k, hk, rfl, hrow, hb⟩ := hrel
      have ht := H.out.below (by rw [HX.out]; exact hb.out)
      have c1 : wr.cell? ⟨B, 1, none⟩ = some (.slice A L c) := by have := ht.c1; rw [HL.out] at this; exact this
      have hXz : X ≤ wr.heap.size := by have := hb.out.size; have := HX.out; omega
      by_cases hlt : k < L
      · have hkl : k < t.l.length := by rw [HL.out]; exact hlt
        obtain ⟨bb, off, rfl, hbl, hit⟩ := ht.row.at_ hkl hkl
        have hst := off_step (id := id) hkl
        obtain ⟨y, hy⟩ : ∃ y, t.l[k] = y := ⟨_, rfl⟩
        rw [hy] at hit hst
        obtain ⟨e0, e1, e2, e3⟩ := sn_cells hit
        have hle : (offS (t.l.take k) id).length ≤ 1000000 := by
          have h9 : (offS (t.l.take k) id).length ≤ (t.l.take k).length := List.length_filter_le _ _
          rw [List.length_take] at h9
          omega
        by_cases hkk : y.id = id
        · rw [if_pos hkk, List.append_nil] at hst
          have zz : ((y.id : Int) != (id : Int)) = false := by rw [hkk]; simp
          have HR := Lib.hid (show snRow wr X u9 (offS (t.l.take (k + 1)) id) by rw [hst]; exact hrow.out)
          clear hst hy hit ht hkk
          go_wp2
          go_roundw
          case rel => exact ⟨k + 1, by omega, by go_num, HR, hb⟩
          case measure => simp [intOf]; omega
        · rw [if_neg hkk] at hst
          have zz : ((y.id : Int) != (id : Int)) = true := by rw [bne_iff_ne]; omega
          have HSt := Lib.hid hst
          clear hst hy hit ht
          go_wp2_with (at_builtin; refine wpList_append_sn rfl (.tmp 38) (.tmp 46) rfl X _ _ rfl ?qa wr.heap.size y rfl ?qb hle ?qc ?_)
          case qa => exact hrow.out.below ((Below.refl _ _).alloc (Nat.le_refl _) _)
          case qb => exact sn_new wr y _
          case qc => simp; omega
          refine Lib.hid ?_
          intro v1 w1 hown hgr
          have HB' := Lib.hid (snRow.snoc hrow.out hb.out hXz hgr)
          rw [← HSt.out] at hown
          have HR := Lib.hid hown
          clear hown hgr
          go_wp2
          go_roundw
          case rel => exact ⟨k + 1, by omega, by go_num, HR, HB'⟩
          case measure => simp [intOf]; omega
      · have hke : offS (t.l.take k) id = M := by rw [List.take_of_length_le (by rw [HL.out]; omega), HM.out]
        rw [hke] at hrow
        obtain ⟨A2, c2, rfl, hSK, hnc, hmc, hge⟩ := SK.of_row snC_len hrow.out
        have hfz2 := FrzS.of_row hrow.out
        have hset : RsIs (fun k => S k ∨ X ≤ k) (wr.setCell ⟨B, 1, none⟩ (.slice A2 M.length c2)) B A2 c2 { t with l := M } :=
          (ht.narrow fun _ _ z => .inl z).setRows hSK (fun b off e _ => ⟨.inr (hge b off e), by have := hge b off e; omega⟩) hnc hmc
        have HFz : Hid (FrzS wr A2 M.length ∧ ∀ b off, A2 = some ⟨b, off, none⟩ → b ≠ B) := Lib.hid ⟨hfz2, fun b off e => by have := hge b off e; omega⟩
        have hf := ht.froz 1
        have hbl := ht.lt
        have HRz := Lib.hid (rsraise_any (A := A2) (c := c2) (t := { t with l := M }) i _ hset HLst.out HI.out)
        clear hke hSK hnc hmc hge ht hfz2 hset hrow
        go_wp2_with fail
        refine HRz.out.mono ?_
        rintro e w7 ⟨rfl, hr7, hb7⟩
        have H7 := Lib.hid hr7
        have HB7 := Lib.hid hb7
        clear hr7 hb7 HRz
        go_wp2
        go_ret
        refine ⟨rfl, ⟨HOk.out, A2, c2, H7.out, HFz.out.1.but ((But.set (S := (· = B)) _ (p := ⟨B, 1, none⟩) rfl _).trans HB7.out) fun b off e _ => HFz.out.2 b off e⟩, ?_⟩
        exact ((But.of_below (by rw [HX.out]; exact hb.out)).trans (But.set (S := (· = B)) wr (p := ⟨B, 1, none⟩) rfl _)).trans HB7.out
set_option maxHeartbeats 8000000 in
set_option maxRecDepth 100000 in
theorem rsopen_any {S : Nat → Prop} {B : Nat} {t : Sm} (node : Int) (i : Nat) (w : World) (h : RsAt S w B t) (hi : i < 18446744073709551616) :
    Calls Try.prog 10 #[.pointer (some ⟨B, 0, none⟩), .int .i64 node, .int .u64 (i : Int)] w fun e w' => e = .returned (.tuple #[.int .u64 ((t.openS node i).1.1 : Int), .int .i64 ((t.openS node i).1.2 : Int)]) ∧ RsAt (fun k => S k ∨ w.heap.size ≤ k) w' B (t.openS node i).2 ∧ But (· = B) w w' := by
  have HAt := Lib.hid h
  have HOk := Lib.hid (h.1.open_ (node := node) hi)
  obtain ⟨hok, A, c, h, _⟩ := h
  have h64 : t.l.length ≤ 64 := Nat.le_trans hok.len hok.most.2
  have HG := Lib.hid (rsget_any i w h)
  have HLst := Lib.hid hok.last
  have HI := Lib.hid hi
  have H := Lib.hid h
  have c0 := h.c0
  have c1 := h.c1
  unfold Ls.openS at HOk ⊢
  by_cases hbad : nodeB node = false ∨ i = 0
  · rw [if_pos hbad]
    have hd : node < 0 ∨ (¬ node < 0 ∧ node > 7) ∨ (¬ node < 0 ∧ ¬ node > 7 ∧ i = 0) := by
      rcases hbad with hbad | hbad
      · unfold nodeB at hbad
        rw [Bool.and_eq_false_iff, decide_eq_false_iff_not, decide_eq_false_iff_not] at hbad
        omega
      · omega
    clear h hok hi HOk HG hbad c0 c1
    rcases hd with h1 | ⟨h1, h2⟩ | ⟨h1, h2, h3⟩
    · have q1 : decide (node < 0) = true := decide_eq_true h1
      go_enter Try.func10, Try.ntmps10
      go_wp2
      go_ret2
      exact ⟨rfl, HAt.out.narrow fun _ _ z => .inl z, But.refl _ _⟩
    · have q1 : decide (node < 0) = false := decide_eq_false h1
      have q2 : decide (node > 7) = true := decide_eq_true h2
      go_enter Try.func10, Try.ntmps10
      go_wp2
      go_ret2
      exact ⟨rfl, HAt.out.narrow fun _ _ z => .inl z, But.refl _ _⟩
    · have q1 : decide (node < 0) = false := decide_eq_false h1
      have q2 : decide (node > 7) = false := decide_eq_false h2
      subst h3
      go_enter Try.func10, Try.ntmps10
      go_wp2
      go_ret2
      exact ⟨rfl, HAt.out.narrow fun _ _ z => .inl z, But.refl _ _⟩
  · rw [if_neg hbad] at HOk ⊢
    have q1 : decide (node < 0) = false := decide_eq_false (fun e => hbad (.inl (by unfold nodeB; rw [decide_eq_false (by omega)]; rfl)))
    have q2 : decide (node > 7) = false := decide_eq_false (fun e => hbad (.inl (by unfold nodeB; rw [Bool.and_eq_false_iff]; exact .inr (decide_eq_false (by omega)))))
    have q3 : ((i : Int) == 0) = false := by rw [beq_eq_false_iff_ne]; exact fun e => hbad (.inr (by omega))
    have HBad := Lib.hid hbad
    clear hbad
    cases hg : getS t.l i with
    | some x =>
      rw [hg] at HG
      unfold getV snV at HG
      clear h hok hi hg HOk c0 c1
      go_enter Try.func10, Try.ntmps10
      go_wp2_with fail
      refine HG.out.mono ?_
      rintro e w1 ⟨rfl, hb1⟩
      have HB := Lib.hid (hb1.alloc hb1.size (.cells #[.int .u64 (x.id : Int), .int .i64 x.node, .int .u64 (x.made : Int), .int .u64 (x.ix : Int)] TSn))
      clear hb1 HG
      go_wp2
      go_ret2
      exact ⟨rfl, (HAt.out.below HB.out).narrow fun _ _ z => .inl z, But.of_below HB.out⟩
    | none =>
      rw [hg] at HG HOk
      unfold getV at HG
      simp only at HOk ⊢
      obtain ⟨L, hL⟩ : ∃ L, t.l.length = L := ⟨_, rfl⟩
      obtain ⟨m, hm⟩ : ∃ m, t.most = m := ⟨_, rfl⟩
      have HL := Lib.hid hL
      have HMo := Lib.hid hm
      obtain ⟨X, hX⟩ : ∃ X, w.heap.size = X := ⟨_, rfl⟩
      have HX := Lib.hid hX
      have hBX : B < X := hX ▸ h.lt
      by_cases hfull : t.most ≤ t.l.length
      · rw [if_pos hfull]
        rw [hL, hm] at hfull
        have q4 : decide ((L : Int) ≥ (m : Int)) = true := decide_eq_true (by omega)
        have q5 : decide (m ≤ L) = true := decide_eq_true hfull
        clear h hok hi hg HOk hL hm hX c0 c1
        go_enter Try.func10, Try.ntmps10
        go_wp2_with fail
        refine HG.out.mono ?_
        rintro e w1 ⟨rfl, hb1⟩
        have hb2 := hb1.alloc hb1.size (.cells #[.int .u64 0, .int .i64 0, .int .u64 0, .int .u64 0] TSn)
        obtain ⟨W2, hW2⟩ : ∃ W2, w1.alloc (.cells #[.int .u64 0, .int .i64 0, .int .u64 0, .int .u64 0] TSn) = W2 := ⟨_, rfl⟩
        rw [hW2] at hb2
        have HB := Lib.hid hb2
        have ht := H.out.below hb2
        have c0 := ht.c0
        have c1 := ht.c1
        rw [HL.out] at c1
        rw [HMo.out] at c0
        have HW2 := Lib.hid hW2
        clear hb1 hb2 HG ht hW2
        go_wp2_with fail
        rw [HW2.out]
        go_quiet (fail)
        go_wp2
        go_ret2
        exact ⟨rfl, (HAt.out.below (below_drewN HB.out nq)).narrow fun _ _ z => .inl z, But.of_below (below_drewN HB.out nq)⟩
      · rw [if_neg hfull] at HOk ⊢
        rw [hL, hm] at hfull
        have q4 : decide ((L : Int) ≥ (m : Int)) = false := decide_eq_false (by omega)
        have q5 : decide (m ≤ L) = false := decide_eq_false hfull
        obtain ⟨M, hM⟩ : ∃ M, insS (newS node i) t.l = M := ⟨_, rfl⟩
        rw [hM] at HOk ⊢
        have HM := Lib.hid hM
        have HMl : Hid (M.length = L + 1) := Lib.hid (by rw [← hM, insS_length, hL])
        rw [hL] at h64
        rw [hX] at HG ⊢
        have hm9 : L ≤ 9223372036854775807 := by omega
        clear h hok hi hg hL hm hX hM c0 c1
        go_enter Try.func10, Try.ntmps10
        go_wp2_with fail
        refine HG.out.mono ?_
        rintro e w1 ⟨rfl, hb1⟩
        have hb2 := hb1.alloc (Nat.le_trans (by rw [HX.out]; exact Nat.le_refl _) hb1.size) (.cells #[.int .u64 0, .int .i64 0, .int .u64 0, .int .u64 0] TSn)
        obtain ⟨W2, hW2⟩ : ∃ W2, w1.alloc (.cells #[.int .u64 0, .int .i64 0, .int .u64 0, .int .u64 0] TSn) = W2 := ⟨_, rfl⟩
        rw [hW2] at hb2
        have ht := H.out.below (by rw [HX.out]; exact hb2)
        have c0 := ht.c0
        have c1 := ht.c1
        rw [HL.out] at c1
        rw [HMo.out] at c0
        have HB2 := Lib.hid hb2
        have HW2 := Lib.hid hW2
        clear hb1 hb2 HG ht hW2
        go_wp2_with fail
        rw [HW2.out]
        go_quiet (fail)
        generalize hW0 : W2.drewN _ = W0
        have hb3 : Below X w W0 := by rw [← hW0]; exact below_drewN HB2.out _
        obtain ⟨Xb, hXs⟩ : ∃ Xb, W0.heap.size = Xb := ⟨_, rfl⟩
        obtain ⟨W3, hW3⟩ : ∃ W3, W0.alloc (.cells #[.int .u64 (i : Int), .int .i64 node, .int .u64 (i : Int), .int .u64 (i : Int)] TSn) = W3 := ⟨_, rfl⟩
        have hXb : X ≤ Xb := by have := hb3.size; have := HX.out; omega
        have s3 : W3.heap.size = Xb + 1 := by rw [← hW3]; simp [hXs]
        have kx : W3.heap[Xb]? = some (.cells #[.int .u64 (i : Int), .int .i64 node, .int .u64 (i : Int), .int .u64 (i : Int)] TSn (0, 0)) := by rw [← hW3, ← hXs]; exact heap_alloc_new _ _
        have HB3 : Hid (Below X w W3) := Lib.hid (by rw [← hW3]; exact hb3.alloc (by omega) _)
        have HT3 : Hid (RsIs S W3 B A c t) := Lib.hid (H.out.below (by rw [HX.out]; exact HB3.out))
        have HKx := Lib.hid kx
        have HZ3 := Lib.hid s3
        have HW3 := Lib.hid hW3
        have HXs := Lib.hid hXs
        clear hW0 hb3 s3 kx hW3 hXs c0 c1 q1 q2 q3 q4 q5
        go_wp2_with fail
        rw [HW3.out, HXs.out]
        go_loopw [11, 12, 13] (fun vv lv iv wr => ∃ (k : Nat) (laid : Bool) (acc : List Sn), k ≤ L ∧ lv = .bool laid ∧ iv = .int .i64 (k : Int) ∧ Hid (snRow wr (Xb + 1) vv acc ∧ acc ++ restS (newS node i) laid (t.l.drop k) = M) ∧ Hid (Below (Xb + 1) W3 wr)) (fun _ _ iv _ => L - (intOf iv).toNat)
        case atStart => exact ⟨0, false, [], Nat.zero_le _, rfl, rfl, Lib.hid ⟨rowK.nil _ _, HM.out⟩, Lib.hid (HZ3.out ▸ Below.refl _ _)⟩
        case round =>
          obtain ⟨k, laid, acc, hk, rfl, rfl, hra, hb⟩ := hrel
          have ht := HT3.out.below (by rw [HZ3.out]; exact hb.out)
          have c1 : wr.cell? ⟨B, 1, none⟩ = some (.slice A L c) := by have := ht.c1; rw [HL.out] at this; exact this
          have hacc : acc.length ≤ 1000 := by
            have h9 := congrArg List.length hra.out.2
            rw [List.length_append, HMl.out] at h9
            omega
          have hle3 : acc.length ≤ 1000000 := by omega
          have hle4 : (acc ++ [newS node i]).length ≤ 1000000 := by rw [List.length_append]; simp; omega
          have hXz : Xb + 1 ≤ wr.heap.size := by have := hb.out.size; have := HZ3.out; omega
          have kx := (hb.out.block Xb (by omega)).trans HKx.out
          obtain ⟨x0, x1, x2, x3⟩ := sn_blk kx
          have hrow : Hid (snRow wr (Xb + 1) u11 acc) := Lib.hid hra.out.1
          by_cases hlt : k < L
          · have hkl : k < t.l.length := by rw [HL.out]; exact hlt
            obtain ⟨bb, off, rfl, hbl, hit⟩ := ht.row.at_ hkl hkl
            have hdr : t.l.drop k = t.l[k] :: t.l.drop (k + 1) := List.drop_eq_getElem_cons hkl
            obtain ⟨y, hy⟩ : ∃ y, t.l[k] = y := ⟨_, rfl⟩
            rw [hy] at hit hdr
            have HD := Lib.hid hdr
            obtain ⟨e0, e1, e2, e3⟩ := sn_cells hit
            have HIt := Lib.hid hit
            have HBl := Lib.hid hbl
            have HC1 := Lib.hid c1
            clear hy hit ht kx hdr
            cases laid with
            | true =>
              go_wp2_with (at_builtin; refine wpList_append_sn rfl (.tmp 73) (.tmp 81) rfl (Xb + 1) _ _ rfl ?qa wr.heap.size y rfl ?qb hle3 ?qc ?_)
              case qa => exact hrow.out.below ((Below.refl _ _).alloc (Nat.le_refl _) _)
              case qb => exact sn_new wr y _
              case qc => simp; omega
              refine Lib.hid ?_
              intro v1 w1 hown hgr
              have HB' := Lib.hid (snRow.snoc hrow.out hb.out hXz hgr)
              have HRa : Hid (snRow w1 (Xb + 1) v1 (acc ++ [y]) ∧ (acc ++ [y]) ++ restS (newS node i) true (t.l.drop (k + 1)) = M) := Lib.hid ⟨hown, by
                have h9 := hra.out.2
                rw [HD.out, restS_laid] at h9
                rw [← h9]; simp⟩
              clear hown hgr
              go_wp2
              go_roundw
              case rel => exact ⟨k + 1, true, acc ++ [y], by omega, rfl, by go_num, HRa, HB'⟩
              case measure => simp [intOf]; omega
            | false =>
              by_cases hy2 : i < y.id
              · have p1 : decide ((y.id : Int) > (i : Int)) = true := decide_eq_true (by omega)
                have p2 : decide (i < y.id) = true := decide_eq_true hy2
                go_wp2_with (at_builtin; refine wpList_append_sn rfl (.tmp 69) (.tmp 71) rfl (Xb + 1) _ _ rfl ?qa wr.heap.size (newS node i) rfl ?qb hle3 ?qc ?_)
                case qa => exact hrow.out.below ((Below.refl _ _).alloc (Nat.le_refl _) _)
                case qb => exact sn_new wr (newS node i) _
                case qc => simp; omega
                refine Lib.hid ?_
                intro v1 w1 hown hgr
                have hb4 := snRow.snoc hrow.out hb.out hXz hgr
                have HB4 := Lib.hid hb4
                have HR1 := Lib.hid hown
                have hz4 : Xb + 1 ≤ w1.heap.size := by have := hb4.size; have := HZ3.out; omega
                have ht4 := HT3.out.below (by rw [HZ3.out]; exact hb4)
                have c14 : w1.cell? ⟨B, 1, none⟩ = some (.slice (some ⟨bb, off, none⟩) L c) := by have := ht4.c1; rw [HL.out] at this; exact this
                have hit4 : ItAt snC w1 bb (off + k * 4) y := by
                  have h9 := HT3.out.row.below (by rw [HZ3.out]; exact hb4)
                  obtain ⟨b9, o9, e9, _, h9⟩ := h9.at_ hkl hkl
                  cases e9
                  have hyk : t.l[k] = y := by
                    have := HD.out
                    rw [List.drop_eq_getElem_cons hkl] at this
                    exact (List.cons.inj this).1
                  rwa [hyk] at h9
                clear e0 e1 e2 e3 c1
                obtain ⟨e0, e1, e2, e3⟩ := sn_cells hit4
                have HRa1 : Hid (acc ++ [newS node i] ++ y :: restS (newS node i) true (t.l.drop (k + 1)) = M) := Lib.hid (by
                  have h9 := hra.out.2
                  rw [HD.out, restS_now hy2] at h9
                  rw [← h9]; simp)
                clear hown hgr hb4 ht4 hit4 x0 x1 x2 x3
                go_wp2_with (at_builtin; refine wpList_append_sn rfl (.tmp 73) (.tmp 81) rfl (Xb + 1) _ _ rfl ?qa2 w1.heap.size y rfl ?qb2 hle4 ?qc2 ?_)
                case qa2 => exact HR1.out.below ((Below.refl _ _).alloc (Nat.le_refl _) _)
                case qb2 => exact sn_new w1 y _
                case qc2 => simp; omega
                refine Lib.hid ?_
                intro v2 w2 hown hgr
                have HB' := Lib.hid (snRow.snoc HR1.out HB4.out hz4 hgr)
                have HRa : Hid (snRow w2 (Xb + 1) v2 (acc ++ [newS node i, y]) ∧ (acc ++ [newS node i, y]) ++ restS (newS node i) true (t.l.drop (k + 1)) = M) := Lib.hid ⟨hown, by rw [← HRa1.out]; simp⟩
                clear hown hgr
                go_wp2
                go_roundw
                case rel => exact ⟨k + 1, true, acc ++ [newS node i, y], by omega, rfl, by go_num, HRa, HB'⟩
                case measure => simp [intOf]; omega
              · have p1 : decide ((y.id : Int) > (i : Int)) = false := decide_eq_false (by omega)
                have p2 : decide (i < y.id) = false := decide_eq_false hy2
                go_wp2_with (at_builtin; refine wpList_append_sn rfl (.tmp 73) (.tmp 81) rfl (Xb + 1) _ _ rfl ?qa wr.heap.size y rfl ?qb hle3 ?qc ?_)
                case qa => exact hrow.out.below ((Below.refl _ _).alloc (Nat.le_refl _) _)
                case qb => exact sn_new wr y _
                case qc => simp; omega
                refine Lib.hid ?_
                intro v1 w1 hown hgr
                have HB' := Lib.hid (snRow.snoc hrow.out hb.out hXz hgr)
                have HRa : Hid (snRow w1 (Xb + 1) v1 (acc ++ [y]) ∧ (acc ++ [y]) ++ restS (newS node i) false (t.l.drop (k + 1)) = M) := Lib.hid ⟨hown, by
                  have h9 := hra.out.2
                  rw [HD.out, restS_later hy2] at h9
                  rw [← h9]; simp⟩
                clear hown hgr
                go_wp2
                go_roundw
                case rel => exact ⟨k + 1, false, acc ++ [y], by omega, rfl, by go_num, HRa, HB'⟩
                case measure => simp [intOf]; omega
          · have hdr : t.l.drop k = [] := List.drop_of_length_le (by rw [HL.out]; omega)
            have h9 := hra.out.2
            rw [hdr] at h9
            cases laid with
            | true =>
              have hM2 : acc = M := by unfold restS at h9; simpa using h9
              have HO4 : Hid (snRow wr (Xb + 1) u11 M) := Lib.hid (by rw [← hM2]; exact hrow.out)
              clear hdr h9 ht kx x0 x1 x2 x3 hM2
              obtain ⟨A2, c2, rfl, hSK, hnc, hmc, hge⟩ := SK.of_row snC_len HO4.out
              have hfz2 := FrzS.of_row HO4.out
              have htw : RsIs S wr B A c t := HT3.out.below (by rw [HZ3.out]; exact hb.out)
              have hset : RsIs (fun k => S k ∨ X ≤ k) (wr.setCell ⟨B, 1, none⟩ (.slice A2 M.length c2)) B A2 c2 { t with l := M } :=
                (htw.narrow fun _ _ z => .inl z).setRows hSK (fun b off e _ => ⟨.inr (by have := hge b off e; omega), by have := hge b off e; omega⟩) hnc hmc
              have HFz : Hid (FrzS wr A2 M.length ∧ ∀ b off, A2 = some ⟨b, off, none⟩ → b ≠ B) := Lib.hid ⟨hfz2, fun b off e => by have := hge b off e; omega⟩
              have hf := htw.froz 1
              have hbl := htw.lt
              have c19 := htw.c1
              have HRz := Lib.hid (rsraise_any (A := A2) (c := c2) (t := { t with l := M }) i _ hset HLst.out HI.out)
              have HBW : Hid (Below (Xb + 1) W3 wr) := Lib.hid hb.out
              clear hSK hnc hmc hge htw hfz2 hset
              go_wp2_with fail
              refine HRz.out.mono ?_
              rintro e w7 ⟨rfl, hr7, hb7⟩
              have H7 := Lib.hid hr7
              have HB7 := Lib.hid hb7
              clear hr7 hb7 HRz
              go_wp2
              go_ret2
              refine ⟨rfl, ⟨HOk.out, A2, c2, H7.out, HFz.out.1.but ((But.set (S := (· = B)) _ (p := ⟨B, 1, none⟩) rfl _).trans HB7.out) fun b off e _ => HFz.out.2 b off e⟩, ?_⟩
              exact ((But.of_below (by rw [HX.out]; exact HB3.out.trans (HBW.out.mono (by have := hXb; omega)))).trans (But.set (S := (· = B)) wr (p := ⟨B, 1, none⟩) rfl _)).trans HB7.out
            | false =>
              have hM2 : acc ++ [newS node i] = M := by unfold restS at h9; simpa [insS] using h9
              have HM2 := Lib.hid hM2
              clear hdr h9 ht kx hM2
              go_wp2_with (at_builtin; refine wpList_append_sn rfl (.tmp 85) (.tmp 87) rfl (Xb + 1) _ _ rfl ?qa wr.heap.size (newS node i) rfl ?qb hle3 ?qc ?_)
              case qa => exact hrow.out.below ((Below.refl _ _).alloc (Nat.le_refl _) _)
              case qb => exact sn_new wr (newS node i) _
              case qc => simp; omega
              refine Lib.hid ?_
              intro v1 w1 hown hgr
              have hb4 := snRow.snoc hrow.out hb.out hXz hgr
              rw [HM2.out] at hown
              have HB4 := Lib.hid hb4
              have HO4 := Lib.hid hown
              clear hown hgr hb4 x0 x1 x2 x3
              obtain ⟨A2, c2, rfl, hSK, hnc, hmc, hge⟩ := SK.of_row snC_len HO4.out
              have hfz2 := FrzS.of_row HO4.out
              have htw : RsIs S w1 B A c t := HT3.out.below (by rw [HZ3.out]; exact HB4.out)
              have hset : RsIs (fun k => S k ∨ X ≤ k) (w1.setCell ⟨B, 1, none⟩ (.slice A2 M.length c2)) B A2 c2 { t with l := M } :=
                (htw.narrow fun _ _ z => .inl z).setRows hSK (fun b off e _ => ⟨.inr (by have := hge b off e; omega), by have := hge b off e; omega⟩) hnc hmc
              have HFz : Hid (FrzS w1 A2 M.length ∧ ∀ b off, A2 = some ⟨b, off, none⟩ → b ≠ B) := Lib.hid ⟨hfz2, fun b off e => by have := hge b off e; omega⟩
              have hf := htw.froz 1
              have hbl := htw.lt
              have c19 := htw.c1
              have HRz := Lib.hid (rsraise_any (A := A2) (c := c2) (t := { t with l := M }) i _ hset HLst.out HI.out)
              have HBW : Hid (Below (Xb + 1) W3 w1) := Lib.hid HB4.out
              clear hSK hnc hmc hge htw hfz2 hset
              go_wp2_with fail
              refine HRz.out.mono ?_
              rintro e w7 ⟨rfl, hr7, hb7⟩
              have H7 := Lib.hid hr7
              have HB7 := Lib.hid hb7
              clear hr7 hb7 HRz
              go_wp2
              go_ret2
              refine ⟨rfl, ⟨HOk.out, A2, c2, H7.out, HFz.out.1.but ((But.set (S := (· = B)) _ (p := ⟨B, 1, none⟩) rfl _).trans HB7.out) fun b off e _ => HFz.out.2 b off e⟩, ?_⟩
              exact ((But.of_below (by rw [HX.out]; exact HB3.out.trans (HBW.out.mono (by have := hXb; omega)))).trans (But.set (S := (· = B)) w1 (p := ⟨B, 1, none⟩) rfl _)).trans HB7.out
end Go.Proofs.Ytnobpbbedclbkaa
