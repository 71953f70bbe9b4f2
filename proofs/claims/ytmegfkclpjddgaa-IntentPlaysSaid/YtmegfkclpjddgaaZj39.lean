/-
  The document's Add, walked (layer 17).
-/
import Derived.Test.YtmegfkclpjddgaaZj38
import Derived.Test.YtmegfkclpjddgaaZj27
namespace Go.Proofs.Ytmegfkclpjddgaa
open Go.RowKit Go.Sort
set_option linter.unusedSimpArgs false
set_option linter.unusedVariables false

/-- What is still to be laid. -/
def restI (x : Ir) (laid : Bool) (q : List Ir) : List Ir := if laid then q else insI x q
theorem rest_laid {x y : Ir} {q : List Ir} : restI x true (y :: q) = y :: restI x true q := rfl
theorem rest_now {x y : Ir} {q : List Ir} (h : aheadI x y = true) : restI x false (y :: q) = x :: y :: restI x true q := by
  unfold restI
  simp [insI, h]
theorem rest_later {x y : Ir} {q : List Ir} (h : aheadI x y = false) : restI x false (y :: q) = y :: restI x false q := by
  unfold restI
  simp [insI, h]
set_option maxHeartbeats 8000000 in
set_option maxRecDepth 100000 in
theorem riadd_any {S : Nat → Prop} {B : Nat} {t : Im} (s d : ByteArray) (b : Bool) (i : Nat) (w : World) (h : RiAt S w B t) (hs : s.size ≤ maxLen) (hd : d.size ≤ maxLen) (hi : i < 18446744073709551616) :
    Calls Try.prog 34 #[.pointer (some ⟨B, 0, none⟩), .string s, .string d, .bool b, .int .u64 (i : Int)] w fun e w' => e = .returned (.int .i64 ((t.addI s d b i).1 : Int)) ∧ RiAt (fun k => S k ∨ w.heap.size ≤ k) w' B (t.addI s d b i).2 ∧ But (· = B) w w' := by
  have HAt := Lib.hid h
  obtain ⟨hok, A, c, h, _⟩ := h
  have h64 : t.l.length ≤ 64 := Nat.le_trans hok.len hok.most.2
  have HAdd := Lib.hid (hok.add (b := b) hs hd hi)
  have HPs := Lib.hid (fun W => rpattern_any s W hs)
  have HPd := Lib.hid (fun W => rpattern_any d W hd)
  have HF := Lib.hid (rifind_any s d w h)
  have HLst := Lib.hid hok.last
  have HI := Lib.hid hi
  have H := Lib.hid h
  obtain ⟨r, hr⟩ : ∃ r, t.addI s d b i = r := ⟨_, rfl⟩
  have HR := Lib.hid hr
  rw [hr] at HAdd ⊢
  unfold Ls.addI patsI at hr
  obtain ⟨ps, hps⟩ : ∃ ps, patternB s.data.toList = ps := ⟨_, rfl⟩
  obtain ⟨pd, hpd⟩ : ∃ pd, patternB d.data.toList = pd := ⟨_, rfl⟩
  rw [hps] at HPs hr
  rw [hpd] at HPd hr
  have c0 := h.c0
  have c1 := h.c1
  obtain ⟨L, hL⟩ : ∃ L, t.l.length = L := ⟨_, rfl⟩
  obtain ⟨m, hm⟩ : ∃ m, t.most = m := ⟨_, rfl⟩
  rw [hL] at c1 h64
  rw [hm] at c0
  have HL := Lib.hid hL
  have HMo := Lib.hid hm
  clear h hs hd hi hok hps hpd hL hm
  cases ps with
  | false =>
    obtain rfl : (10, t) = r := by simpa using hr
    clear hr
    go_enter Try.func34, Try.ntmps34
    go_wp2_with fail
    refine (HPs.out w).mono ?_
    rintro e w9 ⟨rfl, rfl⟩
    go_wp2
    go_ret
    exact ⟨rfl, HAt.out.narrow fun _ _ z => .inl z, But.refl _ _⟩
  | true =>
    cases pd with
    | false =>
      obtain rfl : (10, t) = r := by simpa using hr
      clear hr
      go_enter Try.func34, Try.ntmps34
      go_wp2_with fail
      refine (HPs.out w).mono ?_
      rintro e w9 ⟨rfl, rfl⟩
      go_wp2_with fail
      refine (HPd.out w).mono ?_
      rintro e w9 ⟨rfl, rfl⟩
      go_wp2
      go_ret
      exact ⟨rfl, HAt.out.narrow fun _ _ z => .inl z, But.refl _ _⟩
    | true =>
      cases hf : findI t.l s d with
      | some k =>
        rw [hf] at hr HF
        obtain rfl : (20, t) = r := by simpa using hr
        have hq : plI (some k) = (k : Int) := rfl
        rw [hq] at HF
        have q1 : (0 : Int) ≤ (k : Int) := by omega
        have q2 : decide ((k : Int) ≥ 0) = true := decide_eq_true (by omega)
        clear hr hf hq
        go_enter Try.func34, Try.ntmps34
        go_wp2_with fail
        refine (HPs.out w).mono ?_
        rintro e w9 ⟨rfl, rfl⟩
        go_wp2_with fail
        refine (HPd.out w).mono ?_
        rintro e w9 ⟨rfl, rfl⟩
        go_wp2_with fail
        refine HF.out.mono ?_
        rintro e w9 ⟨rfl, rfl⟩
        go_wp2
        go_ret
        exact ⟨rfl, HAt.out.narrow fun _ _ z => .inl z, But.refl _ _⟩
      | none =>
        rw [hf] at hr HF
        have hq : plI none = -1 := rfl
        rw [hq] at HF
        clear hf hq
        by_cases hfull : t.most ≤ t.l.length
        · obtain rfl : (5, t) = r := by simpa [hfull] using hr
          have hml : m ≤ L := by rw [← HMo.out, ← HL.out]; exact hfull
          have q1 : decide ((L : Int) ≥ (m : Int)) = true := decide_eq_true (by omega)
          have q2 : decide (m ≤ L) = true := decide_eq_true hml
          clear hr
          go_enter Try.func34, Try.ntmps34
          go_wp2_with fail
          refine (HPs.out w).mono ?_
          rintro e w9 ⟨rfl, rfl⟩
          go_wp2_with fail
          refine (HPd.out w).mono ?_
          rintro e w9 ⟨rfl, rfl⟩
          go_wp2_with fail
          refine HF.out.mono ?_
          rintro e w9 ⟨rfl, rfl⟩
          go_wp2_with fail
          go_quiet (fail)
          go_wp2
          go_ret
          exact ⟨rfl, (HAt.out.below (below_drewN (Below.refl _ _) nq)).narrow fun _ _ z => .inl z, But.of_below (below_drewN (Below.refl _ _) nq)⟩
        · have hml : ¬ m ≤ L := by rw [← HMo.out, ← HL.out]; exact hfull
          have q1 : decide ((L : Int) ≥ (m : Int)) = false := decide_eq_false (by omega)
          have q2 : decide (m ≤ L) = false := decide_eq_false hml
          have hr2 : (0, Ls.raise { t with l := insI ⟨s, d, b, i, i⟩ t.l } i) = r := by simpa [hfull] using hr
          have HR2 := Lib.hid hr2
          obtain ⟨x, hx⟩ : ∃ x : Ir, (⟨s, d, b, i, i⟩ : Ir) = x := ⟨_, rfl⟩
          obtain ⟨M, hM⟩ : ∃ M, insI x t.l = M := ⟨_, rfl⟩
          have HMl : Hid (M.length = L + 1) := Lib.hid (by rw [← hM, insI_length, HL.out])
          have hr3 : (0, Ls.raise { t with l := M } i) = r := by rw [← hM, ← hx]; exact hr2
          have HR3 := Lib.hid hr3
          have HM := Lib.hid hM
          have e0 : r.1 = 0 := by rw [← hr3]
          obtain ⟨r2, hr4⟩ : ∃ r2, r.2 = r2 := ⟨_, rfl⟩
          rw [hr4] at HAdd ⊢
          rw [e0]
          have HR4 : Hid (Ls.raise { t with l := M } i = r2) := Lib.hid (by rw [← hr4, ← hr3])
          have HX := Lib.hid hx
          clear hr hr2 hr3 hr4 e0 hx hM HR HR2 HR3
          go_enter Try.func34, Try.ntmps34
          go_wp2_with fail
          refine (HPs.out w).mono ?_
          rintro e w9 ⟨rfl, rfl⟩
          go_wp2_with fail
          refine (HPd.out w).mono ?_
          rintro e w9 ⟨rfl, rfl⟩
          go_wp2_with fail
          refine HF.out.mono ?_
          rintro e w9 ⟨rfl, rfl⟩
          go_wp2_with fail
          go_quiet (fail)
          generalize hW0 : w.drewN _ = W0
          have hb0 : Below w.heap.size w W0 := by rw [← hW0]; exact below_drewN (Below.refl _ _) _
          obtain ⟨X, hXs⟩ : ∃ X, W0.heap.size = X := ⟨_, rfl⟩
          have hz : w.heap.size = X := by rw [← hXs, ← hW0]; rfl
          obtain ⟨W1, hW1⟩ : ∃ W1, W0.alloc (.cells #[.string s, .string d, .bool b, .int .u64 (i : Int), .int .u64 (i : Int)] TIn) = W1 := ⟨_, rfl⟩
          have hb1 : Below X W0 W1 := by rw [← hW1, ← hXs]; exact below1 _ _ _
          have s1 : W1.heap.size = X + 1 := by rw [← hW1]; simp [hXs]
          have kx : W1.heap[X]? = some (.cells #[.string s, .string d, .bool b, .int .u64 (i : Int), .int .u64 (i : Int)] TIn (0, 0)) := by rw [← hW1, ← hXs]; exact heap_alloc_new _ _
          have HBw : Hid (Below X w W1) := Lib.hid (by rw [← hz] at hb1 ⊢; exact hb0.trans hb1)
          have HKx := Lib.hid kx
          have HS1 := Lib.hid s1
          have HH1 : Hid (RiIs S W1 B A c t) := Lib.hid (H.out.below (by rw [hz]; exact HBw.out))
          have HW1 := Lib.hid hW1
          have HXs := Lib.hid hXs
          have HZ := Lib.hid hz
          have hBX : B < X := by rw [← hz]; exact H.out.lt
          clear hW0 hb0 hb1 s1 kx hW1 hXs hz c0 c1 q1 q2 HF HPs HPd
          go_wp2_with fail
          rw [HW1.out, HXs.out]
          go_loopw [12, 13, 14] (fun vv lv iv wr => ∃ (k : Nat) (laid : Bool) (acc : List Ir), k ≤ L ∧ lv = .bool laid ∧ iv = .int .i64 (k : Int) ∧ Hid (irRow wr (X + 1) vv acc ∧ acc ++ restI x laid (t.l.drop k) = M) ∧ Hid (Below (X + 1) W1 wr)) (fun _ _ iv _ => L - (intOf iv).toNat)
          case atStart => exact ⟨0, false, [], Nat.zero_le _, rfl, rfl, Lib.hid ⟨rowK.nil _ _, HM.out⟩, Lib.hid (HS1.out ▸ Below.refl _ _)⟩
          case round =>
            obtain ⟨k, laid, acc, hk, rfl, rfl, hra, hb⟩ := hrel
            have ht := HH1.out.below (by rw [HS1.out]; exact hb.out)
            have c1 : wr.cell? ⟨B, 1, none⟩ = some (.slice A L c) := by have := ht.c1; rw [HL.out] at this; exact this
            have hacc : acc.length ≤ 1000 := by
              have h9 := congrArg List.length hra.out.2
              rw [List.length_append, HMl.out] at h9
              omega
            have hle3 : acc.length ≤ 1000000 := by omega
            have hle4 : (acc ++ [(⟨s, d, b, i, i⟩ : Ir)]).length ≤ 1000000 := by rw [List.length_append]; simp; omega
            have hXz : X + 1 ≤ wr.heap.size := by have := hb.out.size; have := HS1.out; omega
            have kx := (hb.out.block X (by omega)).trans HKx.out
            have hrow : Hid (irRow wr (X + 1) u12 acc) := Lib.hid hra.out.1
            by_cases hlt : k < L
            · have hkl : k < t.l.length := by rw [HL.out]; exact hlt
              obtain ⟨bb, off, rfl, hbl, hit⟩ := ht.row.at_ hkl hkl
              have hdr : t.l.drop k = t.l[k] :: t.l.drop (k + 1) := List.drop_eq_getElem_cons hkl
              obtain ⟨y, hy⟩ : ∃ y, t.l[k] = y := ⟨_, rfl⟩
              rw [hy] at hit hdr
              have HYk := Lib.hid hy
              have HD := Lib.hid hdr
              obtain ⟨e0, e1, e2, e3, e4⟩ := ir_cells hit
              obtain ⟨x0, x1, x2, x3, x4⟩ := ir_blk kx
              have g0 : (0 : Int) ≤ (k : Int) := by omega
              have g1 : (k : Int) < (L : Int) := by omega
              have HKr := Lib.hid kx
              have HIt := Lib.hid hit
              have HBl := Lib.hid hbl
              have hXl : X < wr.heap.size := by omega
              have qc := cell_regrown c1
              have qe0 := cell_regrown e0
              have qe1 := cell_regrown e1
              have qe2 := cell_regrown e2
              have qe3 := cell_regrown e3
              have qe4 := cell_regrown e4
              have qx0 := cell_regrown x0
              have qx1 := cell_regrown x1
              have qx2 := cell_regrown x2
              have qx3 := cell_regrown x3
              have qx4 := cell_regrown x4
              have HAh : Hid (∀ dd os, Calls Try.prog 53 #[.agg #[.string s, .string d, .bool b, .int .u64 (i : Int), .int .u64 (i : Int)], .agg #[.string y.src, .string y.dst, .bool y.allow, .int .u64 (y.made : Int), .int .u64 (y.ix : Int)]] (grow (redrawn wr dd) os) fun e w2 => e = .returned (.bool (aheadI x y)) ∧ ∃ p : Regrown, w2 = grow (redrawn wr p.d) p.os) := Lib.hid fun dd os => Calls.regrown_of (by rw [← HX.out]; exact rahead_any ⟨s, d, b, i, i⟩ y _)
              obtain ⟨u, hu⟩ : ∃ u, aheadI x y = u := ⟨_, rfl⟩
              rw [hu] at HAh
              have HU := Lib.hid hu
              have ht2 := Lib.hid ht
              clear hy hit hu ht kx hbl hdr
              cases laid with
              | true =>
                go_wp2_with fail
                refine wp_region_quiet_below (by kernel_rfl) (by kernel_rfl) ?_
                repeat (go_big_quiet_step (exact HAh.out _ _))
                refine wpQuiet_nil ?_
                rintro _ ⟨⟨dq, osq⟩, rfl⟩
                obtain ⟨w3, hw3⟩ : ∃ w3, grow (redrawn wr dq) osq = w3 := ⟨_, rfl⟩
                have hb3 : Below wr.heap.size wr w3 := by rw [← hw3]; exact below_regrown _ _ _
                rw [hw3]
                have HB3 : Hid (Below (X + 1) W1 w3) := Lib.hid (hb.out.trans (hb3.mono hXz))
                have hrow3 : Hid (irRow w3 (X + 1) u12 acc) := Lib.hid (hrow.out.below hb3)
                have hXz3 : X + 1 ≤ w3.heap.size := Nat.le_trans hXz hb3.size
                have c13 : w3.cell? ⟨B, 1, none⟩ = some (.slice (some ⟨bb, off, none⟩) L c) := by have := (ht2.out.below hb3).c1; rw [HL.out] at this; exact this
                obtain ⟨e0, e1, e2, e3, e4⟩ := ir_cells (HIt.out.of_block (hb3.block bb HBl.out))
                obtain ⟨x0, x1, x2, x3, x4⟩ := ir_blk ((hb3.block X (by omega)).trans HKr.out)
                have HKr3 := Lib.hid ((hb3.block X (by omega)).trans HKr.out)
                have HIt3 := Lib.hid (HIt.out.of_block (hb3.block bb HBl.out))
                have hbl3 := Nat.lt_of_lt_of_le HBl.out hb3.size
                clear hw3 hb3 qc qe0 qe1 qe2 qe3 qe4 qx0 qx1 qx2 qx3 qx4 HAh
                go_wp2_with (at_builtin; refine wpList_append_ir rfl (.tmp 70) (.tmp 78) rfl (X + 1) _ _ rfl ?qa w3.heap.size y rfl ?qb hle3 ?qc ?_)
                case qa => exact hrow3.out.below ((Below.refl _ _).alloc (Nat.le_refl _) _)
                case qb => exact ir_new w3 y _
                case qc => simp; omega
                refine Lib.hid ?_
                intro v1 w1 hown hgr
                have HB' := Lib.hid (irRow.snoc hrow3.out HB3.out hXz3 hgr)
                have HRa : Hid (irRow w1 (X + 1) v1 (acc ++ [y]) ∧ (acc ++ [y]) ++ restI x true (t.l.drop (k + 1)) = M) := Lib.hid ⟨hown, by
                  have h9 := hra.out.2
                  rw [HD.out, rest_laid] at h9
                  rw [← h9]; simp⟩
                clear hown hgr e0 e1 e2 e3 e4 x0 x1 x2 x3 x4
                go_wp2
                go_roundw
                case rel => exact ⟨k + 1, true, acc ++ [y], by omega, rfl, by go_num, HRa, HB'⟩
                case measure => simp [intOf]; omega
              | false =>
                cases u with
                | false =>
                  go_wp2_with fail
                  refine wp_region_quiet_below (by kernel_rfl) (by kernel_rfl) ?_
                  repeat (go_big_quiet_step (exact HAh.out _ _))
                  refine wpQuiet_nil ?_
                  rintro _ ⟨⟨dq, osq⟩, rfl⟩
                  obtain ⟨w3, hw3⟩ : ∃ w3, grow (redrawn wr dq) osq = w3 := ⟨_, rfl⟩
                  have hb3 : Below wr.heap.size wr w3 := by rw [← hw3]; exact below_regrown _ _ _
                  rw [hw3]
                  have HB3 : Hid (Below (X + 1) W1 w3) := Lib.hid (hb.out.trans (hb3.mono hXz))
                  have hrow3 : Hid (irRow w3 (X + 1) u12 acc) := Lib.hid (hrow.out.below hb3)
                  have hXz3 : X + 1 ≤ w3.heap.size := Nat.le_trans hXz hb3.size
                  have c13 : w3.cell? ⟨B, 1, none⟩ = some (.slice (some ⟨bb, off, none⟩) L c) := by have := (ht2.out.below hb3).c1; rw [HL.out] at this; exact this
                  obtain ⟨e0, e1, e2, e3, e4⟩ := ir_cells (HIt.out.of_block (hb3.block bb HBl.out))
                  obtain ⟨x0, x1, x2, x3, x4⟩ := ir_blk ((hb3.block X (by omega)).trans HKr.out)
                  have HKr3 := Lib.hid ((hb3.block X (by omega)).trans HKr.out)
                  have HIt3 := Lib.hid (HIt.out.of_block (hb3.block bb HBl.out))
                  have hbl3 := Nat.lt_of_lt_of_le HBl.out hb3.size
                  clear hw3 hb3 qc qe0 qe1 qe2 qe3 qe4 qx0 qx1 qx2 qx3 qx4 HAh
                  go_wp2_with (at_builtin; refine wpList_append_ir rfl (.tmp 70) (.tmp 78) rfl (X + 1) _ _ rfl ?qa w3.heap.size y rfl ?qb hle3 ?qc ?_)
                  case qa => exact hrow3.out.below ((Below.refl _ _).alloc (Nat.le_refl _) _)
                  case qb => exact ir_new w3 y _
                  case qc => simp; omega
                  refine Lib.hid ?_
                  intro v1 w1 hown hgr
                  have HB' := Lib.hid (irRow.snoc hrow3.out HB3.out hXz3 hgr)
                  have HRa : Hid (irRow w1 (X + 1) v1 (acc ++ [y]) ∧ (acc ++ [y]) ++ restI x false (t.l.drop (k + 1)) = M) := Lib.hid ⟨hown, by
                    have h9 := hra.out.2
                    rw [HD.out, rest_later HU.out] at h9
                    rw [← h9]; simp⟩
                  clear hown hgr e0 e1 e2 e3 e4 x0 x1 x2 x3 x4
                  go_wp2
                  go_roundw
                  case rel => exact ⟨k + 1, false, acc ++ [y], by omega, rfl, by go_num, HRa, HB'⟩
                  case measure => simp [intOf]; omega
                | true =>
                  go_wp2_with fail
                  refine wp_region_quiet_below (by kernel_rfl) (by kernel_rfl) ?_
                  repeat (go_big_quiet_step (exact HAh.out _ _))
                  refine wpQuiet_nil ?_
                  rintro _ ⟨⟨dq, osq⟩, rfl⟩
                  obtain ⟨w3, hw3⟩ : ∃ w3, grow (redrawn wr dq) osq = w3 := ⟨_, rfl⟩
                  have hb3 : Below wr.heap.size wr w3 := by rw [← hw3]; exact below_regrown _ _ _
                  rw [hw3]
                  have HB3 : Hid (Below (X + 1) W1 w3) := Lib.hid (hb.out.trans (hb3.mono hXz))
                  have hrow3 : Hid (irRow w3 (X + 1) u12 acc) := Lib.hid (hrow.out.below hb3)
                  have hXz3 : X + 1 ≤ w3.heap.size := Nat.le_trans hXz hb3.size
                  have c13 : w3.cell? ⟨B, 1, none⟩ = some (.slice (some ⟨bb, off, none⟩) L c) := by have := (ht2.out.below hb3).c1; rw [HL.out] at this; exact this
                  obtain ⟨e0, e1, e2, e3, e4⟩ := ir_cells (HIt.out.of_block (hb3.block bb HBl.out))
                  obtain ⟨x0, x1, x2, x3, x4⟩ := ir_blk ((hb3.block X (by omega)).trans HKr.out)
                  have HKr3 := Lib.hid ((hb3.block X (by omega)).trans HKr.out)
                  have HIt3 := Lib.hid (HIt.out.of_block (hb3.block bb HBl.out))
                  have hbl3 := Nat.lt_of_lt_of_le HBl.out hb3.size
                  clear hw3 hb3 qc qe0 qe1 qe2 qe3 qe4 qx0 qx1 qx2 qx3 qx4 HAh
                  go_wp2_with (at_builtin; refine wpList_append_ir rfl (.tmp 66) (.tmp 68) rfl (X + 1) _ _ rfl ?qa w3.heap.size ⟨s, d, b, i, i⟩ rfl ?qb hle3 ?qc ?_)
                  case qa => exact hrow3.out.below ((Below.refl _ _).alloc (Nat.le_refl _) _)
                  case qb => exact ir_new w3 ⟨s, d, b, i, i⟩ _
                  case qc => simp; omega
                  refine Lib.hid ?_
                  intro v1 w1 hown hgr
                  have hb4 := irRow.snoc hrow3.out HB3.out hXz3 hgr
                  have HB4 := Lib.hid hb4
                  have HR1 := Lib.hid hown
                  have c14 : w1.cell? ⟨B, 1, none⟩ = some (.slice (some ⟨bb, off, none⟩) L c) := by have := (HH1.out.below (by rw [HS1.out]; exact hb4)).c1; rw [HL.out] at this; exact this
                  have hx4 : X + 1 ≤ w1.heap.size := by have := hb4.size; have := HS1.out; omega
                  obtain ⟨bb2, off2, e9, hbl4, hit4⟩ := (HH1.out.below (by rw [HS1.out]; exact hb4)).row.at_ hkl hkl
                  simp only [Option.some.injEq, Addr.mk.injEq, and_true] at e9
                  obtain ⟨rfl, rfl⟩ := e9
                  have hyk : t.l[k] = y := HYk.out
                  rw [hyk] at hit4
                  obtain ⟨e0, e1, e2, e3, e4⟩ := ir_cells hit4
                  clear hown hgr hb4 c13 x0 x1 x2 x3 x4 hit4 hyk
                  go_wp2_with (at_builtin; refine wpList_append_ir rfl (.tmp 70) (.tmp 78) rfl (X + 1) _ _ rfl ?qd w1.heap.size y rfl ?qe hle4 ?qf ?_)
                  case qd => exact HR1.out.below ((Below.refl _ _).alloc (Nat.le_refl _) _)
                  case qe => exact ir_new w1 y _
                  case qf => simp; omega
                  refine Lib.hid ?_
                  intro v5 w5 hown hgr
                  have HB' := Lib.hid (irRow.snoc HR1.out HB4.out hx4 hgr)
                  have HRa : Hid (irRow w5 (X + 1) v5 (acc ++ [x] ++ [y]) ∧ (acc ++ [x] ++ [y]) ++ restI x true (t.l.drop (k + 1)) = M) := Lib.hid ⟨by rw [← HX.out, List.append_assoc]; exact hown, by
                    have h9 := hra.out.2
                    rw [HD.out, rest_now HU.out] at h9
                    rw [← h9]; simp⟩
                  clear hown hgr e0 e1 e2 e3 e4
                  go_wp2
                  go_roundw
                  case rel => exact ⟨k + 1, true, acc ++ [x] ++ [y], by omega, rfl, by go_num, HRa, HB'⟩
                  case measure => simp [intOf]; omega
            · have hk0 : True := trivial
              have hfin : ∀ (vv : Value) (wf : World), irRow wf (X + 1) vv M → Below (X + 1) W1 wf → ∃ A2 c2, vv = .slice A2 M.length c2 ∧ Hid (RiIs (fun k => S k ∨ X ≤ k) (wf.setCell ⟨B, 1, none⟩ (.slice A2 M.length c2)) B A2 c2 { t with l := M }) ∧ Hid (Frz wf A2 M.length ∧ ∀ b off, A2 = some ⟨b, off, none⟩ → b ≠ B) ∧ wf.cell? ⟨B, 1, none⟩ = some (.slice A L c) ∧ wf.frozen? ⟨B, 1, none⟩ = false ∧ B < wf.heap.size := fun vv wf h1 h2 => by
                obtain ⟨A2, c2, rfl, hSK, hnc, hmc, hge⟩ := SK.of_row irC_len h1
                have ht9 := HH1.out.below (by rw [HS1.out]; exact h2)
                refine ⟨A2, c2, rfl, Lib.hid ?_, Lib.hid ⟨.of_row h1, fun b off e => by have := hge b off e; omega⟩, by have := ht9.c1; rw [HL.out] at this; exact this, ht9.froz 1, ht9.lt⟩
                exact (ht9.narrow fun _ _ z => .inl z).setRows hSK (fun b off e _ => ⟨.inr (by have := hge b off e; omega), by have := hge b off e; omega⟩) hnc hmc
              have HFin := Lib.hid hfin
              have hdr : t.l.drop k = [] := List.drop_of_length_le (by rw [HL.out]; omega)
              have h9 := hra.out.2
              rw [hdr] at h9
              have H9 := Lib.hid h9
              clear hfin hdr h9
              cases laid with
              | true =>
                have hM : acc = M := by have := H9.out; unfold restI at this; simpa using this
                have hrowM : irRow wr (X + 1) u12 M := by rw [← hM]; exact hrow.out
                obtain ⟨A2, c2, rfl, hset, hfz, c9, f9, l9⟩ := HFin.out u12 wr hrowM hb.out
                have HBf : Hid (Below (X + 1) W1 wr) := hb
                clear hM hrowM hrow hra H9 HFin
                have HRz := Lib.hid (riraise_any (A := A2) (c := c2) (t := { t with l := M }) i _ hset.out HLst.out HI.out)
                go_wp2_with fail
                refine HRz.out.mono ?_
                rintro e w7 ⟨rfl, hr7, hb7⟩
                have H7 := Lib.hid hr7
                have HB7 := Lib.hid hb7
                clear hr7 hb7 HRz hset
                go_wp2
                go_ret
                refine ⟨rfl, ⟨HAdd.out, A2, c2, by rw [← HR4.out, HZ.out]; exact H7.out, by rw [← HR4.out]; exact (hfz.out.1.but ((But.set (S := (· = B)) _ (p := ⟨B, 1, none⟩) rfl _).trans HB7.out) fun b off e _ => hfz.out.2 b off e)⟩, ?_⟩
                exact ((But.of_below ((HBw.out.mono (by rw [HZ.out]; exact Nat.le_refl _)).trans (HBf.out.mono (by rw [HZ.out]; omega)))).trans (But.set (S := (· = B)) _ (p := ⟨B, 1, none⟩) rfl _)).trans HB7.out
              | false =>
                have hM : acc ++ [x] = M := by have := H9.out; unfold restI at this; simpa [insI] using this
                obtain ⟨x0, x1, x2, x3, x4⟩ := ir_blk kx
                go_wp2_with (at_builtin; refine wpList_append_ir rfl (.tmp 82) (.tmp 84) rfl (X + 1) _ _ rfl ?qa wr.heap.size ⟨s, d, b, i, i⟩ rfl ?qb hle3 ?qc ?_)
                case qa => exact hrow.out.below ((Below.refl _ _).alloc (Nat.le_refl _) _)
                case qb => exact ir_new wr ⟨s, d, b, i, i⟩ _
                case qc => simp; omega
                refine Lib.hid ?_
                intro v1 w1 hown hgr
                have HBf := Lib.hid (irRow.snoc hrow.out hb.out hXz hgr)
                have hrowM : irRow w1 (X + 1) v1 M := by rw [← hM, ← HX.out]; exact hown
                obtain ⟨A2, c2, rfl, hset, hfz, c9, f9, l9⟩ := HFin.out v1 w1 hrowM HBf.out
                clear hM hrowM hrow hra H9 HFin hown hgr x0 x1 x2 x3 x4
                have HRz := Lib.hid (riraise_any (A := A2) (c := c2) (t := { t with l := M }) i _ hset.out HLst.out HI.out)
                go_wp2_with fail
                refine HRz.out.mono ?_
                rintro e w7 ⟨rfl, hr7, hb7⟩
                have H7 := Lib.hid hr7
                have HB7 := Lib.hid hb7
                clear hr7 hb7 HRz hset
                go_wp2
                go_ret
                refine ⟨rfl, ⟨HAdd.out, A2, c2, by rw [← HR4.out, HZ.out]; exact H7.out, by rw [← HR4.out]; exact (hfz.out.1.but ((But.set (S := (· = B)) _ (p := ⟨B, 1, none⟩) rfl _).trans HB7.out) fun b off e _ => hfz.out.2 b off e)⟩, ?_⟩
                exact ((But.of_below ((HBw.out.mono (by rw [HZ.out]; exact Nat.le_refl _)).trans (HBf.out.mono (by rw [HZ.out]; omega)))).trans (But.set (S := (· = B)) _ (p := ⟨B, 1, none⟩) rfl _)).trans HB7.out
end Go.Proofs.Ytmegfkclpjddgaa
