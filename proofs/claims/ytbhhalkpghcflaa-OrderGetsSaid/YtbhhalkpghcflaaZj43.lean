/-
  The document's read, walked: the commands within one, the end (layer 20).
-/
import Derived.Test.YtbhhalkpghcflaaZj42
namespace Go.Proofs.Ytbhhalkpghcflaa
open Go.RowKit Go.Rel
set_option linter.unusedSimpArgs false
set_option linter.unusedVariables false

/-- What stands behind all, in the document's read. -/
def LpE (S : Nat → Prop) (R B n0 kn : Nat) (g : ((Nat × Fs) × List (Nat × Fs)) × St) (wr : World) : Prop := ∃ cur l sA sn sc subs, BoxL n0 B (kn : Int) cur l wr ∧ cur[16]? = some (.slice sA sn sc) ∧ sn ≤ maxLen ∧ RfAt S wr R g.2 ∧ SK cmC 17 wr sA sn (subs.map (·.1)) ∧ (∀ b off, sA = some ⟨b, off, none⟩ → 0 < sn → n0 ≤ b) ∧ (∀ z ∈ subs, FrT n0 wr z ∧ z.1.sn = 0 ∧ 0 ≤ z.1.kind) ∧ (hasB kn 15 = false → subs = []) ∧ (g.2.e = 0 → ((kn, l), subs.map absS) = g.1)
section
variable {S : Nat → Prop} {R B n0 kn b i : Nat} {s1 s0 : St} {W W' : World} {g : ((Nat × Fs) × List (Nat × Fs)) × St}
theorem LpD.last (h : LpD S R B n0 kn s1 15 W) (hg : g = (((kn, ((fieldsC kn).rd s1).1), []), stK kn s1 15)) : LpE S R B n0 kn g W := by
  obtain ⟨cur, l, h1, h2, h3, h4⟩ := h
  subst hg
  exact ⟨cur, l, none, 0, 0, [], h1, h2, Nat.zero_le _, h3, ⟨rfl, fun h => absurd h (by decide)⟩, (fun b off e h => absurd h (by decide)), (fun z hz => by cases hz), fun _ => rfl, fun e => by rw [h4 e, expL_15]; rfl⟩
theorem lpe_subs {cur : Array Value} {l : List Fv} {vk : Value} {subs : List Sub} (h1 : BoxL n0 B (kn : Int) cur l W) (h4 : (stK kn s1 15).e = 0 → l = expL kn s1 15) (hR : R < n0) (hBn : B < n0) (hn : n0 ≤ W.heap.size) (h15 : hasB kn 15 = true) (hi : i ≤ 8) (h : RkF S R B b W s0 cur i vk subs W')
    (hg2 : g.2 = (subC.many i s0).2) (hg1 : g.2.e = 0 → g.1 = ((kn, ((fieldsC kn).rd s1).1), (subC.many i s0).1)) (hst : (subC.many i s0).2.e = 0 → (stK kn s1 15).e = 0) : LpE S R B n0 kn g W' := by
  obtain ⟨A, c, hv, hsk, hlc, hcm, _⟩ := SK.of_row cmC_len h.row
  have hS : ∀ k, (k = R ∨ k = B) → k < n0 := fun k hk => by rcases hk with h | h <;> omega
  refine ⟨cur.setIfInBounds 16 vk, l, A, (subs.map (·.1)).length, c, subs, ⟨h.box, by simp [h1.size], by rw [Array.getElem?_setIfInBounds_ne (by decide)]; exact h1.k0, h1.len, fun j v hv => ?_⟩, by rw [Array.getElem?_setIfInBounds_self_of_lt (by rw [h1.size]; decide), hv], by rw [List.length_map, h.len]; unfold maxLen; omega, by rw [hg2]; exact h.rd, hsk, (fun b off e hn2 => Nat.le_trans hn (h.own b (by rw [hv, e]; rfl))), fun z hz => ?_, (fun e => by rw [h15] at e; cases e), fun e => ?_⟩
  · have hj : j < 15 := by rw [← h1.len]; exact (List.getElem?_eq_some_iff.1 hv).1
    obtain ⟨g1, c2, g2, g3⟩ := h1.each j v hv
    exact ⟨g1, c2, by rw [Array.getElem?_setIfInBounds_ne (by omega)]; exact g2, g3.but h.low hS⟩
  · obtain ⟨g1, g2, g3, _⟩ := h.each z hz
    exact ⟨⟨g1.1, fun b off e hn2 => Nat.le_trans hn (g1.2 b off e hn2)⟩, g2, g3⟩
  · have e2 := e
    rw [hg2] at e2
    rw [hg1 e, h4 (hst e2), expL_15, h.val e2]
end
theorem many_stop {s0 : St} {k : Nat} (h : (subC.many k s0).2.e ≠ 0) : ∀ j, (subC.many (k + j) s0).2 = (subC.many k s0).2
  | 0 => rfl
  | j + 1 => by
    rw [show k + (j + 1) = (k + j) + 1 by omega, Cod.many_snoc]
    show (subC.rd (subC.many (k + j) s0).2).2 = _
    rw [many_stop h j]
    exact subC.st _ h
theorem fdSub_of {S : Nat → Prop} {R : Nat} {W W' : World} {s : St} {e : Ending} (h : FdP 32767 S R W s e W') : But (fun k => k = R) W W' ∧ ∃ y : Sub, e = .returned (cmV y.1) ∧ RfAt S W' R (subC.rd s).2 ∧ SubR W.heap.size s W' y := by
  obtain ⟨hb, y, subs, h1, h2, h3⟩ := h
  rw [genC_in] at h2
  have h4 := h3.val
  rw [genC_in] at h4
  have h5 := h3.bit (mask_in15 _)
  refine ⟨hb, y, h1, h2, h3.fr, ?_, h3.k0, fun e0 => (congrArg Prod.fst (h4 e0))⟩
  have := h3.row.1
  rw [h5] at this
  simpa using this.symm
def rfE (R B : Nat) (vk : Value) : Nat → Value
  | 0 | 6 => .pointer (some ⟨B, 16, none⟩)
  | 1 => vk
  | 2 => .pointer (some ⟨R, 0, none⟩)
  | _ => undef
set_option maxRecDepth 100000 in
set_option maxHeartbeats 4000000 in
theorem fd_subs (deep : Bool) (may : Nat) (S : Nat → Prop) (R : Nat) (s : St) (w : World) (kn : Nat) (s1 : St) (P : Nat) (hP : w.heap.size = P) (hRP : R < P) (hk255 : kn ≤ 255) (HG2 : Hid ((kindG may).rd s = (kn, s1))) (hss : ByteArray) (hz : hss.size = 16) (HX : Hid (∀ i (hi : i < 16), hss[i]'(by omega) = if hasB kn i then 120 else 46))
    (HDK : Hid (hasB kn 15 = (maskN (kn : Int) &&& may).testBit 15)) (HSUB2 : Hid (hasB kn 15 = true → ∀ W s', w.heap.size ≤ W.heap.size → RfAt S W R s' → Calls Try.prog 30 #[.pointer (some ⟨R, 0, none⟩), .bool true] W (FdP 32767 S R W s')))
    (HSN : Hid (∀ k, w.heap.size ≤ k → S k)) (HSP : Hid (S P ∧ S (P + 1))) (w9 wc : World) (LOW9 : Hid (But (fun k => k = R) w w9)) (HP9 : Hid (w9.heap[P]? = some (.cells #[.int .i64 0, .int .i64 0, .int .i64 0, .int .i64 0, .string ⟨#[]⟩, .string ⟨#[]⟩, .string ⟨#[]⟩, .string ⟨#[]⟩, .string ⟨#[]⟩, .string ⟨#[]⟩, .string ⟨#[]⟩, .string ⟨#[]⟩, .slice none 0 0, .bool false, .int .u64 0, .int .u64 0, .slice none 0 0] TCm (0, 0)))) (HSZ9 : Hid (P + 1 < w9.heap.size)) (HQ15 : Hid (But (fun j => j = R ∨ j = P + 1) w9 wc ∧ LpD S R (P + 1) w9.heap.size kn s1 15 wc))
    (u2 u3 u7 u8 u9 u10 u11 u12 u13 u14 u15 u16 u17 u18 u19 u20 u21 u22 u23 u24 u25 u26 u27 u28 u29 u30 u31 u32 u33 u34 u35 u36 u37 u38 u39 u40 u41 u42 u43 u44 u45 u46 u47 u48 u49 u50 u51 u52 u53 u54 u55 u56 u57 u58 u59 u60 u61 u62 u63 u64 u65 u66 u67 u68 u69 u70 u71 u72 u73 u74 u75 u76 u77 u78 u79 u80 u81 u82 u83 u84 u85 u86 u87 u88 u89 u90 u91 u92 u93 u94 u95 u96 u97 u98 u99 u100 u101 u102 u103 u104 u105 u106 u107 u108 u109 u110 u111 u112 u113 u114 u115 u116 u117 u118 u119 u120 u121 u122 u123 u124 u125 u126 u127 u128 u129 u130 u131 u132 u133 u134 u135 u136 u137 u138 u139 u140 u141 u142 u143 u144 u145 u146 : Value) : Code.wp Try.prog (tailN 15 bodF) (bodyPost Try.prog Try.f30 (FdP may S R w s)) { tmps := #[.pointer (some ⟨R, 0, none⟩), .bool deep, u2, u3, .pointer (some ⟨P, 0, none⟩), .pointer (some ⟨P + 1, 0, none⟩), .string hss, u7, u8, u9, u10, u11, u12, u13, u14, u15, u16, u17, u18, u19, u20, u21, u22, u23, u24, u25, u26, u27, u28, u29, u30, u31, u32, u33, u34, u35, u36, u37, u38, u39, u40, u41, u42, u43, u44, u45, u46, u47, u48, u49, u50, u51, u52, u53, u54, u55, u56, u57, u58, u59, u60, u61, u62, u63, u64, u65, u66, u67, u68, u69, u70, u71, u72, u73, u74, u75, u76, u77, u78, u79, u80, u81, u82, u83, u84, u85, u86, u87, u88, u89, u90, u91, u92, u93, u94, u95, u96, u97, u98, u99, u100, u101, u102, u103, u104, u105, u106, u107, u108, u109, u110, u111, u112, u113, u114, u115, u116, u117, u118, u119, u120, u121, u122, u123, u124, u125, u126, u127, u128, u129, u130, u131, u132, u133, u134, u135, u136, u137, u138, u139, u140, u141, u142, u143, u144, u145, u146], defers := [] } wc := by
  have hsz9 := HSZ9.out
  have hszc := HQ15.out.1.size
  change Code.wp _ (Code.seq _ _) _ _ _
  have g15 := HX.out 15 (by omega)
  obtain ⟨B15, hB15⟩ : ∃ B, hasB kn 15 = B := ⟨_, rfl⟩
  rw [hB15] at g15
  have i15 : 15 < hss.size := by omega
  have t15 : (((hss[15]'i15).toNat : Int) == 120) = B15 := by rw [g15]; cases B15 <;> rfl
  have H15 := Lib.hid hB15
  clear g15 hB15
  go_upto_if 123 with (fail)
  go_cut [126] (fun sx wx => But (fun j => j = R ∨ j = P + 1) w9 wx ∧ LpE S R (P + 1) w9.heap.size kn ((genC may).rd s) wx)
  case first =>
    have hg := genC_ok HG2.out
    rw [← HDK.out, H15.out] at hg
    cases B15 with
    | false =>
      go_wp2
      go_meet
      exact ⟨HQ15.out.1, HQ15.out.2.last hg⟩
    | true =>
      obtain ⟨cur, l, hbx, h16, hrd, hval⟩ := HQ15.out.2
      have C2 := Lib.hid (fNum_any S R 8 _ wc hrd (by decide))
      have hm8 := num_out_le 8 (stK kn s1 15)
      obtain ⟨m, hm⟩ : ∃ m, (itNum 8).out (stK kn s1 15) = m := ⟨_, rfl⟩
      obtain ⟨s0, hs0⟩ : ∃ s0, (itNum 8).next (stK kn s1 15) = s0 := ⟨_, rfl⟩
      have hgm : (genC may).rd s = (((kn, ((fieldsC kn).rd s1).1), (subC.many m s0).1), (subC.many m s0).2) := by rw [hg, ← hm, ← hs0]; rfl
      have hst : ∀ i, (subC.many i s0).2.e = 0 → (stK kn s1 15).e = 0 := fun i h => by
        have h1 : s0.e = 0 := by
          by_cases h0 : s0.e = 0
          · exact h0
          · have := many_stop (k := 0) (s0 := s0) (show (subC.many 0 s0).2.e ≠ 0 from h0) i
            rw [Nat.zero_add] at this
            rw [this] at h
            exact absurd h h0
        rw [← hs0] at h1
        exact ((numC 8 (by decide)).bw _ h1).1
      rw [hm, hs0] at C2
      rw [hm] at hm8
      have hpc : wc.cell? ⟨P, 0, none⟩ = some (.int .i64 0) := (HQ15.out.1.cell (p := ⟨P, 0, none⟩) (block_lt HP9.out) (show ¬ (P = R ∨ P = P + 1) by omega)).trans (by rw [cell_of_row w9 P 0 _ TCm (0, 0) HP9.out]; rfl)
      have hcur : cur.setIfInBounds 16 (.slice none 0 0) = cur := by
        apply Array.ext_getElem?
        intro i
        by_cases e : i = 16
        · subst e
          rw [Array.getElem?_setIfInBounds_self_of_lt (by rw [hbx.size]; decide), h16]
        · rw [Array.getElem?_setIfInBounds_ne (fun h => e h.symm)]
      have e8 : IntKind.i64.wrap (m : Int) = (m : Int) := IntWalk.i64_in _ (by omega)
      have HBX := Lib.hid hbx
      have HVAL := Lib.hid hval
      have HGM := Lib.hid hgm
      have HST := Lib.hid hst
      have HCUR := Lib.hid hcur
      have HPC := Lib.hid hpc
      have CRD := Lib.hid (HSUB2.out H15.out)
      have hwc : w.heap.size ≤ wc.heap.size := by omega
      unfold u64V at C2
      clear hg hbx h16 hrd hval hm hs0 hgm hst hcur hpc
      go_wp2_with fail
      refine C2.out.mono ?_
      rintro e w1 ⟨rfl, hr1, hb1⟩
      have HI1 := Lib.hid (⟨hb1.mono fun k hk => .inl hk, (hb1.cell (World.block_lt_of_cell? _ _ HPC.out) (show ¬ P = R by omega)).trans HPC.out, hr1, by rw [HCUR.out]; exact (hb1.block (P + 1) (block_lt HBX.out.box) (by omega)).trans HBX.out.box, rowK.nil _ _, rfl, (fun j hj => by cases hj), (fun y hy => by cases hy), fun _ => rfl⟩ : RkF S R (P + 1) P wc s0 cur 0 (.slice none 0 0) [] w1)
      clear hr1 hb1 C2
      go_wp2
      go_loopw [12] (fun i wr => ∃ k : Nat, k ≤ m ∧ i = .int .i64 k ∧ ∃ vk subs, RkF S R (P + 1) P wc s0 cur k vk subs wr) (fun i _ => m - (intOf i).toNat)
      case atStart => exact ⟨0, Nat.zero_le _, rfl, _, _, HI1.out⟩
      case round =>
        obtain ⟨k, hk, rfl, vk, subs, hU⟩ := hrel
        have HU := Lib.hid hU
        have q1 := hU.rd.err
        clear hU
        by_cases hlt : k < m
        · have u1 : (k : Int) < (m : Int) := by omega
          by_cases he : (subC.many k s0).2.e = 0
          · rw [he] at q1
            obtain ⟨A, c, hv, hsk, hlc, hcm, _⟩ := SK.of_row cmC_len HU.out.row
            have hln : (subs.map (·.1)).length = k := by rw [List.length_map]; exact HU.out.len
            rw [hln] at hv
            have HV := Lib.hid hv
            have hlow := HU.out.low.size
            have CRk := Lib.hid (fun W (hW : wr.heap.size ≤ W.heap.size) hr => CRD.out W (subC.many k s0).2 (Nat.le_trans hwc (Nat.le_trans hlow hW)) hr)
            have CSZ := Lib.hid (show (cur.setIfInBounds 16 vk).size = 17 by rw [Array.size_setIfInBounds]; exact HBX.out.size)
            have C16 := Lib.hid (show (cur.setIfInBounds 16 vk)[16]? = some vk by rw [Array.getElem?_setIfInBounds_self_of_lt (by rw [HBX.out.size]; decide)])
            have OWN := Lib.hid (show ∀ j, vk.ownBlock = some j → S j ∧ j < wr.heap.size ∧ j ≠ R ∧ j ≠ P + 1 ∧ j ≠ P from fun j hj => by
              have h1 := HU.out.own j hj
              have h2 := (HU.out.row.from j hj).2
              exact ⟨HSN.out j (by omega), h2, by omega, by omega, by omega⟩)
            have hRw : R < wr.heap.size := by omega
            have hBw : P + 1 < wr.heap.size := by omega
            clear hv hsk hlc hcm hln
            go_wp2_with fail
            refine Go.Rel.wp_tabeq (by kernel_rfl) (by kernel_rfl) (RcF S R (P + 1) P (fun v z => v = cmV z) wr (subC.many k s0).2 (cur.setIfInBounds 16 vk) vk subs 3 4 5 7) (fun _ _ => True) (fun _ => trivial) (fun _ _ _ _ _ => trivial) trivial (fun e => RcF.start HU.out.rd HU.out.ptr HU.out.row HU.out.box) (rfE R (P + 1) (.slice A k c)) (fun _ _ _ => True) (fun i => ([3, 4, 5] : List Nat).contains i) (fun i => ([1, 3, 4, 5, 7] : List Nat).contains i) (by kernel_rfl) (fun _ _ _ _ h _ => h) [3, 4, 5, 7] (by decide) (fun f e W i v e' hi hI hp => hI.keep hi hp) (fun _ _ => False) (fun _ _ _ _ h => h.elim) ?_ (Go.Rel.AllOf.get ?_) ?_
            · repeat (refine .cons (by first | exact Go.Rel.pure_sp rfl | exact Go.Rel.pure_yes (by kernel_rfl) (fun _ => by kernel_rfl)) ?_)
              exact .nil
            · refine ⟨?_, ?_, ?_, ?_, ?_, trivial⟩
              · exact SpecE.q _ (SpecE.ld (T := 24) (fun f e W i v e' hi hI hp => hI.keep hi hp) (fun _ => trivial) (q := .pointer (some ⟨P + 1, 16, none⟩)) (h := fun f W e hI hf hd _ _ => by
                  have hc := (hI.cellB (hd 3 7 (by kernel_rfl)) CSZ.out).2.trans (C16.out.trans (congrArg some HV.out))
                  go_simp
                  rfl))
              · exact SpecEQ.call 30 #[.pointer (some ⟨R, 0, none⟩), .bool true] rfl (by kernel_rfl) (fun _ => by kernel_rfl) fun f W e hI hf hd _ _ => (CRk.out W hI.low.size (hI.bef hf)).mono fun e9 W2 hq => by
                  obtain ⟨hb, y, he, hr, hy⟩ := fdSub_of hq
                  exact .inl ⟨_, he, trivial, fun e' hp => hI.call hf (hd 4 5 (by kernel_rfl)) (hd 4 7 (by kernel_rfl)) (by decide) (fun h6 => by rw [hd 4 4 (by kernel_rfl)] at h6; cases h6) (by omega) (by omega) (fun h => (OWN.out R h).2.2.1 rfl) hRw hb hr hy hp rfl, trivial⟩
              · exact SpecE.q _ (SpecE.gen (fun e => [(142, e 3)]) rfl rfl (fun _ => by kernel_rfl) fun f W e hI hf hd ha _ _ K hK => by
                  obtain ⟨_, y, hy, he⟩ := hI.aft (ha 3 3 (by kernel_rfl))
                  have h1 := hK (.slice (some ⟨W.heap.size, 0, none⟩) 1 1) (W.alloc (.cells (cmC y.1).toArray TCm)) trivial (fun e' hp => hI.build (hd 4 5 (by kernel_rfl)) (hd 4 7 (by kernel_rfl)) (by decide) (z := y.1) rfl he TCm hp rfl) trivial
                  rw [he]
                  exact (congrArg (fun r => Go.Rel.Runs Try.prog r K) (show _ = Result.ok (Next.value (.slice (some ⟨W.heap.size, 0, none⟩) 1 1)) (W.alloc (.cells (cmC y.1).toArray TCm)) by kernel_rfl)).mpr h1)
              · exact SpecE.q _ (SpecE.gen (fun e => [(140, .slice A k c), (143, e 4)]) rfl rfl (fun _ => by kernel_rfl) fun f W e hI hf hd ha _ _ K hK => by
                  obtain ⟨v', W2, hrun, hk2⟩ := hI.append (ha 3 3 (by kernel_rfl)) (ha 3 4 (by kernel_rfl)) hf (hd 4 7 (by kernel_rfl)) (by decide) (by rw [HU.out.len]; omega) OWN.out 24
                  rw [HV.out] at hrun
                  exact runs_append (.tmp 140) (.tmp 143) 24 rfl rfl rfl hrun (hK v' W2 trivial (fun e' hp => hk2 _ e' rfl hp) trivial))
              · exact SpecE.q _ (SpecE.stx 5 (T := 24) (q := ⟨P + 1, 16, none⟩) (hy := fun _ => by kernel_rfl) (hx := fun _ => by kernel_rfl) (h := fun f W e hI hf hd ha _ => by
                  have h7 := ha 3 5 (by kernel_rfl)
                  obtain ⟨y, z, g1, g2, g3, g4, g5, g6⟩ := hI.app h7
                  obtain ⟨A2, c2, g7, _⟩ := SK.of_row cmC_len g4
                  refine ⟨W.setCell ⟨P + 1, 16, none⟩ (e 5), ?_, trivial, fun e' hp => hI.store h7 (ha 4 3 (by kernel_rfl)) hf (by decide) HSP.out.2 (by omega) (by omega) hBw (fun h => (OWN.out (P + 1) h).2.2.2.1 rfl) hp⟩
                  rw [g7]
                  exact st_subs W _ _ _ _ (hI.cellB hf CSZ.out).1))
            · intro f W e hall hI _ hv
              obtain ⟨y, z, g1, g2, g3, g4, g5, g6⟩ := hI.app (hall 5 (by decide))
              have hbx := hI.box
              rw [hall 7 (by decide)] at hbx
              simp only [if_true] at hbx
              have HN := Lib.hid (HU.out.next hI.low hI.ptr (hI.aft (hall 3 (by decide))).1 hbx (by rw [← cmV_inj (g2.symm.trans g3)] at g4; exact g4) g6 g1 g5 (by omega) (by omega))
              simp only [Go.Rel.finL, List.setIfInBounds_toArray, List.set_cons_succ, List.set_cons_zero]
              clear hv hI hall hbx g1 g2 g3 g4 g5 g6
              show Exit.inBlock _ _ Exit.normal _ _
              go_wp2
              go_roundw
              case rel => exact ⟨k + 1, by omega, by go_num, _, _, HN.out⟩
              case measure => simp [intOf]; omega
          · have t1 : (((subC.many k s0).2.e : Int) == 0) = false := by rw [beq_eq_false_iff_ne]; omega
            have hstop : (subC.many m s0).2 = (subC.many k s0).2 := by
              have := many_stop he (m - k)
              rwa [show k + (m - k) = m by omega] at this
            have HEND := Lib.hid (lpe_subs (i := k) (g := (genC may).rd s) HBX.out HVAL.out (by omega) (by omega) (by omega) H15.out (by omega) HU.out (by rw [HGM.out]; exact hstop) (fun e0 => by rw [HGM.out] at e0; rw [show (subC.many m s0).2 = (subC.many k s0).2 from hstop] at e0; exact absurd e0 he) (HST.out k))
            have HLX := Lib.hid (HQ15.out.1.trans HU.out.low)
            clear hstop he
            go_wp2
            go_meet
            exact ⟨HLX.out, HEND.out⟩
        · obtain rfl : k = m := by omega
          have HEND := Lib.hid (lpe_subs (i := k) (g := (genC may).rd s) HBX.out HVAL.out (by omega) (by omega) (by omega) H15.out (by omega) HU.out (by rw [HGM.out]) (fun e0 => by rw [HGM.out]) (HST.out k))
          have HLX := Lib.hid (HQ15.out.1.trans HU.out.low)
          go_wp2
          go_meet
          exact ⟨HLX.out, HEND.out⟩
  case rest =>
    obtain ⟨hlx, cur, l, sA, sn, sc, subs, g1, g2, g3, g4, g5, g5', g6, g7, g8⟩ := hcut
    have hs2 := hlx.size
    obtain ⟨y, y1, y2, y3, y4, y5, y6, y7⟩ := g1.cmd (by omega) g2 g3
    obtain rfl : cur = (cmC y.1).toArray := by rw [← y1]
    have HIt : Hid (wc.rangeAt (P + 1) 0 (cmC y.1)) := Lib.hid (range_row g1.box)
    have HOLD : Hid (wc.heap[P]? = some (.cells #[.int .i64 0, .int .i64 0, .int .i64 0, .int .i64 0, .string ⟨#[]⟩, .string ⟨#[]⟩, .string ⟨#[]⟩, .string ⟨#[]⟩, .string ⟨#[]⟩, .string ⟨#[]⟩, .string ⟨#[]⟩, .string ⟨#[]⟩, .slice none 0 0, .bool false, .int .u64 0, .int .u64 0, .slice none 0 0] TCm (0, 0))) := Lib.hid ((hlx.block P (block_lt HP9.out) (by omega)).trans HP9.out)
    subst y5 y6 y7
    have HB16 : Hid (But (fun k => k = P) wc (wc.setRow P #[.int .i64 y.1.kind, .int .i64 y.1.node, .int .i64 y.1.port, .int .i64 y.1.status, .string ⟨y.1.id.toArray⟩, .string ⟨y.1.name.toArray⟩, .string ⟨y.1.svc.toArray⟩, .string ⟨y.1.note.toArray⟩, .string ⟨y.1.key.toArray⟩, .string ⟨y.1.val.toArray⟩, .string ⟨y.1.src.toArray⟩, .string ⟨y.1.dst.toArray⟩, .slice y.1.tA y.1.tn y.1.tc, .bool y.1.allow, .int .u64 (y.1.old : Int), .int .u64 (y.1.ses : Int), .slice y.1.sA y.1.sn y.1.sc])) := Lib.hid (but_setRow _ _ _)
    have HNEW : Hid ((wc.setRow P #[.int .i64 y.1.kind, .int .i64 y.1.node, .int .i64 y.1.port, .int .i64 y.1.status, .string ⟨y.1.id.toArray⟩, .string ⟨y.1.name.toArray⟩, .string ⟨y.1.svc.toArray⟩, .string ⟨y.1.note.toArray⟩, .string ⟨y.1.key.toArray⟩, .string ⟨y.1.val.toArray⟩, .string ⟨y.1.src.toArray⟩, .string ⟨y.1.dst.toArray⟩, .slice y.1.tA y.1.tn y.1.tc, .bool y.1.allow, .int .u64 (y.1.old : Int), .int .u64 (y.1.ses : Int), .slice y.1.sA y.1.sn y.1.sc]).heap[P]? = some (.cells #[.int .i64 y.1.kind, .int .i64 y.1.node, .int .i64 y.1.port, .int .i64 y.1.status, .string ⟨y.1.id.toArray⟩, .string ⟨y.1.name.toArray⟩, .string ⟨y.1.svc.toArray⟩, .string ⟨y.1.note.toArray⟩, .string ⟨y.1.key.toArray⟩, .string ⟨y.1.val.toArray⟩, .string ⟨y.1.src.toArray⟩, .string ⟨y.1.dst.toArray⟩, .slice y.1.tA y.1.tn y.1.tc, .bool y.1.allow, .int .u64 (y.1.old : Int), .int .u64 (y.1.ses : Int), .slice y.1.sA y.1.sn y.1.sc] TCm (0, 0))) := Lib.hid (setRow_heap wc _ _ _ TCm (0, 0) HOLD.out)
    have LOWc := Lib.hid (LOW9.out.then_ hlx (fun i hi hlt => by omega))
    have HD : Hid (FdP may S R w s (.returned (cmV y.1)) (wc.setRow P #[.int .i64 y.1.kind, .int .i64 y.1.node, .int .i64 y.1.port, .int .i64 y.1.status, .string ⟨y.1.id.toArray⟩, .string ⟨y.1.name.toArray⟩, .string ⟨y.1.svc.toArray⟩, .string ⟨y.1.note.toArray⟩, .string ⟨y.1.key.toArray⟩, .string ⟨y.1.val.toArray⟩, .string ⟨y.1.src.toArray⟩, .string ⟨y.1.dst.toArray⟩, .slice y.1.tA y.1.tn y.1.tc, .bool y.1.allow, .int .u64 (y.1.old : Int), .int .u64 (y.1.ses : Int), .slice y.1.sA y.1.sn y.1.sc])) := Lib.hid ⟨LOWc.out.then_ HB16.out (fun j hj hjl => by omega), y, subs, rfl, g4.but HB16.out (fun j hj => hj ▸ HSP.out.1) (by omega), ⟨⟨⟨y3.1.small, y3.1.row.but HB16.out (fun b off e hn hs => by have := y3.2 b off e hn; omega), y3.1.lens⟩, fun b off e hn => by have := y3.2 b off e hn; omega⟩, by omega, g5.but HB16.out (fun b off e hn hs => by have := g5' b off e hn; omega), (fun b off e hn => by have := g5' b off e hn; omega), (fun z hz => ⟨⟨⟨(g6 z hz).1.1.small, (g6 z hz).1.1.row.but HB16.out (fun b off e hn hs => by have := (g6 z hz).1.2 b off e hn; omega), (g6 z hz).1.1.lens⟩, fun b off e hn => by have := (g6 z hz).1.2 b off e hn; omega⟩, (g6 z hz).2⟩), (fun hbit => g7 (by rw [HDK.out, ← y4]; exact hbit)), (fun e0 => by rw [y4, Int.toNat_natCast, y2]; exact g8 e0)⟩⟩
    clear g1 g2 g4 g5 g5' g6 g7 g8 y1 y2 y3 y4 hlx
    go_wp2_with (first | (refine wpList_load_mid rfl TCm (.tmp 5) rfl (P + 1) 0 rfl (cmC y.1) _ HIt.out Try.underlying26 rfl (by kernel_rfl) ?_; unfold cmC strV) | (refine wpList_store_row rfl TCm (.tmp 4) (.tmp 146) rfl P #[.int .i64 y.1.kind, .int .i64 y.1.node, .int .i64 y.1.port, .int .i64 y.1.status, .string ⟨y.1.id.toArray⟩, .string ⟨y.1.name.toArray⟩, .string ⟨y.1.svc.toArray⟩, .string ⟨y.1.note.toArray⟩, .string ⟨y.1.key.toArray⟩, .string ⟨y.1.val.toArray⟩, .string ⟨y.1.src.toArray⟩, .string ⟨y.1.dst.toArray⟩, .slice y.1.tA y.1.tn y.1.tc, .bool y.1.allow, .int .u64 (y.1.old : Int), .int .u64 (y.1.ses : Int), .slice y.1.sA y.1.sn y.1.sc] rfl rfl TCm #[.int .i64 0, .int .i64 0, .int .i64 0, .int .i64 0, .string ⟨#[]⟩, .string ⟨#[]⟩, .string ⟨#[]⟩, .string ⟨#[]⟩, .string ⟨#[]⟩, .string ⟨#[]⟩, .string ⟨#[]⟩, .string ⟨#[]⟩, .slice none 0 0, .bool false, .int .u64 0, .int .u64 0, .slice none 0 0] HOLD.out cm_info rfl (all_oneCell_toArray (cmC_one y.1)) ?_))
    exact bodyPost_ret (v := cmV y.1) (results_cell_row rfl _ _ _ TCm _ (0, 0) _ rfl HNEW.out Try.underlying26 rfl (by kernel_rfl)) rfl HD.out
end Go.Proofs.Ytbhhalkpghcflaa
