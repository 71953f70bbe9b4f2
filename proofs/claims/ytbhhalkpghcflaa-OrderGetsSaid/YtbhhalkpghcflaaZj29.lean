/-
  The reading of the commands within one, walked (layer 20).
-/
import Derived.Test.YtbhhalkpghcflaaZj27
import Derived.Test.YtbhhalkpghcflaaZj28
import Derived.LoopTactic
import Derived.Deep.CutRange
import Derived.Deep.DeepCutAuto
namespace Go.Proofs.Ytbhhalkpghcflaa
open Go.RowKit Go.Rel
set_option linter.unusedSimpArgs false
set_option linter.unusedVariables false

def absS (y : Sub) : Nat × Fs := (y.1.kind.toNat, y.1.vals y.2)
/-- What stands behind k of them. -/
structure RkI (S : Nat → Prop) (R B b : Nat) (w : World) (s0 : St) (cur : Array Value) (k : Nat) (vk : Value) (subs : List Sub) (wr : World) : Prop where
  low : But (fun j => j = R ∨ j = B) w wr
  ptr : wr.cell? ⟨b, 0, none⟩ = some (.pointer (some ⟨B, 16, none⟩))
  rd : RdAt S wr R (subC.many k s0).2
  box : wr.heap[B]? = some (.cells (cur.setIfInBounds 16 vk) TCm (0, 0))
  row : rowK cmC TCm 17 wr 0 vk (subs.map (·.1))
  len : subs.length = k
  own : ∀ j, vk.ownBlock = some j → w.heap.size ≤ j
  each : ∀ y ∈ subs, FrT w.heap.size wr y ∧ y.1.sn = 0 ∧ 0 ≤ y.1.kind ∧ OffT vk y
  val : (subC.many k s0).2.e = 0 → subs.map absS = (subC.many k s0).1
theorem FrT.keep {n0 : Nat} {w w' : World} {y : Sub} (h : FrT n0 w y) (hk : ∀ b off, y.1.tA = some ⟨b, off, none⟩ → 0 < y.1.tn → b < w.heap.size → w'.heap[b]? = w.heap[b]?) : FrT n0 w' y := by
  refine ⟨⟨h.1.small, ⟨h.1.row.1, fun hn => ?_⟩, h.1.lens⟩, h.2⟩
  obtain ⟨b, off, e, hb, hc⟩ := h.1.row.2 hn
  have he := hk b off e hn hb
  refine ⟨b, off, e, ?_, fun j hj => (World.cell?_of_block (a := ⟨b, off + j, none⟩) he).trans (hc j hj)⟩
  rw [Array.getElem?_eq_getElem hb] at he
  exact (Array.getElem?_eq_some_iff.1 he).1
theorem RkI.below {S : Nat → Prop} {R B b : Nat} {w wr wr' : World} {s0 : St} {cur : Array Value} {k : Nat} {vk : Value} {subs : List Sub} (h : RkI S R B b w s0 cur k vk subs wr) (hb : Below wr.heap.size wr wr') : RkI S R B b w s0 cur k vk subs wr' :=
  ⟨h.low.trans (But.of_below hb), (hb.cell (World.block_lt_of_cell? _ _ h.ptr)).trans h.ptr, h.rd.below hb, (hb.block B (block_lt h.box)).trans h.box, h.row.below hb, h.len, h.own, fun y hy => by
    obtain ⟨h1, h2⟩ := h.each y hy
    exact ⟨h1.keep fun b off _ _ hlt => hb.block b hlt, h2⟩, h.val⟩
theorem strV_inj {s t : List UInt8} (h : strV s = strV t) : s = t := by
  unfold strV at h
  simpa using h
theorem cmV_inj {x y : CmW} (h : cmV x = cmV y) : x = y := by
  unfold cmV at h
  simp only [Value.agg.injEq, Array.mk.injEq, List.cons.injEq, Value.int.injEq, true_and, Value.slice.injEq, Value.bool.injEq, and_true, Int.ofNat_inj] at h
  obtain ⟨h1, h2, h3, h4, h5, h6, h7, h8, h9, h10, h11, h12, ⟨h13, h14, h15⟩, h16, h17, h18, h19, h20, h21⟩ := h
  cases x
  cases y
  simp only [CmW.mk.injEq]
  exact ⟨h1, h2, h3, h4, strV_inj h5, strV_inj h6, strV_inj h7, strV_inj h8, strV_inj h9, strV_inj h10, strV_inj h11, strV_inj h12, h13, h14, h15, h16, h17, h18, h19, h20, h21⟩
theorem RkI.next {S : Nat → Prop} {R B b : Nat} {w wc W : World} {s0 : St} {cur : Array Value} {k : Nat} {vk v' : Value} {subs : List Sub} {y : Sub} (h : RkI S R B b w s0 cur k vk subs wc) (hlow : But (fun j => j = R ∨ j = B ∨ vk.ownBlock = some j) wc W) (hptr : W.cell? ⟨b, 0, none⟩ = some (.pointer (some ⟨B, 16, none⟩))) (hrd : RdAt S W R (subC.rd (subC.many k s0).2).2) (hbox : W.heap[B]? = some (.cells ((cur.setIfInBounds 16 vk).setIfInBounds 16 v') TCm (0, 0))) (hrow : rowK cmC TCm 17 W 0 v' (subs.map (·.1) ++ [y.1])) (hown : v'.ownBlock = vk.ownBlock ∨ ∃ j, v'.ownBlock = some j ∧ wc.heap.size ≤ j) (hy : SubR wc.heap.size (subC.many k s0).2 W y) (hoff : OffT v' y) (hB : B < w.heap.size) (hR : R < w.heap.size) : RkI S R B b w s0 cur (k + 1) v' (subs ++ [y]) W := by
  have e1 : subC.many (k + 1) s0 = ((subC.many k s0).1 ++ [(subC.rd (subC.many k s0).2).1], (subC.rd (subC.many k s0).2).2) := Cod.many_snoc _ _ _
  have hsz := h.low.size
  refine ⟨h.low.then_ hlow (fun j hj hjl => ?_), hptr, by rw [e1]; exact hrd, by rw [hbox, Array.setIfInBounds_setIfInBounds], by rw [List.map_append]; exact hrow, by rw [List.length_append, h.len]; rfl, fun j hj => ?_, fun y' hy' => ?_, fun he => ?_⟩
  · rcases hj with h1 | h1 | h1
    · exact .inl h1
    · exact .inr h1
    · have := h.own j h1
      omega
  · rcases hown with e | ⟨j2, e, hj2⟩
    · rw [e] at hj
      exact h.own j hj
    · rw [e] at hj
      have : j2 = j := Option.some.inj hj
      omega
  · rcases List.mem_append.1 hy' with h1 | h1
    · obtain ⟨g1, g2, g3, g4⟩ := h.each y' h1
      have hlt : ∀ b off, y'.1.tA = some ⟨b, off, none⟩ → 0 < y'.1.tn → b < wc.heap.size := fun b off e hn => by
        obtain ⟨b2, off2, e2, hb2, _⟩ := g1.1.row.2 hn
        rw [e] at e2
        cases e2
        exact hb2
      refine ⟨g1.keep fun b off e hn hb => hlow.block b hb (fun hk => ?_), g2, g3, fun b off e hn e3 => ?_⟩
      · have hge := g1.2 b off e hn
        rcases hk with h | h | h
        · omega
        · omega
        · exact g4 b off e hn h
      · rcases hown with e4 | ⟨j2, e4, hj2⟩
        · rw [e4] at e3
          exact g4 b off e hn e3
        · rw [e4] at e3
          have h5 : j2 = b := Option.some.inj e3
          have := hlt b off e hn
          omega
    · have : y' = y := by simpa using h1
      subst this
      exact ⟨⟨hy.fr.1, fun b off e hn => Nat.le_trans hsz (hy.fr.2 b off e hn)⟩, hy.sn, hy.k0, hoff⟩
  · rw [e1] at he ⊢
    have h0 := (subC.bw _ he).1
    rw [List.map_append, h.val h0]
    congr 1
    rw [List.map_cons, List.map_nil]
    congr 1
    exact hy.val he
/-- What the reading of the commands does. -/
def RdSubs (S : Nat → Prop) (R B b : Nat) (w : World) (s : St) (cur : Array Value) (e : Ending) (w' : World) : Prop :=
  (∃ n : Nat, n ≠ 0 ∧ n = ((listC 8 (by decide) subC).rd s).2.e ∧ e = PanE n ∧ But (fun j => j = R ∨ j = B) w w') ∨ (e = .returned (.tuple #[]) ∧ ∃ vk subs, RkI S R B b w ((itNum 8).next s) cur ((itNum 8).out s) vk subs w')
def zeroW : CmW := ⟨0, 0, 0, 0, [], [], [], [], [], [], [], [], none, 0, 0, false, 0, 0, none, 0, 0⟩
def rkE5 (R B : Nat) (vk : Value) : Nat → Value
  | 0 | 1 | 2 | 8 => .pointer (some ⟨B, 16, none⟩)
  | 3 => vk
  | 4 => .pointer (some ⟨R, 0, none⟩)
  | _ => undef
def rkE3 (R B k : Nat) (vk : Value) : Nat → Value
  | 0 | 1 | 8 => .pointer (some ⟨B, 16, none⟩)
  | 2 => vk
  | 3 => .pointer (some ⟨R, 0, none⟩)
  | 5 => .int .i64 (k : Int)
  | _ => undef
set_option maxRecDepth 100000 in
set_option maxHeartbeats 4000000 in
theorem subs_read (S : Nat → Prop) (R B b : Nat) (s : St) (cur : Array Value) (w : World) (h : Rz S R B 16 b w s cur w) (hz : cur.size = 17) (h16 : cur[16]? = some (.slice none 0 0)) (hS : S B) (hSn : ∀ k, w.heap.size ≤ k → S k) (hB : B ≠ R) (hbR : b ≠ R) (hbB : b ≠ B)
    (CR : ∀ W s', w.heap.size ≤ W.heap.size → RdAt S W R s' → Calls Try.prog 26 #[.pointer (some ⟨R, 0, none⟩), .int .u64 32767] W (RdSub S R W s')) :
    Calls Try.prog 90 #[.pointer (some ⟨R, 0, none⟩), .pointer (some ⟨b, 0, none⟩)] w (RdSubs S R B b w s cur) := by
  have CN := Lib.hid (rNum_any S R 8 s w h.rd (by decide))
  have hRlt := h.rd.lt
  have hBlt := block_lt h.box
  have hblt := World.block_lt_of_cell? _ _ h.ptr
  have hm8 := num_out_le 8 s
  have H := Lib.hid h
  have HCR := Lib.hid CR
  have HSn := Lib.hid hSn
  obtain ⟨m, hm⟩ : ∃ m, (itNum 8).out s = m := ⟨_, rfl⟩
  obtain ⟨s0, hs0⟩ : ∃ s0, (itNum 8).next s = s0 := ⟨_, rfl⟩
  have hfin : ((listC 8 (by decide) subC).rd s).2 = (subC.many m s0).2 := by rw [← hm, ← hs0]; rfl
  have HFIN := Lib.hid hfin
  rw [hm, hs0] at CN
  rw [hm] at hm8
  have hcur : cur.setIfInBounds 16 (.slice none 0 0) = cur := by
    apply Array.ext_getElem?
    intro i
    by_cases e : i = 16
    · subst e
      rw [Array.getElem?_setIfInBounds_self_of_lt (by omega), h16]
    · rw [Array.getElem?_setIfInBounds_ne (fun h => e h.symm)]
  have HCUR := Lib.hid hcur
  have HZ := Lib.hid hz
  obtain ⟨P, hP⟩ : ∃ P, RdSubs S R B b w s cur = P := ⟨_, rfl⟩
  have PAN := Lib.hid (fun n W (h1 : n ≠ 0) (h2 : n = (subC.many m s0).2.e) (h3 : But (fun j => j = R ∨ j = B) w W) => (hP ▸ .inl ⟨n, h1, by rw [hfin]; exact h2, rfl, h3⟩ : P (PanE n) W))
  have DONE := Lib.hid (fun W vk subs (h1 : RkI S R B b w s0 cur m vk subs W) => (by rw [← hP]; exact .inr ⟨rfl, vk, subs, by rw [hm, hs0]; exact h1⟩ : P (.returned (.tuple #[])) W))
  rw [hP]
  clear h CR hSn hm hs0 hfin hcur hz h16 hP
  unfold u64V at CN
  go_enter Try.func90, Try.ntmps90
  go_wp2_with fail
  refine CN.out.mono ?_
  rintro e w1 ⟨rfl, hr1, hb1⟩
  have HI1 := Lib.hid (⟨hb1.mono fun k hk => .inl hk, (hb1.cell hblt hbR).trans H.out.ptr, hr1, by rw [HCUR.out]; exact (hb1.block B hBlt hB).trans H.out.box, rowK.nil _ _, rfl, (fun j hj => by cases hj), (fun y hy => by cases hy), fun _ => rfl⟩ : RkI S R B b w s0 cur 0 (.slice none 0 0) [] w1)
  clear hr1 hb1 CN
  go_wp2
  go_loopw [5] (fun i wr => ∃ k : Nat, k ≤ m ∧ i = .int .u64 k ∧ ∃ vk subs, RkI S R B b w s0 cur k vk subs wr) (fun i _ => m - (intOf i).toNat)
  case atStart => exact ⟨0, Nat.zero_le _, rfl, _, _, HI1.out⟩
  case round =>
    obtain ⟨k, hk, rfl, vk, subs, hU⟩ := hrel
    have HU := Lib.hid hU
    clear hU
    by_cases hlt : k < m
    · have u1 : (k : Int) < (m : Int) := by omega
      go_upto_region 2 with (fail)
      go_cut [8] (fun s8 wx => ∃ t, s8 = .bool t ∧ RkI S R B b w s0 cur k vk subs wx)
      case first =>
        go_region
        all_goals
          go_wp2_with fail
          go_meet
          exact ⟨_, rfl, HU.out.below ((Below.refl _ wr).alloc (Nat.le_refl _) _).drew⟩
      case rest =>
        obtain ⟨t, rfl, hq⟩ := hcut
        have HQ := Lib.hid hq
        obtain ⟨A, c, hv, hsk, hlc, hcm, _⟩ := SK.of_row cmC_len hq.row
        have hln : (subs.map (·.1)).length = k := by rw [List.length_map]; exact hq.len
        rw [hln] at hv
        have HV := Lib.hid hv
        have hlow := hq.low.size
        have CRk := Lib.hid (fun W (hW : wc.heap.size ≤ W.heap.size) hr => HCR.out W (subC.many k s0).2 (Nat.le_trans hlow hW) hr)
        have CSZ := Lib.hid (show (cur.setIfInBounds 16 vk).size = 17 by rw [Array.size_setIfInBounds]; exact HZ.out)
        have C16 := Lib.hid (show (cur.setIfInBounds 16 vk)[16]? = some vk by rw [Array.getElem?_setIfInBounds_self_of_lt (by rw [HZ.out]; decide)])
        have OWN := Lib.hid (show ∀ j, vk.ownBlock = some j → S j ∧ j < wc.heap.size ∧ j ≠ R ∧ j ≠ B ∧ j ≠ b from fun j hj => by
          have h1 := hq.own j hj
          have h2 := (hq.row.from j hj).2
          exact ⟨HSn.out j h1, h2, by omega, by omega, by omega⟩)
        have hRw : R < wc.heap.size := by omega
        have hBw : B < wc.heap.size := by omega
        have PNK := Lib.hid (fun W (h1 : (subC.rd (subC.many k s0).2).2.e ≠ 0) (h2 : But (fun j => j = R ∨ j = B ∨ vk.ownBlock = some j) wc W) => PAN.out _ W h1 (by
          have e1 : (subC.many (k + 1) s0).2 = (subC.rd (subC.many k s0).2).2 := by rw [Cod.many_snoc]
          rw [← e1] at h1 ⊢
          have e2 : ∀ j, (subC.many (k + 1 + j) s0).2 = (subC.many (k + 1) s0).2 := fun j => by
            induction j with
            | zero => rfl
            | succ j ih =>
              rw [show k + 1 + (j + 1) = (k + 1 + j) + 1 by omega, Cod.many_snoc]
              show (subC.rd (subC.many (k + 1 + j) s0).2).2 = _
              rw [ih]
              exact subC.st _ h1
          rw [← e2 (m - (k + 1)), show k + 1 + (m - (k + 1)) = m by omega]) (HQ.out.low.then_ h2 (fun j hj hjl => by
            rcases hj with h | h | h
            · exact .inl h
            · exact .inr h
            · have := HQ.out.own j h; omega)))
        clear hq hv hsk hlc hcm hln hlow
        cases t with
        | false =>
          go_upto_region 5 with (fail)
          refine Go.Rel.wp_tabeq (by kernel_rfl) (by kernel_rfl) (RcI S R B b (fun v z => v = cmV z) wc (subC.many k s0).2 (cur.setIfInBounds 16 vk) vk subs 5 6 7 9) (fun _ _ => True) (fun _ => trivial) (fun _ _ _ _ _ => trivial) trivial (fun e => RcI.start HQ.out.rd HQ.out.ptr HQ.out.row HQ.out.box) (rkE5 R B vk) (fun _ _ _ => True) (fun i => ([5, 6, 7] : List Nat).contains i) (fun i => ([0, 1, 3, 5, 6, 7, 9] : List Nat).contains i) (by kernel_rfl) (fun _ _ _ _ h _ => h) [5, 6, 7, 9] (by decide) (fun f e W i v e' hi hI hp => hI.keep hi hp) (fun c W => (subC.rd (subC.many k s0).2).2.e ≠ 0 ∧ PanE (subC.rd (subC.many k s0).2).2.e = .panicked c ∧ But (fun j => j = R ∨ j = B ∨ vk.ownBlock = some j) wc W) ?_ ?_ (Go.Rel.AllOf.get ?_) ?_
          · intro c a W hs hp
            have h1 := PNK.out W hp.1 hp.2.2
            rw [hp.2.1] at h1
            exact ⟨hs.1, h1⟩
          · repeat (refine .cons (by first | exact Go.Rel.pure_sp rfl | exact Go.Rel.pure_yes (by kernel_rfl) (fun _ => by kernel_rfl)) ?_)
            exact .nil
          · refine ⟨?_, ?_, ?_, ?_, ?_, ?_, ?_, trivial⟩
            · exact SpecE.q _ (SpecE.ld (T := 103) (fun f e W i v e' hi hI hp => hI.keep hi hp) (fun _ => trivial) (q := .pointer (some ⟨b, 0, none⟩)) (h := fun f W e hI _ _ _ _ => by have hp := hI.ptr; go_simp; rfl))
            · exact SpecE.q _ (SpecE.ld (T := 103) (fun f e W i v e' hi hI hp => hI.keep hi hp) (fun _ => trivial) (q := .pointer (some ⟨b, 0, none⟩)) (h := fun f W e hI _ _ _ _ => by have hp := hI.ptr; go_simp; rfl))
            · exact SpecE.q _ (SpecE.ld (T := 24) (fun f e W i v e' hi hI hp => hI.keep hi hp) (fun _ => trivial) (q := .pointer (some ⟨B, 16, none⟩)) (h := fun f W e hI hf hd _ _ => by
                have hc := (hI.cellB (hd 3 9 (by kernel_rfl)) CSZ.out).2.trans C16.out
                have hv := HV.out
                subst hv
                go_simp
                rfl))
            · exact SpecEQ.call 26 #[.pointer (some ⟨R, 0, none⟩), .int .u64 32767] rfl (by kernel_rfl) (fun _ => by kernel_rfl) fun f W e hI hf hd _ _ => (CRk.out W hI.low.size (hI.bef hf)).mono fun e9 W2 hq => by
                obtain ⟨hb, hq⟩ := hq
                rcases hq with ⟨hne, he⟩ | ⟨y, he, hr, hy⟩
                · exact .inr ⟨_, he, hne, rfl, hI.low.trans (hb.mono fun k hk => .inl hk)⟩
                · exact .inl ⟨_, he, trivial, fun e' hp => hI.call hf (hd 4 7 (by kernel_rfl)) (hd 4 9 (by kernel_rfl)) (by decide) (fun h6 => by rw [hd 4 6 (by kernel_rfl)] at h6; cases h6) hbR hB (fun h => (OWN.out R h).2.2.1 rfl) hRw hb hr hy hp rfl, trivial⟩
            · exact SpecE.q _ (SpecE.gen (fun e => [(24, e 5)]) rfl rfl (fun _ => by kernel_rfl) fun f W e hI hf hd ha _ _ K hK => by
                obtain ⟨_, y, hy, he⟩ := hI.aft (ha 3 5 (by kernel_rfl))
                have h1 := hK (.slice (some ⟨W.heap.size, 0, none⟩) 1 1) (W.alloc (.cells (cmC y.1).toArray TCm)) trivial (fun e' hp => hI.build (hd 4 7 (by kernel_rfl)) (hd 4 9 (by kernel_rfl)) (by decide) (z := y.1) rfl he TCm hp rfl) trivial
                rw [he]
                exact (congrArg (fun r => Go.Rel.Runs Try.prog r K) (show _ = Result.ok (Next.value (.slice (some ⟨W.heap.size, 0, none⟩) 1 1)) (W.alloc (.cells (cmC y.1).toArray TCm)) by kernel_rfl)).mpr h1)
            · exact SpecE.q _ (SpecE.gen (fun e => [(22, vk), (25, e 6)]) rfl rfl (fun _ => by kernel_rfl) fun f W e hI hf hd ha _ _ K hK => by
                obtain ⟨v', W2, hrun, hk2⟩ := hI.append (ha 3 5 (by kernel_rfl)) (ha 3 6 (by kernel_rfl)) hf (hd 4 9 (by kernel_rfl)) (by decide) (by rw [HQ.out.len]; omega) OWN.out 24
                exact runs_append (.tmp 22) (.tmp 25) 24 rfl rfl rfl hrun (hK v' W2 trivial (fun e' hp => hk2 _ e' rfl hp) trivial))
            · exact SpecE.q _ (SpecE.stx 7 (T := 24) (q := ⟨B, 16, none⟩) (hy := fun _ => by kernel_rfl) (hx := fun _ => by kernel_rfl) (h := fun f W e hI hf hd ha _ => by
                have h7 := ha 3 7 (by kernel_rfl)
                obtain ⟨y, z, g1, g2, g3, g4, g5, g6⟩ := hI.app h7
                obtain ⟨A2, c2, g7, _⟩ := SK.of_row cmC_len g4
                refine ⟨W.setCell ⟨B, 16, none⟩ (e 7), ?_, trivial, fun e' hp => hI.store h7 (ha 4 5 (by kernel_rfl)) hf (by decide) hS hB hbB hBw (fun h => (OWN.out B h).2.2.2.1 rfl) hp⟩
                rw [g7]
                exact st_subs W _ _ _ _ (hI.cellB hf CSZ.out).1))
          · intro f W e hall hI _ hv
            obtain ⟨y, z, g1, g2, g3, g4, g5, g6⟩ := hI.app (hall 7 (by decide))
            have hbx := hI.box
            rw [hall 9 (by decide)] at hbx
            simp only [if_true] at hbx
            have HN := Lib.hid (HQ.out.next hI.low hI.ptr (hI.aft (hall 5 (by decide))).1 hbx (by rw [← cmV_inj (g2.symm.trans g3)] at g4; exact g4) g6 g1 g5 hBlt hRlt)
            simp only [Go.Rel.finL, List.setIfInBounds_toArray, List.set_cons_succ, List.set_cons_zero]
            clear hv hI hall hbx g1 g2 g3 g4 g5 g6
            show Exit.inBlock _ _ Exit.normal _ _
            go_wp2
            go_roundw
            case rel => exact ⟨k + 1, by omega, by go_num, _, _, HN.out⟩
            case measure => simp [intOf]; omega
        | true =>
          go_upto_region 3 with (fail)
          refine Go.Rel.wp_tabeq (by kernel_rfl) (by kernel_rfl) (RcI S R B b (fun _ z => z = zeroW) wc (subC.many k s0).2 (cur.setIfInBounds 16 vk) vk subs 4 6 7 9) (fun _ _ => True) (fun _ => trivial) (fun _ _ _ _ _ => trivial) trivial (fun e => RcI.start HQ.out.rd HQ.out.ptr HQ.out.row HQ.out.box) (rkE3 R B k (.slice A k c)) (fun _ _ _ => True) (fun i => ([4, 6, 7] : List Nat).contains i) (fun i => ([0, 2, 4, 6, 7, 9] : List Nat).contains i) (by kernel_rfl) (fun _ _ _ _ h _ => h) [4, 6, 7, 9] (by decide) (fun f e W i v e' hi hI hp => hI.keep hi hp) (fun c W => (subC.rd (subC.many k s0).2).2.e ≠ 0 ∧ PanE (subC.rd (subC.many k s0).2).2.e = .panicked c ∧ But (fun j => j = R ∨ j = B ∨ vk.ownBlock = some j) wc W) ?_ ?_ (Go.Rel.AllOf.get ?_) ?_
          · intro c a W hs hp
            have h1 := PNK.out W hp.1 hp.2.2
            rw [hp.2.1] at h1
            exact ⟨hs.1, h1⟩
          · repeat (refine .cons (by first | exact Go.Rel.pure_sp rfl | exact Go.Rel.pure_yes (by kernel_rfl) (fun _ => by kernel_rfl)) ?_)
            exact .nil
          · refine ⟨?_, ?_, ?_, ?_, ?_, ?_, trivial⟩
            · exact SpecE.q _ (SpecE.ld (T := 103) (fun f e W i v e' hi hI hp => hI.keep hi hp) (fun _ => trivial) (q := .pointer (some ⟨b, 0, none⟩)) (h := fun f W e hI _ _ _ _ => by have hp := hI.ptr; go_simp; rfl))
            · exact SpecE.q _ (SpecE.ld (T := 24) (fun f e W i v e' hi hI hp => hI.keep hi hp) (fun _ => trivial) (q := .pointer (some ⟨B, 16, none⟩)) (h := fun f W e hI hf hd _ _ => by
                have hc := (hI.cellB (hd 3 9 (by kernel_rfl)) CSZ.out).2.trans (C16.out.trans (congrArg some HV.out))
                go_simp
                rfl))
            · exact SpecEQ.call 26 #[.pointer (some ⟨R, 0, none⟩), .int .u64 32767] rfl (by kernel_rfl) (fun _ => by kernel_rfl) fun f W e hI hf hd _ _ => (CRk.out W hI.low.size (hI.bef hf)).mono fun e9 W2 hq => by
                obtain ⟨hb, hq⟩ := hq
                rcases hq with ⟨hne, he⟩ | ⟨y, he, hr, hy⟩
                · exact .inr ⟨_, he, hne, rfl, hI.low.trans (hb.mono fun k hk => .inl hk)⟩
                · exact .inl ⟨_, he, trivial, fun e' hp => hI.call hf (hd 4 7 (by kernel_rfl)) (hd 4 9 (by kernel_rfl)) (by decide) (fun _ _ _ h _ => h) hbR hB (fun h => (OWN.out R h).2.2.1 rfl) hRw hb hr hy hp rfl, trivial⟩
            · exact SpecE.q _ (SpecE.gen (fun e => []) rfl rfl (fun _ => by kernel_rfl) fun f W e hI hf hd ha _ _ K hK => by
                have h1 := hK (.slice (some ⟨W.heap.size, 0, none⟩) 1 1) (W.alloc (.cells (cmC zeroW).toArray TCm)) trivial (fun e' hp => hI.build (hd 4 7 (by kernel_rfl)) (hd 4 9 (by kernel_rfl)) (by decide) (z := zeroW) rfl rfl TCm hp rfl) trivial
                exact (congrArg (fun r => Go.Rel.Runs Try.prog r K) (show _ = Result.ok (Next.value (.slice (some ⟨W.heap.size, 0, none⟩) 1 1)) (W.alloc (.cells (cmC zeroW).toArray TCm)) by kernel_rfl)).mpr h1)
            · exact SpecE.q _ (SpecE.gen (fun e => [(11, .slice A k c), (15, e 6)]) rfl rfl (fun _ => by kernel_rfl) fun f W e hI hf hd ha _ _ K hK => by
                obtain ⟨v', W2, hrun, hk2⟩ := hI.append (ha 3 4 (by kernel_rfl)) (ha 3 6 (by kernel_rfl)) hf (hd 4 9 (by kernel_rfl)) (by decide) (by rw [HQ.out.len]; omega) OWN.out 24
                rw [HV.out] at hrun
                exact runs_append (.tmp 11) (.tmp 15) 24 rfl rfl rfl hrun (hK v' W2 trivial (fun e' hp => hk2 _ e' rfl hp) trivial))
            · exact SpecE.q _ (SpecE.stx 7 (T := 24) (q := ⟨B, 16, none⟩) (hy := fun _ => by kernel_rfl) (hx := fun _ => by kernel_rfl) (h := fun f W e hI hf hd ha _ => by
                have h7 := ha 3 7 (by kernel_rfl)
                obtain ⟨y, z, g1, g2, g3, g4, g5, g6⟩ := hI.app h7
                obtain ⟨A2, c2, g7, _⟩ := SK.of_row cmC_len g4
                refine ⟨W.setCell ⟨B, 16, none⟩ (e 7), ?_, trivial, fun e' hp => hI.store h7 (ha 4 4 (by kernel_rfl)) hf (by decide) hS hB hbB hBw (fun h => (OWN.out B h).2.2.2.1 rfl) hp⟩
                rw [g7]
                exact st_subs W _ _ _ _ (hI.cellB hf CSZ.out).1))
          · intro f W e hall hI _ hv
            obtain ⟨y, z, g1, g2, g3, g4, g5, g6⟩ := hI.app (hall 7 (by decide))
            subst g3
            have hbx := hI.box
            rw [hall 9 (by decide)] at hbx
            simp only [if_true] at hbx
            obtain ⟨g, c2, q1, q2, q3, q4, q5⟩ := row_put y.1 g4
            have hsl : (subs.map (·.1)).length = k := by rw [List.length_map]; exact HQ.out.len
            rw [hsl] at q1 q2 q3 q4 q5
            have hog : (e 7).ownBlock = some g := by rw [q1]; rfl
            have hgS : ∀ j, (e 7).ownBlock = some j → S j ∧ j ≠ R ∧ j ≠ B ∧ j ≠ b := fun j hj => by
              rcases g6 with e9 | ⟨j2, e9, hj2⟩
              · have := OWN.out j (e9 ▸ hj)
                exact ⟨this.1, this.2.2⟩
              · rw [e9] at hj
                have h9 : j2 = j := Option.some.inj hj
                have hls := HQ.out.low.size
                exact ⟨HSn.out j (by omega), by omega, by omega, by omega⟩
            have hlow2 : But (fun j => j = R ∨ j = B ∨ vk.ownBlock = some j) wc (W.setCells g (k * 17) (cmC y.1)) := hI.low.then_ q5 (fun j hj hjl => by
              rcases g6 with e9 | ⟨j2, e9, hj2⟩
              · exact .inr (.inr (e9 ▸ hj))
              · rw [e9] at hj
                have h9 : j2 = j := Option.some.inj hj
                omega)
            have hfr : FrT wc.heap.size (W.setCells g (k * 17) (cmC y.1)) y := g1.fr.keep fun b2 off e2 hn hb2 => q5.block b2 hb2 (g5 b2 off e2 hn)
            have HN := Lib.hid (HQ.out.next hlow2 ((q5.cell (World.block_lt_of_cell? _ _ hI.ptr) (fun h => (hgS b h).2.2.2 rfl)).trans hI.ptr) ((hI.aft (hall 4 (by decide))).1.but q5 (fun j hj => (hgS j hj).1) (fun h => (hgS R h).2.1 rfl)) ((q5.block B (block_lt hbx) (fun h => (hgS B h).2.2.1 rfl)).trans hbx) q4 g6 ⟨hfr, g1.sn, g1.k0, g1.val⟩ g5 hBlt hRlt)
            have h7 : e 7 = .slice (some ⟨g, 0, none⟩) (k + 1) c2 := q1
            have h4 : e 4 = cmV y.1 := g2
            have h5 : e 5 = .int .i64 (k : Int) := hv 5 rfl
            have TH := Lib.hid q3
            simp only [Go.Rel.finL, List.setIfInBounds_toArray, List.set_cons_succ, List.set_cons_zero, h7, h4, h5]
            clear hv hI hall hbx g1 g2 g4 g5 g6 q1 q3 q4 q5 hog hgS hlow2 hfr hsl h7 h4 h5
            obtain ⟨W2, hW2⟩ : ∃ W2, W.setCells g (k * 17) (cmC y.1) = W2 := ⟨_, rfl⟩
            rw [hW2] at HN
            have HW2 := Lib.hid hW2
            clear hW2
            unfold cmV strV
            show Exit.then _ _ Exit.normal _ _
            unfold Exit.then
            have t0 : (k : Int) < ((k + 1 : Nat) : Int) := by omega
            go_wp2_with (refine wpList_store_mid rfl TCm (.tmp 18) (.tmp 13) rfl g (k * 17) #[.int .i64 y.1.kind, .int .i64 y.1.node, .int .i64 y.1.port, .int .i64 y.1.status, .string ⟨y.1.id.toArray⟩, .string ⟨y.1.name.toArray⟩, .string ⟨y.1.svc.toArray⟩, .string ⟨y.1.note.toArray⟩, .string ⟨y.1.key.toArray⟩, .string ⟨y.1.val.toArray⟩, .string ⟨y.1.src.toArray⟩, .string ⟨y.1.dst.toArray⟩, .slice y.1.tA y.1.tn y.1.tc, .bool y.1.allow, .int .u64 (y.1.old : Int), .int .u64 (y.1.ses : Int), .slice y.1.sA y.1.sn y.1.sc] (by first | rfl | simp [Act.eval]) rfl TH.out cm_info (all_oneCell_toArray (cmC_one y.1)) ?_; show wpList _ _ _ _ _ (World.setCells W g (k * 17) (cmC y.1)); rw [HW2.out])
            go_roundw
            case rel => exact ⟨k + 1, by omega, by go_num, _, _, HN.out⟩
            case measure => simp [intOf]; omega
    · obtain rfl : k = m := by omega
      go_wp2
      exact ⟨rfl, _, results_none rfl _ _ _, DONE.out _ _ _ HU.out⟩
end Go.Proofs.Ytbhhalkpghcflaa
