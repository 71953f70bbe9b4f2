import Derived.Test.YtilkbfmaofmjoaaGreatDoorZj42
import Derived.BigQuiet
import Derived.Test.YtilkbfmaofmjoaaGreatDoorZj41
namespace Go.Proofs.YtilkbfmaofmjoaaGreatDoor
open Go.RowKit Go.Rel
set_option linter.unusedSimpArgs false
set_option linter.unusedVariables false
def rdbE (B : Nat) (X : Nat) (x : Rw SvW) (m : Nat) (A2 : Option Addr) (L : Nat) (c2 : Nat) : Nat → Value
  | 0 | 8 | 9 | 13 | 14 | 15 => .pointer (some ⟨B, 0, none⟩)
  | 1 => .pointer (some ⟨X, 0, none⟩)
  | 2 => .int .i64 x.val.a.node
  | 3 => .pointer (some ⟨X, 1, none⟩)
  | 4 => .string x.val.a.id
  | 5 | 17 | 18 => .bool false
  | 6 | 7 => .bool true
  | 10 => .pointer (some ⟨B, 2, none⟩)
  | 11 => .slice A2 L c2
  | 12 => .int .i64 (L : Int)
  | 16 => .int .i64 (m : Int)
  | _ => undef
section
variable {base : Nat} {S : Nat → Prop} {w : World} {B : Nat} {A1 A2 A3 : Option Addr} {c1 c2 c3 m : Nat} {l2 : List (Rw SvW)} {d : Ro}
set_option maxHeartbeats 16000000 in
set_option maxRecDepth 100000 in
theorem rdservice_b (x : Rw SvW) (i : Nat) (hok : RoOk m d) (hx : SvIn w x) (ht : TgAt (fun k => k < base) w x.val) (hw : d.wrongS x.val.a = 0) (hb : d.has x.val.a.node x.val.a.id = false) (hlm : l2.length < m) (h : RdIs base S w B A1 A2 A3 c1 c2 c3 m l2 d) (hi : i < 18446744073709551616) : Calls Tryz.prog 38 #[.pointer (some ⟨B, 0, none⟩), svV x, .int .u64 (i : Int)] w fun e w' => e = .returned (.int .i64 0) ∧ RdAt base (fun k => S k ∨ w.heap.size ≤ k) w' B m (d.service x.val.a i).2 ∧ But (· = B) w w' := by
  have KEEP : Hid (∀ w', Below w.heap.size w w' → RdIs base (fun k => S k ∨ w.heap.size ≤ k) w' B A1 A2 A3 c1 c2 c3 m l2 d ∧ But (· = B) w w') := Lib.hid fun w' hb => ⟨(h.below hb).narrow (fun _ _ z => .inl z) (fun k z => z.elim (h.lo k) (Nat.le_trans h.top)), But.of_below hb⟩
  have b0 := below1 w #[.int .i64 x.val.a.node, .string x.val.a.id, .string x.val.a.name, .slice x.val.A x.val.n x.val.c, .int .i64 x.val.a.port, .int .u64 (x.made : Int), .int .u64 (x.ix : Int)] TSv
  have k0 := heap_alloc_new w (.cells #[.int .i64 x.val.a.node, .string x.val.a.id, .string x.val.a.name, .slice x.val.A x.val.n x.val.c, .int .i64 x.val.a.port, .int .u64 (x.made : Int), .int .u64 (x.ix : Int)] TSv)
  obtain ⟨X, hX⟩ : ∃ X, w.heap.size = X := ⟨_, rfl⟩
  obtain ⟨W1, hW1⟩ : ∃ W1, w.alloc (.cells #[.int .i64 x.val.a.node, .string x.val.a.id, .string x.val.a.name, .slice x.val.A x.val.n x.val.c, .int .i64 x.val.a.port, .int .u64 (x.made : Int), .int .u64 (x.ix : Int)] TSv) = W1 := ⟨_, rfl⟩
  rw [hW1] at b0 k0
  rw [hX] at k0
  have HWr := Lib.hid (by
    have := rdwrongs_any x hok (hx.below b0) (h.below b0)
    unfold svV at this
    rw [hw] at this
    exact this : Calls Tryz.prog 83 #[.pointer (some ⟨B, 0, none⟩), .agg #[.int .i64 x.val.a.node, .string x.val.a.id, .string x.val.a.name, .slice x.val.A x.val.n x.val.c, .int .i64 x.val.a.port, .int .u64 (x.made : Int), .int .u64 (x.ix : Int)]] W1 fun e w' => e = .returned (.int .i64 0) ∧ Below W1.heap.size W1 w')
  have HT9 := Lib.hid (fun W (hW : Below w.heap.size w W) => rdhas_any x.val.a.node x.val.a.id hok (h.below hW))
  have HI9 := Lib.hid (fun W (hW : Below w.heap.size w W) => h.below hW)
  rw [hb] at HT9
  have hn := (wrongS_ok.1 hw).1.node
  obtain ⟨kk, hkk⟩ : ∃ kk, keyO x.val.a.node x.val.a.id = kk := ⟨_, rfl⟩
  obtain ⟨rm, hrm⟩ : ∃ rm, ((getR l2 kk).map (·.made)).getD i = rm := ⟨_, rfl⟩
  have hf : d.s.fullB kk = false := by
    unfold Tb.fullB
    rw [decide_eq_false (by rw [hok.sm, ← h.len2]; omega), Bool.and_false]
  have hok3 := hok.service (x := x.val.a) hi
  rw [h.service hkk hw hf hrm] at hok3 ⊢
  have HOk3 := Lib.hid hok3
  have h64 : l2.length ≤ 64 := by rw [h.len2]; exact Nat.le_trans hok.sok.len hok.sok.most.2
  have HSame := Lib.hid (hkk ▸ h.same2 hok x.val.a.node x.val.a.id)
  have HLt2 := Lib.hid (hkk ▸ h.lt2 hok hn x.val.a.id)
  have HRise := Lib.hid (h.rise2 hok)
  have HRm := Lib.hid hrm
  have HTg := Lib.hid (fun W (hW : Below w.heap.size w W) => ht.below hW)
  have hm1 := hok.most.2
  obtain ⟨Y, hY⟩ : ∃ Y, w.heap.size = Y := ⟨_, rfl⟩
  have HY := Lib.hid hY
  have hBY : B < Y := by rw [← hY]; exact h.lt
  have HTop : Hid (base ≤ Y) := Lib.hid (by rw [← hY]; exact h.top)
  obtain ⟨S0, hS0⟩ : ∃ S0 : Nat → Prop, S0 = fun k => S k ∧ k < Y := ⟨_, rfl⟩
  have HH : Hid (RdIs base S0 w B A1 A2 A3 c1 c2 c3 m l2 d) := Lib.hid (h.narrow (fun k hk z => by rw [hS0]; exact ⟨z, by omega⟩) (fun k z => h.lo k (by rw [hS0] at z; exact z.1)))
  have HLt : Hid (∀ k, S0 k → k < Y) := Lib.hid (fun k z => by rw [hS0] at z; exact z.2)
  have HSs : Hid (∀ k, S0 k → S k) := Lib.hid (fun k z => by rw [hS0] at z; exact z.1)
  have HLo : Hid (∀ k, S k → base ≤ k) := Lib.hid h.lo
  obtain ⟨L, hL⟩ : ∃ L, l2.length = L := ⟨_, rfl⟩
  rw [hL] at h64
  rw [hL] at hlm
  have HD1 : Hid (decide (m ≤ L) = false) := Lib.hid (decide_eq_false (by omega))
  have HL := Lib.hid hL
  have HB1 := Lib.hid b0
  have HK1 := Lib.hid k0
  have HW1 := Lib.hid hW1
  have HX := Lib.hid hX
  have HOkR := Lib.hid hok
  have hYX : Y ≤ X := by omega
  unfold svV
  clear h hok hx ht hw hb hi b0 k0 hW1 hX hL hn hkk hrm hf hok3 hS0 hY hlm
  go_enter Tryz.func38, Tryz.ntmps38
  go_wp2_with fail
  rw [HW1.out, HX.out]
  refine HWr.out.mono ?_
  rintro e W2 ⟨rfl, hb⟩
  have HB2 := Lib.hid (HB1.out.trans (hb.mono HB1.out.size))
  have hx1 := block_lt HK1.out
  have hkx := (hb.block X hx1).trans HK1.out
  have HKx := Lib.hid hkx
  have HLx := Lib.hid (block_lt hkx)
  have HT := Lib.hid (fun W (hW : Below W2.heap.size W2 W) => HT9.out W (HB2.out.trans (hW.mono HB2.out.size)))
  have HIs := Lib.hid (fun W (hW : Below W2.heap.size W2 W) => HI9.out W (HB2.out.trans (hW.mono HB2.out.size)))
  clear hb hx1 hkx HWr HT9 HI9
  go_wp2_with fail
  have hre : ∀ w : World, ((fun a b : World => Below a.heap.size a b)) w w := (fun w => Below.refl _ w)
  have hrd : ∀ (f : Nat → Bool) w i, i ≠ 5 → (fun (_ : Nat → Bool) (w2 : World) => Below W2.heap.size W2 w2) f w → (fun (_ : Nat → Bool) (w2 : World) => Below W2.heap.size W2 w2) (Go.Rel.upd f i) w := (fun _ _ _ _ h => h)
  refine Go.Rel.wp_tab (by kernel_rfl) (by kernel_rfl) (fun (_ : Nat → Bool) (w2 : World) => Below W2.heap.size W2 w2) ((fun a b : World => Below a.heap.size a b)) hre ((fun _ _ _ h k => h.trans (k.mono h.size))) ((⟨rfl, rfl, rfl, Nat.le_refl _, fun _ _ => rfl⟩)) ⟨rfl, rfl, rfl, Nat.le_refl _, fun _ _ => rfl⟩ (rdbE B X x m A2 L c2) (fun _ _ _ => True) (fun i => ([] : List Nat).contains i) (fun i => ([2, 4, 5, 11, 16, 17] : List Nat).contains i) (by kernel_rfl) (fun _ _ _ _ h _ => h) 5 rfl hrd ?_ (Go.Rel.AllOf.get ?_) ?_
  · repeat (refine .cons (by first | exact Go.Rel.pure_sp rfl | exact Go.Rel.pure_yes (by kernel_rfl) (fun _ => by kernel_rfl) | exact Go.Rel.pure_no (by kernel_rfl) rfl) ?_)
    exact .nil
  · refine ⟨?_, ?_, ?_, ?_, ?_, ?_, trivial⟩
    · exact SpecOk.ld hrd hre (q := .pointer (some ⟨X, 0, none⟩)) (h := fun _ w' hI _ _ _ _ => by have cx := sv_blk ((hI.block X HLx.out).trans HKx.out); go_simp; rfl)
    · exact SpecOk.ld hrd hre (q := .pointer (some ⟨X, 1, none⟩)) (h := fun _ w' hI _ _ _ _ => by have cx := sv_blk ((hI.block X HLx.out).trans HKx.out); go_simp; rfl)
    · refine SpecOk.call 84 #[.pointer (some ⟨B, 0, none⟩), .int .i64 x.val.a.node, .string x.val.a.id] rfl (by kernel_rfl) (fun _ => by kernel_rfl) fun _ w' hI _ _ _ _ => ?_
      refine (HT.out w' hI).mono ?_
      rintro e2 w2 ⟨rfl, rfl⟩
      exact ⟨_, rfl, (Below.refl _ _), hI, rfl⟩
    · exact SpecOk.ld hrd hre (q := .pointer (some ⟨B, 2, none⟩)) (h := fun _ w' hI _ _ _ _ => by obtain ⟨hz1, hz8, hz2, -⟩ := (HIs.out _ hI).cells; rw [show (l2.length) = L from HL.out] at hz2; go_simp; rfl)
    · exact SpecOk.ld hrd hre (q := .pointer (some ⟨B, 0, none⟩)) (h := fun _ w' hI _ _ _ _ => by obtain ⟨hz1, hz8, hz2, -⟩ := (HIs.out _ hI).cells; rw [show (l2.length) = L from HL.out] at hz2; go_simp; rfl)
    · refine SpecOk.gen (fun e => [(30, .int .i64 (L : Int)), (34, .int .i64 (m : Int))]) rfl rfl (fun _ => by kernel_rfl) fun f w' e hI hf hdesc hanc hle hX K hK => ?_
      have d1 := HD1.out
      go_simp
      exact hK _ _ (hre _) (hrd f w' 17 (by decide) hI) rfl
  · intro f W3 e hall hJ hle hv
    have v9 := hv 18 rfl
    simp only [Go.Rel.finL, List.setIfInBounds_toArray, List.set_cons_succ, List.set_cons_zero]
    rw [show e 18 = .bool false from v9]
    have HB3 := Lib.hid (HB2.out.trans (hJ.mono HB2.out.size))
    have hx3 := (hJ.block X HLx.out).trans HKx.out
    clear hv hall hle hJ v9 HT HIs
    have z5 := cellsN hx3 5 _ rfl
    have z6 := cellsN hx3 6 _ rfl
    have g5 := blk_froz hx3 5
    have g6 := blk_froz hx3 6
    have hxl := block_lt hx3
    have k4 : (W3.setCell ⟨X, 5, none⟩ (.int .u64 (i : Int))).heap[X]? = some (.cells #[.int .i64 x.val.a.node, .string x.val.a.id, .string x.val.a.name, .slice x.val.A x.val.n x.val.c, .int .i64 x.val.a.port, .int .u64 (i : Int), .int .u64 (x.ix : Int)] TSv (0, 0)) := block_set hx3 5 _
    have k5 : ((W3.setCell ⟨X, 5, none⟩ (.int .u64 (i : Int))).setCell ⟨X, 6, none⟩ (.int .u64 (i : Int))).heap[X]? = some (.cells #[.int .i64 x.val.a.node, .string x.val.a.id, .string x.val.a.name, .slice x.val.A x.val.n x.val.c, .int .i64 x.val.a.port, .int .u64 (i : Int), .int .u64 (i : Int)] TSv (0, 0)) := block_set k4 6 _
    have g6' := blk_froz k4 6
    obtain ⟨W5, hW5⟩ : ∃ W5, (W3.setCell ⟨X, 5, none⟩ (.int .u64 (i : Int))).setCell ⟨X, 6, none⟩ (.int .u64 (i : Int)) = W5 := ⟨_, rfl⟩
    have HB5 : Hid (Below Y w W5) := Lib.hid (by rw [← hW5, ← HY.out]; exact (HB3.out.setCell (by show _ ≤ X; rw [HY.out]; exact hYX) _).setCell (by show _ ≤ X; rw [HY.out]; exact hYX) _)
    rw [hW5] at k5
    have HX5 := Lib.hid k5
    have HS5 := Lib.hid (block_lt k5)
    have HW5 := Lib.hid hW5
    clear k4 k5 hW5 hx3
    go_wp2
    rw [HW5.out]
    clear z5 z6 g5 g6 g6' hxl
    go_loopw [8, 9, 10] (fun vv bv iv wr => ∃ (k mk : Nat) (bb : Bool) (ls : List (Rw SvW)), k ≤ L ∧ iv = .int .i64 (k : Int) ∧ bv = .bool bb ∧ Hid (layR (⟨kk, x.val, rm, i⟩ : Rw SvW) false l2 = ls ++ layR (⟨kk, x.val, rm, i⟩ : Rw SvW) bb (l2.drop k)) ∧ Hid (bb = false → mk = i ∧ ∀ y ∈ l2.take k, y.key ≠ kk) ∧ Hid (ls.length ≤ 2 * k) ∧ Hid (wr.heap[X]? = some (.cells #[.int .i64 x.val.a.node, .string x.val.a.id, .string x.val.a.name, .slice x.val.A x.val.n x.val.c, .int .i64 x.val.a.port, .int .u64 (mk : Int), .int .u64 (i : Int)] TSv (0, 0))) ∧ Hid (svRow wr (X + 1) vv ls) ∧ Hid (Below Y w wr) ∧ Hid (X < wr.heap.size)) (fun _ _ iv _ => L - (intOf iv).toNat)
    case atStart => exact ⟨0, i, false, [], Nat.zero_le _, rfl, rfl, Lib.hid rfl, Lib.hid (fun _ => ⟨rfl, fun y hy => by simp at hy⟩), Lib.hid (Nat.le_refl _), HX5, Lib.hid (rowK.nil _ _), HB5, HS5⟩
    case round =>
      obtain ⟨k, mk, bb, ls, hk, rfl, rfl, hinv, hmk, hls, hxb, hrow, hb, hxs⟩ := hrel
      have hxs9 := hxs.out
      have hls9 := hls.out
      by_cases hlt : k < L
      · have hkl : k < l2.length := by rw [HL.out]; exact hlt
        have hd := HH.out.below (by rw [HY.out]; exact hb.out)
        obtain ⟨b, off, rfl, hbl, hit⟩ := hd.r2.row.at_ hkl hkl
        have hdr : l2.drop k = l2[k] :: l2.drop (k + 1) := List.drop_eq_getElem_cons hkl
        have htk : l2.take (k + 1) = l2.take k ++ [l2[k]] := List.take_succ_eq_append_getElem hkl
        have hmem : l2[k] ∈ l2 := List.getElem_mem hkl
        have hgap := fun hg hn => made_gap (t := (⟨0, l2, 0⟩ : Tb SvW)) (i := i) (k := kk) HRise.out hkl hg hn
        obtain ⟨y, hy⟩ : ∃ y, l2[k] = y := ⟨_, rfl⟩
        rw [hy] at hdr htk hmem hit
        have hgap2 : ltT kk y.key = true → (∀ z ∈ l2.take k, z.key ≠ kk) → ((getR l2 kk).map (·.made)).getD i = i := fun h1 h2 => hgap (by show ltT kk (l2[k]).key = true; rw [hy]; exact h1) h2
        have hc0 := hd.cells.2.2.1
        rw [show (l2.length) = L from HL.out] at hc0
        have hsm := HSame.out y hmem
        have hlt2 := HLt2.out y hmem
        have hms : y.key = kk → y.made = rm := fun e => by rw [← HRm.out]; exact (made_same (t := (⟨0, l2, 0⟩ : Tb SvW)) HRise.out hmem e).symm
        have HD := Lib.hid hdr
        have HTk := Lib.hid htk
        obtain ⟨e0, e1, e2, e3, e4, e5, e6⟩ := sv_cells hit
        clear hit hd hdr htk hy hmem hgap
        by_cases q0 : y.val.a.node = x.val.a.node
        · have q : (y.val.a.node == x.val.a.node) = true := beq_iff_eq.2 q0
          have q3 : ¬ x.val.a.node < y.val.a.node := by omega
          rw [decide_eq_true q0, Bool.true_and] at hsm
          rw [decide_eq_false q3, decide_eq_true q0.symm, Bool.false_or, Bool.true_and] at hlt2
          cases hz : (y.val.a.id.toList == x.val.a.id.toList) with
          | true =>
            rw [hz] at hsm
            have hxm := hms (text_same.1 hsm)
            have HI1 : Hid (layR (⟨kk, x.val, rm, i⟩ : Rw SvW) false l2 = (ls ++ [(⟨kk, x.val, rm, i⟩ : Rw SvW)]) ++ layR (⟨kk, x.val, rm, i⟩ : Rw SvW) true (l2.drop (k + 1))) := Lib.hid (by
              rw [hinv.out, HD.out, layR, if_pos hsm, List.append_assoc]
              rfl)
            rw [hxm] at e5
            have z0 := cellsN hxb.out 0 _ rfl
            have z1 := cellsN hxb.out 1 _ rfl
            have z2 := cellsN hxb.out 2 _ rfl
            have z3 := cellsN hxb.out 3 _ rfl
            have z4 := cellsN hxb.out 4 _ rfl
            have z5 := cellsN hxb.out 5 _ rfl
            have z6 := cellsN hxb.out 6 _ rfl
            have g5 := blk_froz hxb.out 5
            have k1 : (wr.setCell ⟨X, 5, none⟩ (.int .u64 (rm : Int))).heap[X]? = some (.cells #[.int .i64 x.val.a.node, .string x.val.a.id, .string x.val.a.name, .slice x.val.A x.val.n x.val.c, .int .i64 x.val.a.port, .int .u64 (rm : Int), .int .u64 (i : Int)] TSv (0, 0)) := block_set hxb.out 5 _
            have s1 : (wr.setCell ⟨X, 5, none⟩ (.int .u64 (rm : Int))).heap.size = wr.heap.size := by simp [World.setCell]
            have b1 := below1 (wr.setCell ⟨X, 5, none⟩ (.int .u64 (rm : Int))) #[.int .i64 y.val.a.node, .string y.val.a.id, .string y.val.a.name, .slice y.val.A y.val.n y.val.c, .int .i64 y.val.a.port, .int .u64 (rm : Int), .int .u64 (y.ix : Int)] TSv
            have kA := (b1.block X (by rw [s1]; exact hxs9)).trans k1
            have sA : ((wr.setCell ⟨X, 5, none⟩ (.int .u64 (rm : Int))).alloc (.cells #[.int .i64 y.val.a.node, .string y.val.a.id, .string y.val.a.name, .slice y.val.A y.val.n y.val.c, .int .i64 y.val.a.port, .int .u64 (rm : Int), .int .u64 (y.ix : Int)] TSv)).heap.size = wr.heap.size + 1 := by simp [World.setCell]
            have hB1 := hb.out.setCell (p := ⟨X, 5, none⟩) (by exact hYX) (.int .u64 (rm : Int))
            have hBA : Hid (Below Y w ((wr.setCell ⟨X, 5, none⟩ (.int .u64 (rm : Int))).alloc (.cells #[.int .i64 y.val.a.node, .string y.val.a.id, .string y.val.a.name, .slice y.val.A y.val.n y.val.c, .int .i64 y.val.a.port, .int .u64 (rm : Int), .int .u64 (y.ix : Int)] TSv))) := Lib.hid (hB1.trans (b1.mono (by rw [s1]; have := hb.out.size; have := HY.out; omega)))
            have hRA : Hid (svRow ((wr.setCell ⟨X, 5, none⟩ (.int .u64 (rm : Int))).alloc (.cells #[.int .i64 y.val.a.node, .string y.val.a.id, .string y.val.a.name, .slice y.val.A y.val.n y.val.c, .int .i64 y.val.a.port, .int .u64 (rm : Int), .int .u64 (y.ix : Int)] TSv)) (X + 1) _ ls) := Lib.hid ((hrow.out.but (But.set (S := (· = X)) wr (p := ⟨X, 5, none⟩) rfl (.int .u64 (rm : Int))) fun j e z => by have := (hrow.out.from j e).1; have z2 : j = X := z; omega).below b1)
            have HKA := Lib.hid kA
            clear hsm hlt2 hms hgap2 kA hxm b1 k1 s1 hB1 q0
            go_wp2_with (at_builtin; refine wpList_append_sv rfl (.tmp 72) (.tmp 74) rfl (X + 1) _ (ls) rfl ?qa (wr.heap.size + 1) (⟨kk, x.val, rm, i⟩ : Rw SvW) rfl ?qb ?qd ?qc ?_)
            case qa => exact hRA.out.below ((Below.refl _ _).alloc (Nat.le_refl _) _)
            case qb => exact (by have z9 := sv_new ((wr.setCell ⟨X, 5, none⟩ (.int .u64 (rm : Int))).alloc (.cells #[.int .i64 y.val.a.node, .string y.val.a.id, .string y.val.a.name, .slice y.val.A y.val.n y.val.c, .int .i64 y.val.a.port, .int .u64 (rm : Int), .int .u64 (y.ix : Int)] TSv)) (⟨kk, x.val, rm, i⟩ : Rw SvW) TSv; rw [sA] at z9; exact z9)
            case qd => omega
            case qc => first | (rw [sA]; omega) | ((try simp); omega)
            refine Lib.hid ?_
            intro vW4 W4 hown hgr
            have hbx := svRow.snoc hRA.out (Below.refl _ _) (by first | (rw [sA]; omega) | ((try simp); omega)) hgr
            have HB4 := Lib.hid (hBA.out.trans (hbx.mono (by omega)))
            have HR4 := Lib.hid hown
            have HX4 : Hid (W4.heap[X]? = some (.cells #[.int .i64 x.val.a.node, .string x.val.a.id, .string x.val.a.name, .slice x.val.A x.val.n x.val.c, .int .i64 x.val.a.port, .int .u64 (rm : Int), .int .u64 (i : Int)] TSv (0, 0))) := Lib.hid ((hbx.block X (by omega)).trans HKA.out)
            have HZ4 : Hid (X < W4.heap.size) := Lib.hid (by have := hbx.size; rw [sA] at this; omega)
            clear hown hgr hbx hc0 e0 e1 e2 e3 e4 e5 e6 z0 z1 z2 z3 z4 z5 z6 g5 sA
            go_wp2
            go_roundw
            case rel => exact ⟨k + 1, rm, true, ls ++ [(⟨kk, x.val, rm, i⟩ : Rw SvW)], by omega, by go_num, rfl, HI1, Lib.hid (fun e => by cases e), Lib.hid (by simp; omega), HX4, HR4, HB4, HZ4⟩
            case measure => simp [intOf]; omega
          | false =>
            rw [hz] at hsm
            have hne : y.key ≠ kk := text_other.1 hsm
            have hmkN : bb = false → mk = i ∧ ∀ z ∈ l2.take (k + 1), z.key ≠ kk := fun e => ⟨(hmk.out e).1, fun z hz => by
              rw [HTk.out, List.mem_append, List.mem_singleton] at hz
              rcases hz with hz | rfl
              · exact (hmk.out e).2 z hz
              · exact hne⟩
            cases bb with
            | true =>
              have HI1 : Hid (layR (⟨kk, x.val, rm, i⟩ : Rw SvW) false l2 = (ls ++ [y]) ++ layR (⟨kk, x.val, rm, i⟩ : Rw SvW) true (l2.drop (k + 1))) := Lib.hid (by
                rw [hinv.out, HD.out, layR, if_neg (by rw [hsm]; simp), if_neg (by simp), List.append_assoc]
                rfl)
              have b1 := below1 wr #[.int .i64 y.val.a.node, .string y.val.a.id, .string y.val.a.name, .slice y.val.A y.val.n y.val.c, .int .i64 y.val.a.port, .int .u64 (y.made : Int), .int .u64 (y.ix : Int)] TSv
              have k1 := (b1.block X hxs9).trans hxb.out
              have sA : (wr.alloc (.cells #[.int .i64 y.val.a.node, .string y.val.a.id, .string y.val.a.name, .slice y.val.A y.val.n y.val.c, .int .i64 y.val.a.port, .int .u64 (y.made : Int), .int .u64 (y.ix : Int)] TSv)).heap.size = wr.heap.size + 1 := by simp
              have hBA : Hid (Below Y w (wr.alloc (.cells #[.int .i64 y.val.a.node, .string y.val.a.id, .string y.val.a.name, .slice y.val.A y.val.n y.val.c, .int .i64 y.val.a.port, .int .u64 (y.made : Int), .int .u64 (y.ix : Int)] TSv))) := Lib.hid (hb.out.trans (b1.mono (by have := hb.out.size; have := HY.out; omega)))
              have hRA : Hid (svRow (wr.alloc (.cells #[.int .i64 y.val.a.node, .string y.val.a.id, .string y.val.a.name, .slice y.val.A y.val.n y.val.c, .int .i64 y.val.a.port, .int .u64 (y.made : Int), .int .u64 (y.ix : Int)] TSv)) (X + 1) _ ls) := Lib.hid (hrow.out.below b1)
              have HKA := Lib.hid k1
              have z0 := cellsN hxb.out 0 _ rfl
              have z1 := cellsN hxb.out 1 _ rfl
              have z2 := cellsN hxb.out 2 _ rfl
              have z3 := cellsN hxb.out 3 _ rfl
              have z4 := cellsN hxb.out 4 _ rfl
              have z5 := cellsN hxb.out 5 _ rfl
              have z6 := cellsN hxb.out 6 _ rfl
              clear hsm hlt2 hms hgap2 b1 k1 hmkN hne q0
              go_wp2_with (at_builtin; refine wpList_append_sv rfl (.tmp 103) (.tmp 105) rfl (X + 1) _ (ls) rfl ?qa (wr.heap.size + 1) y rfl ?qb ?qd ?qc ?_)
              case qa => exact hRA.out.below ((Below.refl _ _).alloc (Nat.le_refl _) _)
              case qb => exact (by have z9 := sv_new (wr.alloc (.cells #[.int .i64 y.val.a.node, .string y.val.a.id, .string y.val.a.name, .slice y.val.A y.val.n y.val.c, .int .i64 y.val.a.port, .int .u64 (y.made : Int), .int .u64 (y.ix : Int)] TSv)) y TSv; rw [sA] at z9; exact z9)
              case qd => omega
              case qc => first | (rw [sA]; omega) | ((try simp); omega)
              refine Lib.hid ?_
              intro vW4 W4 hown hgr
              have hbx := svRow.snoc hRA.out (Below.refl _ _) (by first | (rw [sA]; omega) | ((try simp); omega)) hgr
              have HB4 := Lib.hid (hBA.out.trans (hbx.mono (by omega)))
              have HR4 := Lib.hid hown
              have HX4 : Hid (W4.heap[X]? = some (.cells #[.int .i64 x.val.a.node, .string x.val.a.id, .string x.val.a.name, .slice x.val.A x.val.n x.val.c, .int .i64 x.val.a.port, .int .u64 (mk : Int), .int .u64 (i : Int)] TSv (0, 0))) := Lib.hid ((hbx.block X (by omega)).trans HKA.out)
              have HZ4 : Hid (X < W4.heap.size) := Lib.hid (by have := hbx.size; rw [sA] at this; omega)
              clear hown hgr hbx hc0 e0 e1 e2 e3 e4 e5 e6 z0 z1 z2 z3 z4 z5 z6 sA
              go_wp2
              go_roundw
              case rel => exact ⟨k + 1, mk, true, ls ++ [y], by omega, by go_num, rfl, HI1, Lib.hid (fun e => by cases e), Lib.hid (by simp; omega), HX4, HR4, HB4, HZ4⟩
              case measure => simp [intOf]; omega
            | false =>
              cases hg : ltT x.val.a.id y.val.a.id with
              | true =>
                rw [hg] at hlt2
                have g : Op.bytesLess (y.val.a.id).toList (x.val.a.id).toList = false := less_other _ _ true hg hz
                clear hg
                have hrm2 : mk = rm := by rw [(hmkN (by first | rfl | trivial)).1, ← HRm.out]; exact (hgap2 hlt2 (hmk.out (by first | rfl | trivial)).2).symm
                have HI1 : Hid (layR (⟨kk, x.val, rm, i⟩ : Rw SvW) false l2 = (ls ++ [(⟨kk, x.val, rm, i⟩ : Rw SvW), y]) ++ layR (⟨kk, x.val, rm, i⟩ : Rw SvW) true (l2.drop (k + 1))) := Lib.hid (by
                  rw [hinv.out, HD.out, layR, if_neg (by rw [hsm]; simp), if_pos (by rw [show ltT kk y.key = true from hlt2]; rfl)]
                  simp)
                have hxb2 := hxb.out
                rw [hrm2] at hxb2
                have z0 := cellsN hxb2 0 _ rfl
                have z1 := cellsN hxb2 1 _ rfl
                have z2 := cellsN hxb2 2 _ rfl
                have z3 := cellsN hxb2 3 _ rfl
                have z4 := cellsN hxb2 4 _ rfl
                have z5 := cellsN hxb2 5 _ rfl
                have z6 := cellsN hxb2 6 _ rfl
                have b1 := below1 wr #[.int .i64 y.val.a.node, .string y.val.a.id, .string y.val.a.name, .slice y.val.A y.val.n y.val.c, .int .i64 y.val.a.port, .int .u64 (y.made : Int), .int .u64 (y.ix : Int)] TSv
                have k1 := (b1.block X hxs9).trans hxb2
                have kR := heap_alloc_new wr (.cells #[.int .i64 y.val.a.node, .string y.val.a.id, .string y.val.a.name, .slice y.val.A y.val.n y.val.c, .int .i64 y.val.a.port, .int .u64 (y.made : Int), .int .u64 (y.ix : Int)] TSv)
                have sA : (wr.alloc (.cells #[.int .i64 y.val.a.node, .string y.val.a.id, .string y.val.a.name, .slice y.val.A y.val.n y.val.c, .int .i64 y.val.a.port, .int .u64 (y.made : Int), .int .u64 (y.ix : Int)] TSv)).heap.size = wr.heap.size + 1 := by simp
                have hBA : Hid (Below Y w (wr.alloc (.cells #[.int .i64 y.val.a.node, .string y.val.a.id, .string y.val.a.name, .slice y.val.A y.val.n y.val.c, .int .i64 y.val.a.port, .int .u64 (y.made : Int), .int .u64 (y.ix : Int)] TSv))) := Lib.hid (hb.out.trans (b1.mono (by have := hb.out.size; have := HY.out; omega)))
                have hRA : Hid (svRow (wr.alloc (.cells #[.int .i64 y.val.a.node, .string y.val.a.id, .string y.val.a.name, .slice y.val.A y.val.n y.val.c, .int .i64 y.val.a.port, .int .u64 (y.made : Int), .int .u64 (y.ix : Int)] TSv)) (X + 1) _ ls) := Lib.hid (hrow.out.below b1)
                have hfr := Lib.hid (fun j e => (hrow.out.from j e).2)
                have HKA := Lib.hid k1
                have HKR := Lib.hid kR
                clear hsm hlt2 hms hgap2 b1 k1 kR hmkN hne hxb2 q0
                go_wp2_with (at_builtin; refine wpList_append_sv rfl (.tmp 99) (.tmp 101) rfl (X + 1) _ (ls) rfl ?qa (wr.heap.size + 1) (⟨kk, x.val, rm, i⟩ : Rw SvW) rfl ?qb ?qd ?qc ?_)
                case qa => exact hRA.out.below ((Below.refl _ _).alloc (Nat.le_refl _) _)
                case qb => exact (by have z9 := sv_new (wr.alloc (.cells #[.int .i64 y.val.a.node, .string y.val.a.id, .string y.val.a.name, .slice y.val.A y.val.n y.val.c, .int .i64 y.val.a.port, .int .u64 (y.made : Int), .int .u64 (y.ix : Int)] TSv)) (⟨kk, x.val, rm, i⟩ : Rw SvW) TSv; rw [sA] at z9; exact z9)
                case qd => omega
                case qc => first | (rw [sA]; omega) | ((try simp); omega)
                refine Lib.hid ?_
                intro vW4 W4 hown hgr
                have hbx := svRow.snoc hRA.out (Below.refl _ _) (by first | (rw [sA]; omega) | ((try simp); omega)) hgr
                have HB4 := Lib.hid (hBA.out.trans (hbx.mono (by omega)))
                have HR4 := Lib.hid hown
                have hx4 : W4.heap[X]? = some (.cells #[.int .i64 x.val.a.node, .string x.val.a.id, .string x.val.a.name, .slice x.val.A x.val.n x.val.c, .int .i64 x.val.a.port, .int .u64 (rm : Int), .int .u64 (i : Int)] TSv (0, 0)) := (hbx.block X (by omega)).trans HKA.out
                have hz4 : X + 1 < W4.heap.size := by have := hbx.size; rw [sA] at this; omega
                have hbu : But (fun k => k ≠ wr.heap.size) (wr.alloc (.cells #[.int .i64 y.val.a.node, .string y.val.a.id, .string y.val.a.name, .slice y.val.A y.val.n y.val.c, .int .i64 y.val.a.port, .int .u64 (y.made : Int), .int .u64 (y.ix : Int)] TSv)) W4 := (But.of_below ((Below.refl _ (wr.alloc (.cells #[.int .i64 y.val.a.node, .string y.val.a.id, .string y.val.a.name, .slice y.val.A y.val.n y.val.c, .int .i64 y.val.a.port, .int .u64 (y.made : Int), .int .u64 (y.ix : Int)] TSv))).alloc (Nat.le_refl _) _)).trans (But.of_grown (S := fun k => k ≠ wr.heap.size) hgr fun r e _ => by have := hfr.out r e; omega)
                have kR4 : W4.heap[wr.heap.size]? = some (.cells #[.int .i64 y.val.a.node, .string y.val.a.id, .string y.val.a.name, .slice y.val.A y.val.n y.val.c, .int .i64 y.val.a.port, .int .u64 (y.made : Int), .int .u64 (y.ix : Int)] TSv (0, 0)) := (hbu.block wr.heap.size (by rw [sA]; omega) (by simp)).trans HKR.out
                obtain ⟨f0, f1, f2, f3, f4, f5, f6⟩ := sv_blk kR4
                have HX4 := Lib.hid hx4
                clear hown hgr hbx hx4 hbu kR4 hc0 e0 e1 e2 e3 e4 e5 e6 z0 z1 z2 z3 z4 z5 z6 sA
                go_wp2_with (at_builtin; refine wpList_append_sv rfl (.tmp 103) (.tmp 105) rfl (X + 1) _ (ls ++ [(⟨kk, x.val, rm, i⟩ : Rw SvW)]) rfl ?qa (W4.heap.size) y rfl ?qb ?qd ?qc ?_)
                case qa => exact HR4.out.below ((Below.refl _ _).alloc (Nat.le_refl _) _)
                case qb => exact (by have z9 := sv_new (W4) y TSv; exact z9)
                case qd => simp; omega
                case qc => first | (rw [hzz]; omega) | ((try simp); omega)
                refine Lib.hid ?_
                intro vW5 W5 hown hgr
                have hbx := svRow.snoc HR4.out (Below.refl _ _) (by first | (rw [hzz]; omega) | ((try simp); omega)) hgr
                have HB5 := Lib.hid (HB4.out.trans (hbx.mono (by omega)))
                have HR5 := Lib.hid hown
                have HX5 : Hid (W5.heap[X]? = some (.cells #[.int .i64 x.val.a.node, .string x.val.a.id, .string x.val.a.name, .slice x.val.A x.val.n x.val.c, .int .i64 x.val.a.port, .int .u64 (rm : Int), .int .u64 (i : Int)] TSv (0, 0))) := Lib.hid ((hbx.block X (by omega)).trans HX4.out)
                have HZ5 : Hid (X < W5.heap.size) := Lib.hid (by have := hbx.size; omega)
                clear hown hgr hbx f0 f1 f2 f3 f4 f5 f6
                go_wp2
                go_roundw
                case rel => exact ⟨k + 1, rm, true, ls ++ [(⟨kk, x.val, rm, i⟩ : Rw SvW), y], by omega, by go_num, rfl, HI1, Lib.hid (fun e => by cases e), Lib.hid (by simp; omega), HX5, HR5, HB5, HZ5⟩
                case measure => simp [intOf]; omega
              | false =>
                rw [hg] at hlt2
                have g : Op.bytesLess (y.val.a.id).toList (x.val.a.id).toList = true := less_other _ _ false hg hz
                clear hg
                have HI1 : Hid (layR (⟨kk, x.val, rm, i⟩ : Rw SvW) false l2 = (ls ++ [y]) ++ layR (⟨kk, x.val, rm, i⟩ : Rw SvW) false (l2.drop (k + 1))) := Lib.hid (by
                  rw [hinv.out, HD.out, layR, if_neg (by rw [hsm]; simp), if_neg (by rw [show ltT kk y.key = false from hlt2]; simp), List.append_assoc]
                  rfl)
                have HMN : Hid (mk = i ∧ ∀ y ∈ l2.take (k + 1), y.key ≠ kk) := Lib.hid (hmkN (by first | rfl | trivial))
                have b1 := below1 wr #[.int .i64 y.val.a.node, .string y.val.a.id, .string y.val.a.name, .slice y.val.A y.val.n y.val.c, .int .i64 y.val.a.port, .int .u64 (y.made : Int), .int .u64 (y.ix : Int)] TSv
                have k1 := (b1.block X hxs9).trans hxb.out
                have sA : (wr.alloc (.cells #[.int .i64 y.val.a.node, .string y.val.a.id, .string y.val.a.name, .slice y.val.A y.val.n y.val.c, .int .i64 y.val.a.port, .int .u64 (y.made : Int), .int .u64 (y.ix : Int)] TSv)).heap.size = wr.heap.size + 1 := by simp
                have hBA : Hid (Below Y w (wr.alloc (.cells #[.int .i64 y.val.a.node, .string y.val.a.id, .string y.val.a.name, .slice y.val.A y.val.n y.val.c, .int .i64 y.val.a.port, .int .u64 (y.made : Int), .int .u64 (y.ix : Int)] TSv))) := Lib.hid (hb.out.trans (b1.mono (by have := hb.out.size; have := HY.out; omega)))
                have hRA : Hid (svRow (wr.alloc (.cells #[.int .i64 y.val.a.node, .string y.val.a.id, .string y.val.a.name, .slice y.val.A y.val.n y.val.c, .int .i64 y.val.a.port, .int .u64 (y.made : Int), .int .u64 (y.ix : Int)] TSv)) (X + 1) _ ls) := Lib.hid (hrow.out.below b1)
                have HKA := Lib.hid k1
                have z0 := cellsN hxb.out 0 _ rfl
                have z1 := cellsN hxb.out 1 _ rfl
                have z2 := cellsN hxb.out 2 _ rfl
                have z3 := cellsN hxb.out 3 _ rfl
                have z4 := cellsN hxb.out 4 _ rfl
                have z5 := cellsN hxb.out 5 _ rfl
                have z6 := cellsN hxb.out 6 _ rfl
                clear hsm hlt2 hms hgap2 b1 k1 hmkN hne q0
                go_wp2_with (at_builtin; refine wpList_append_sv rfl (.tmp 103) (.tmp 105) rfl (X + 1) _ (ls) rfl ?qa (wr.heap.size + 1) y rfl ?qb ?qd ?qc ?_)
                case qa => exact hRA.out.below ((Below.refl _ _).alloc (Nat.le_refl _) _)
                case qb => exact (by have z9 := sv_new (wr.alloc (.cells #[.int .i64 y.val.a.node, .string y.val.a.id, .string y.val.a.name, .slice y.val.A y.val.n y.val.c, .int .i64 y.val.a.port, .int .u64 (y.made : Int), .int .u64 (y.ix : Int)] TSv)) y TSv; rw [sA] at z9; exact z9)
                case qd => omega
                case qc => first | (rw [sA]; omega) | ((try simp); omega)
                refine Lib.hid ?_
                intro vW4 W4 hown hgr
                have hbx := svRow.snoc hRA.out (Below.refl _ _) (by first | (rw [sA]; omega) | ((try simp); omega)) hgr
                have HB4 := Lib.hid (hBA.out.trans (hbx.mono (by omega)))
                have HR4 := Lib.hid hown
                have HX4 : Hid (W4.heap[X]? = some (.cells #[.int .i64 x.val.a.node, .string x.val.a.id, .string x.val.a.name, .slice x.val.A x.val.n x.val.c, .int .i64 x.val.a.port, .int .u64 (mk : Int), .int .u64 (i : Int)] TSv (0, 0))) := Lib.hid ((hbx.block X (by omega)).trans HKA.out)
                have HZ4 : Hid (X < W4.heap.size) := Lib.hid (by have := hbx.size; rw [sA] at this; omega)
                clear hown hgr hbx hc0 e0 e1 e2 e3 e4 e5 e6 z0 z1 z2 z3 z4 z5 z6 sA
                go_wp2
                go_roundw
                case rel => exact ⟨k + 1, mk, false, ls ++ [y], by omega, by go_num, rfl, HI1, Lib.hid (fun _ => HMN.out), Lib.hid (by simp; omega), HX4, HR4, HB4, HZ4⟩
                case measure => simp [intOf]; omega
        · have q : (y.val.a.node == x.val.a.node) = false := beq_eq_false_iff_ne.2 q0
          rw [decide_eq_false q0, Bool.false_and] at hsm
          rw [decide_eq_false (show ¬ x.val.a.node = y.val.a.node from fun e => q0 e.symm), Bool.false_and, Bool.or_false] at hlt2
          have hne : y.key ≠ kk := text_other.1 hsm
          have hmkN : bb = false → mk = i ∧ ∀ z ∈ l2.take (k + 1), z.key ≠ kk := fun e => ⟨(hmk.out e).1, fun z hz => by
            rw [HTk.out, List.mem_append, List.mem_singleton] at hz
            rcases hz with hz | rfl
            · exact (hmk.out e).2 z hz
            · exact hne⟩
          cases bb with
          | true =>
            have HI1 : Hid (layR (⟨kk, x.val, rm, i⟩ : Rw SvW) false l2 = (ls ++ [y]) ++ layR (⟨kk, x.val, rm, i⟩ : Rw SvW) true (l2.drop (k + 1))) := Lib.hid (by
              rw [hinv.out, HD.out, layR, if_neg (by rw [hsm]; simp), if_neg (by simp), List.append_assoc]
              rfl)
            have b1 := below1 wr #[.int .i64 y.val.a.node, .string y.val.a.id, .string y.val.a.name, .slice y.val.A y.val.n y.val.c, .int .i64 y.val.a.port, .int .u64 (y.made : Int), .int .u64 (y.ix : Int)] TSv
            have k1 := (b1.block X hxs9).trans hxb.out
            have sA : (wr.alloc (.cells #[.int .i64 y.val.a.node, .string y.val.a.id, .string y.val.a.name, .slice y.val.A y.val.n y.val.c, .int .i64 y.val.a.port, .int .u64 (y.made : Int), .int .u64 (y.ix : Int)] TSv)).heap.size = wr.heap.size + 1 := by simp
            have hBA : Hid (Below Y w (wr.alloc (.cells #[.int .i64 y.val.a.node, .string y.val.a.id, .string y.val.a.name, .slice y.val.A y.val.n y.val.c, .int .i64 y.val.a.port, .int .u64 (y.made : Int), .int .u64 (y.ix : Int)] TSv))) := Lib.hid (hb.out.trans (b1.mono (by have := hb.out.size; have := HY.out; omega)))
            have hRA : Hid (svRow (wr.alloc (.cells #[.int .i64 y.val.a.node, .string y.val.a.id, .string y.val.a.name, .slice y.val.A y.val.n y.val.c, .int .i64 y.val.a.port, .int .u64 (y.made : Int), .int .u64 (y.ix : Int)] TSv)) (X + 1) _ ls) := Lib.hid (hrow.out.below b1)
            have HKA := Lib.hid k1
            have z0 := cellsN hxb.out 0 _ rfl
            have z1 := cellsN hxb.out 1 _ rfl
            have z2 := cellsN hxb.out 2 _ rfl
            have z3 := cellsN hxb.out 3 _ rfl
            have z4 := cellsN hxb.out 4 _ rfl
            have z5 := cellsN hxb.out 5 _ rfl
            have z6 := cellsN hxb.out 6 _ rfl
            clear hsm hlt2 hms hgap2 b1 k1 hmkN hne q0
            go_wp2_with (at_builtin; refine wpList_append_sv rfl (.tmp 103) (.tmp 105) rfl (X + 1) _ (ls) rfl ?qa (wr.heap.size + 1) y rfl ?qb ?qd ?qc ?_)
            case qa => exact hRA.out.below ((Below.refl _ _).alloc (Nat.le_refl _) _)
            case qb => exact (by have z9 := sv_new (wr.alloc (.cells #[.int .i64 y.val.a.node, .string y.val.a.id, .string y.val.a.name, .slice y.val.A y.val.n y.val.c, .int .i64 y.val.a.port, .int .u64 (y.made : Int), .int .u64 (y.ix : Int)] TSv)) y TSv; rw [sA] at z9; exact z9)
            case qd => omega
            case qc => first | (rw [sA]; omega) | ((try simp); omega)
            refine Lib.hid ?_
            intro vW4 W4 hown hgr
            have hbx := svRow.snoc hRA.out (Below.refl _ _) (by first | (rw [sA]; omega) | ((try simp); omega)) hgr
            have HB4 := Lib.hid (hBA.out.trans (hbx.mono (by omega)))
            have HR4 := Lib.hid hown
            have HX4 : Hid (W4.heap[X]? = some (.cells #[.int .i64 x.val.a.node, .string x.val.a.id, .string x.val.a.name, .slice x.val.A x.val.n x.val.c, .int .i64 x.val.a.port, .int .u64 (mk : Int), .int .u64 (i : Int)] TSv (0, 0))) := Lib.hid ((hbx.block X (by omega)).trans HKA.out)
            have HZ4 : Hid (X < W4.heap.size) := Lib.hid (by have := hbx.size; rw [sA] at this; omega)
            clear hown hgr hbx hc0 e0 e1 e2 e3 e4 e5 e6 z0 z1 z2 z3 z4 z5 z6 sA
            go_wp2
            go_roundw
            case rel => exact ⟨k + 1, mk, true, ls ++ [y], by omega, by go_num, rfl, HI1, Lib.hid (fun e => by cases e), Lib.hid (by simp; omega), HX4, HR4, HB4, HZ4⟩
            case measure => simp [intOf]; omega
          | false =>
            by_cases q3 : x.val.a.node < y.val.a.node
            · rw [decide_eq_true q3] at hlt2
              have hrm2 : mk = rm := by rw [(hmkN (by first | rfl | trivial)).1, ← HRm.out]; exact (hgap2 hlt2 (hmk.out (by first | rfl | trivial)).2).symm
              have HI1 : Hid (layR (⟨kk, x.val, rm, i⟩ : Rw SvW) false l2 = (ls ++ [(⟨kk, x.val, rm, i⟩ : Rw SvW), y]) ++ layR (⟨kk, x.val, rm, i⟩ : Rw SvW) true (l2.drop (k + 1))) := Lib.hid (by
                rw [hinv.out, HD.out, layR, if_neg (by rw [hsm]; simp), if_pos (by rw [show ltT kk y.key = true from hlt2]; rfl)]
                simp)
              have hxb2 := hxb.out
              rw [hrm2] at hxb2
              have z0 := cellsN hxb2 0 _ rfl
              have z1 := cellsN hxb2 1 _ rfl
              have z2 := cellsN hxb2 2 _ rfl
              have z3 := cellsN hxb2 3 _ rfl
              have z4 := cellsN hxb2 4 _ rfl
              have z5 := cellsN hxb2 5 _ rfl
              have z6 := cellsN hxb2 6 _ rfl
              have b1 := below1 wr #[.int .i64 y.val.a.node, .string y.val.a.id, .string y.val.a.name, .slice y.val.A y.val.n y.val.c, .int .i64 y.val.a.port, .int .u64 (y.made : Int), .int .u64 (y.ix : Int)] TSv
              have k1 := (b1.block X hxs9).trans hxb2
              have kR := heap_alloc_new wr (.cells #[.int .i64 y.val.a.node, .string y.val.a.id, .string y.val.a.name, .slice y.val.A y.val.n y.val.c, .int .i64 y.val.a.port, .int .u64 (y.made : Int), .int .u64 (y.ix : Int)] TSv)
              have sA : (wr.alloc (.cells #[.int .i64 y.val.a.node, .string y.val.a.id, .string y.val.a.name, .slice y.val.A y.val.n y.val.c, .int .i64 y.val.a.port, .int .u64 (y.made : Int), .int .u64 (y.ix : Int)] TSv)).heap.size = wr.heap.size + 1 := by simp
              have hBA : Hid (Below Y w (wr.alloc (.cells #[.int .i64 y.val.a.node, .string y.val.a.id, .string y.val.a.name, .slice y.val.A y.val.n y.val.c, .int .i64 y.val.a.port, .int .u64 (y.made : Int), .int .u64 (y.ix : Int)] TSv))) := Lib.hid (hb.out.trans (b1.mono (by have := hb.out.size; have := HY.out; omega)))
              have hRA : Hid (svRow (wr.alloc (.cells #[.int .i64 y.val.a.node, .string y.val.a.id, .string y.val.a.name, .slice y.val.A y.val.n y.val.c, .int .i64 y.val.a.port, .int .u64 (y.made : Int), .int .u64 (y.ix : Int)] TSv)) (X + 1) _ ls) := Lib.hid (hrow.out.below b1)
              have hfr := Lib.hid (fun j e => (hrow.out.from j e).2)
              have HKA := Lib.hid k1
              have HKR := Lib.hid kR
              clear hsm hlt2 hms hgap2 b1 k1 kR hmkN hne hxb2 q0
              go_wp2_with (at_builtin; refine wpList_append_sv rfl (.tmp 99) (.tmp 101) rfl (X + 1) _ (ls) rfl ?qa (wr.heap.size + 1) (⟨kk, x.val, rm, i⟩ : Rw SvW) rfl ?qb ?qd ?qc ?_)
              case qa => exact hRA.out.below ((Below.refl _ _).alloc (Nat.le_refl _) _)
              case qb => exact (by have z9 := sv_new (wr.alloc (.cells #[.int .i64 y.val.a.node, .string y.val.a.id, .string y.val.a.name, .slice y.val.A y.val.n y.val.c, .int .i64 y.val.a.port, .int .u64 (y.made : Int), .int .u64 (y.ix : Int)] TSv)) (⟨kk, x.val, rm, i⟩ : Rw SvW) TSv; rw [sA] at z9; exact z9)
              case qd => omega
              case qc => first | (rw [sA]; omega) | ((try simp); omega)
              refine Lib.hid ?_
              intro vW4 W4 hown hgr
              have hbx := svRow.snoc hRA.out (Below.refl _ _) (by first | (rw [sA]; omega) | ((try simp); omega)) hgr
              have HB4 := Lib.hid (hBA.out.trans (hbx.mono (by omega)))
              have HR4 := Lib.hid hown
              have hx4 : W4.heap[X]? = some (.cells #[.int .i64 x.val.a.node, .string x.val.a.id, .string x.val.a.name, .slice x.val.A x.val.n x.val.c, .int .i64 x.val.a.port, .int .u64 (rm : Int), .int .u64 (i : Int)] TSv (0, 0)) := (hbx.block X (by omega)).trans HKA.out
              have hz4 : X + 1 < W4.heap.size := by have := hbx.size; rw [sA] at this; omega
              have hbu : But (fun k => k ≠ wr.heap.size) (wr.alloc (.cells #[.int .i64 y.val.a.node, .string y.val.a.id, .string y.val.a.name, .slice y.val.A y.val.n y.val.c, .int .i64 y.val.a.port, .int .u64 (y.made : Int), .int .u64 (y.ix : Int)] TSv)) W4 := (But.of_below ((Below.refl _ (wr.alloc (.cells #[.int .i64 y.val.a.node, .string y.val.a.id, .string y.val.a.name, .slice y.val.A y.val.n y.val.c, .int .i64 y.val.a.port, .int .u64 (y.made : Int), .int .u64 (y.ix : Int)] TSv))).alloc (Nat.le_refl _) _)).trans (But.of_grown (S := fun k => k ≠ wr.heap.size) hgr fun r e _ => by have := hfr.out r e; omega)
              have kR4 : W4.heap[wr.heap.size]? = some (.cells #[.int .i64 y.val.a.node, .string y.val.a.id, .string y.val.a.name, .slice y.val.A y.val.n y.val.c, .int .i64 y.val.a.port, .int .u64 (y.made : Int), .int .u64 (y.ix : Int)] TSv (0, 0)) := (hbu.block wr.heap.size (by rw [sA]; omega) (by simp)).trans HKR.out
              obtain ⟨f0, f1, f2, f3, f4, f5, f6⟩ := sv_blk kR4
              have HX4 := Lib.hid hx4
              clear hown hgr hbx hx4 hbu kR4 hc0 e0 e1 e2 e3 e4 e5 e6 z0 z1 z2 z3 z4 z5 z6 sA
              go_wp2_with (at_builtin; refine wpList_append_sv rfl (.tmp 103) (.tmp 105) rfl (X + 1) _ (ls ++ [(⟨kk, x.val, rm, i⟩ : Rw SvW)]) rfl ?qa (W4.heap.size) y rfl ?qb ?qd ?qc ?_)
              case qa => exact HR4.out.below ((Below.refl _ _).alloc (Nat.le_refl _) _)
              case qb => exact (by have z9 := sv_new (W4) y TSv; exact z9)
              case qd => simp; omega
              case qc => first | (rw [hzz]; omega) | ((try simp); omega)
              refine Lib.hid ?_
              intro vW5 W5 hown hgr
              have hbx := svRow.snoc HR4.out (Below.refl _ _) (by first | (rw [hzz]; omega) | ((try simp); omega)) hgr
              have HB5 := Lib.hid (HB4.out.trans (hbx.mono (by omega)))
              have HR5 := Lib.hid hown
              have HX5 : Hid (W5.heap[X]? = some (.cells #[.int .i64 x.val.a.node, .string x.val.a.id, .string x.val.a.name, .slice x.val.A x.val.n x.val.c, .int .i64 x.val.a.port, .int .u64 (rm : Int), .int .u64 (i : Int)] TSv (0, 0))) := Lib.hid ((hbx.block X (by omega)).trans HX4.out)
              have HZ5 : Hid (X < W5.heap.size) := Lib.hid (by have := hbx.size; omega)
              clear hown hgr hbx f0 f1 f2 f3 f4 f5 f6
              go_wp2
              go_roundw
              case rel => exact ⟨k + 1, rm, true, ls ++ [(⟨kk, x.val, rm, i⟩ : Rw SvW), y], by omega, by go_num, rfl, HI1, Lib.hid (fun e => by cases e), Lib.hid (by simp; omega), HX5, HR5, HB5, HZ5⟩
              case measure => simp [intOf]; omega
            · rw [decide_eq_false q3] at hlt2
              have HI1 : Hid (layR (⟨kk, x.val, rm, i⟩ : Rw SvW) false l2 = (ls ++ [y]) ++ layR (⟨kk, x.val, rm, i⟩ : Rw SvW) false (l2.drop (k + 1))) := Lib.hid (by
                rw [hinv.out, HD.out, layR, if_neg (by rw [hsm]; simp), if_neg (by rw [show ltT kk y.key = false from hlt2]; simp), List.append_assoc]
                rfl)
              have HMN : Hid (mk = i ∧ ∀ y ∈ l2.take (k + 1), y.key ≠ kk) := Lib.hid (hmkN (by first | rfl | trivial))
              have b1 := below1 wr #[.int .i64 y.val.a.node, .string y.val.a.id, .string y.val.a.name, .slice y.val.A y.val.n y.val.c, .int .i64 y.val.a.port, .int .u64 (y.made : Int), .int .u64 (y.ix : Int)] TSv
              have k1 := (b1.block X hxs9).trans hxb.out
              have sA : (wr.alloc (.cells #[.int .i64 y.val.a.node, .string y.val.a.id, .string y.val.a.name, .slice y.val.A y.val.n y.val.c, .int .i64 y.val.a.port, .int .u64 (y.made : Int), .int .u64 (y.ix : Int)] TSv)).heap.size = wr.heap.size + 1 := by simp
              have hBA : Hid (Below Y w (wr.alloc (.cells #[.int .i64 y.val.a.node, .string y.val.a.id, .string y.val.a.name, .slice y.val.A y.val.n y.val.c, .int .i64 y.val.a.port, .int .u64 (y.made : Int), .int .u64 (y.ix : Int)] TSv))) := Lib.hid (hb.out.trans (b1.mono (by have := hb.out.size; have := HY.out; omega)))
              have hRA : Hid (svRow (wr.alloc (.cells #[.int .i64 y.val.a.node, .string y.val.a.id, .string y.val.a.name, .slice y.val.A y.val.n y.val.c, .int .i64 y.val.a.port, .int .u64 (y.made : Int), .int .u64 (y.ix : Int)] TSv)) (X + 1) _ ls) := Lib.hid (hrow.out.below b1)
              have HKA := Lib.hid k1
              have z0 := cellsN hxb.out 0 _ rfl
              have z1 := cellsN hxb.out 1 _ rfl
              have z2 := cellsN hxb.out 2 _ rfl
              have z3 := cellsN hxb.out 3 _ rfl
              have z4 := cellsN hxb.out 4 _ rfl
              have z5 := cellsN hxb.out 5 _ rfl
              have z6 := cellsN hxb.out 6 _ rfl
              clear hsm hlt2 hms hgap2 b1 k1 hmkN hne q0
              go_wp2_with (at_builtin; refine wpList_append_sv rfl (.tmp 103) (.tmp 105) rfl (X + 1) _ (ls) rfl ?qa (wr.heap.size + 1) y rfl ?qb ?qd ?qc ?_)
              case qa => exact hRA.out.below ((Below.refl _ _).alloc (Nat.le_refl _) _)
              case qb => exact (by have z9 := sv_new (wr.alloc (.cells #[.int .i64 y.val.a.node, .string y.val.a.id, .string y.val.a.name, .slice y.val.A y.val.n y.val.c, .int .i64 y.val.a.port, .int .u64 (y.made : Int), .int .u64 (y.ix : Int)] TSv)) y TSv; rw [sA] at z9; exact z9)
              case qd => omega
              case qc => first | (rw [sA]; omega) | ((try simp); omega)
              refine Lib.hid ?_
              intro vW4 W4 hown hgr
              have hbx := svRow.snoc hRA.out (Below.refl _ _) (by first | (rw [sA]; omega) | ((try simp); omega)) hgr
              have HB4 := Lib.hid (hBA.out.trans (hbx.mono (by omega)))
              have HR4 := Lib.hid hown
              have HX4 : Hid (W4.heap[X]? = some (.cells #[.int .i64 x.val.a.node, .string x.val.a.id, .string x.val.a.name, .slice x.val.A x.val.n x.val.c, .int .i64 x.val.a.port, .int .u64 (mk : Int), .int .u64 (i : Int)] TSv (0, 0))) := Lib.hid ((hbx.block X (by omega)).trans HKA.out)
              have HZ4 : Hid (X < W4.heap.size) := Lib.hid (by have := hbx.size; rw [sA] at this; omega)
              clear hown hgr hbx hc0 e0 e1 e2 e3 e4 e5 e6 z0 z1 z2 z3 z4 z5 z6 sA
              go_wp2
              go_roundw
              case rel => exact ⟨k + 1, mk, false, ls ++ [y], by omega, by go_num, rfl, HI1, Lib.hid (fun _ => HMN.out), Lib.hid (by simp; omega), HX4, HR4, HB4, HZ4⟩
              case measure => simp [intOf]; omega
      · have hkL : k = L := by omega
        have hdk : l2.drop k = [] := List.drop_eq_nil_of_le (by rw [HL.out]; omega)
        have htk : l2.take k = l2 := List.take_of_length_le (by rw [HL.out]; omega)
        have hI := hinv.out
        rw [hdk] at hI
        have hd := HH.out.below (by rw [HY.out]; exact hb.out)
        have hc0 := hd.cells.2.2.1
        rw [show (l2.length) = L from HL.out] at hc0
        clear hd hdk
        cases bb with
        | true =>
          have hMM : layR (⟨kk, x.val, rm, i⟩ : Rw SvW) false l2 = ls := by
            rw [hI]; simp [layR]
          obtain ⟨M, hM⟩ : ∃ M, ls = M := ⟨_, rfl⟩
          have hrz := hrow.out
          rw [hM] at hMM hrz
          have hd2 := HH.out.below (w' := wr) (by rw [HY.out]; exact hb.out)
          have hcz := hd2.cells.2.2.1
          rw [show (l2.length) = L from HL.out] at hcz
          have z := hd2.froz 2
          have hl := hd2.lt
          obtain ⟨A9, c9, rfl, k1, k2, k3, k4⟩ := SK.of_row svC_len hrz
          have hset := (hd2.narrow (S' := fun k => S k ∨ Y ≤ k) (fun _ _ z => .inl (HSs.out _ z)) (fun k z => z.elim (HLo.out k) (Nat.le_trans HTop.out))).set2 (A := A9) (c := c9) (l := M) ⟨k1, fun b off e _ => ⟨.inr (by have := k4 b off e; omega), by have := k4 b off e; omega⟩, k2, k3⟩ (fun r hr => by rw [← hMM] at hr; rcases layR_mem hr with rfl | hr; exact HTg.out _ (by rw [HY.out]; exact hb.out); exact hd2.tg r hr)
          have HRs := Lib.hid (rdraise2_any i hset)
          have HB5 : Hid (But (· = B) w (wr.setCell ⟨B, 2, none⟩ (.slice A9 M.length c9))) := Lib.hid ((But.of_below (by rw [HY.out]; exact hb.out)).trans (But.set (S := (· = B)) wr (p := ⟨B, 2, none⟩) rfl (.slice A9 M.length c9)))
          have HMM := Lib.hid hMM
          clear hset k1 k4 hd2 hMM hM hc0
          go_wp2_with fail
          refine HRs.out.mono ?_
          rintro e w2 ⟨rfl, hd3, hb3⟩
          have HD3 := Lib.hid hd3
          have HB6 := Lib.hid (HB5.out.trans hb3)
          clear hd3 hb3
          go_wp2
          go_ret
          have HOk4 := HOk3.out
          rw [HMM.out] at HOk4
          rw [HY.out, HMM.out]
          exact ⟨rfl, ⟨HOk4, _, _, _, _, _, _, _, HD3.out⟩, HB6.out⟩
        | false =>
          obtain ⟨hmi, hno⟩ := hmk.out (by first | rfl | trivial)
          rw [htk] at hno
          have hrm2 : mk = rm := by rw [hmi, ← HRm.out]; exact (made_none (t := (⟨0, l2, 0⟩ : Tb SvW)) hno).symm
          have hxb2 := hxb.out
          rw [hrm2] at hxb2
          have z0 := cellsN hxb2 0 _ rfl
          have z1 := cellsN hxb2 1 _ rfl
          have z2 := cellsN hxb2 2 _ rfl
          have z3 := cellsN hxb2 3 _ rfl
          have z4 := cellsN hxb2 4 _ rfl
          have z5 := cellsN hxb2 5 _ rfl
          have z6 := cellsN hxb2 6 _ rfl
          clear hxb2 htk
          go_wp2_with (at_builtin; refine wpList_append_sv rfl (.tmp 109) (.tmp 111) rfl (X + 1) _ (ls) rfl ?qa (wr.heap.size) (⟨kk, x.val, rm, i⟩ : Rw SvW) rfl ?qb ?qd ?qc ?_)
          case qa => exact hrow.out.below ((Below.refl _ _).alloc (Nat.le_refl _) _)
          case qb => exact (by have z9 := sv_new (wr) (⟨kk, x.val, rm, i⟩ : Rw SvW) TSv; exact z9)
          case qd => omega
          case qc => first | (rw [hzz]; omega) | ((try simp); omega)
          refine Lib.hid ?_
          intro vW4 W4 hown hgr
          have hbx := svRow.snoc hrow.out (Below.refl _ _) (by first | (rw [hzz]; omega) | ((try simp); omega)) hgr
          have HB4 := Lib.hid (hb.out.trans (hbx.mono (by omega)))
          have HR4 := Lib.hid hown
          clear hown hgr hbx z0 z1 z2 z3 z4 z5 z6
          have hMM : layR (⟨kk, x.val, rm, i⟩ : Rw SvW) false l2 = ls ++ [(⟨kk, x.val, rm, i⟩ : Rw SvW)] := by
            rw [hI]; simp [layR]
          obtain ⟨M, hM⟩ : ∃ M, ls ++ [(⟨kk, x.val, rm, i⟩ : Rw SvW)] = M := ⟨_, rfl⟩
          have hrz := HR4.out
          rw [hM] at hMM hrz
          have hd2 := HH.out.below (w' := W4) (by rw [HY.out]; exact HB4.out)
          have hcz := hd2.cells.2.2.1
          rw [show (l2.length) = L from HL.out] at hcz
          have z := hd2.froz 2
          have hl := hd2.lt
          obtain ⟨A9, c9, rfl, k1, k2, k3, k4⟩ := SK.of_row svC_len hrz
          have hset := (hd2.narrow (S' := fun k => S k ∨ Y ≤ k) (fun _ _ z => .inl (HSs.out _ z)) (fun k z => z.elim (HLo.out k) (Nat.le_trans HTop.out))).set2 (A := A9) (c := c9) (l := M) ⟨k1, fun b off e _ => ⟨.inr (by have := k4 b off e; omega), by have := k4 b off e; omega⟩, k2, k3⟩ (fun r hr => by rw [← hMM] at hr; rcases layR_mem hr with rfl | hr; exact HTg.out _ (by rw [HY.out]; exact HB4.out); exact hd2.tg r hr)
          have HRs := Lib.hid (rdraise2_any i hset)
          have HB5 : Hid (But (· = B) w (W4.setCell ⟨B, 2, none⟩ (.slice A9 M.length c9))) := Lib.hid ((But.of_below (by rw [HY.out]; exact HB4.out)).trans (But.set (S := (· = B)) W4 (p := ⟨B, 2, none⟩) rfl (.slice A9 M.length c9)))
          have HMM := Lib.hid hMM
          clear hset k1 k4 hd2 hMM hM hc0
          go_wp2_with fail
          refine HRs.out.mono ?_
          rintro e w2 ⟨rfl, hd3, hb3⟩
          have HD3 := Lib.hid hd3
          have HB6 := Lib.hid (HB5.out.trans hb3)
          clear hd3 hb3
          go_wp2
          go_ret
          have HOk4 := HOk3.out
          rw [HMM.out] at HOk4
          rw [HY.out, HMM.out]
          exact ⟨rfl, ⟨HOk4, _, _, _, _, _, _, _, HD3.out⟩, HB6.out⟩
end
end Go.Proofs.YtilkbfmaofmjoaaGreatDoor
namespace Go.Proofs.YtilkbfmaofmjoaaGreatDoor
open Go.RowKit Go.Rel
set_option linter.unusedSimpArgs false
set_option linter.unusedVariables false
def rdfE (B : Nat) (X : Nat) (x : Rw SvW) (m : Nat) (A2 : Option Addr) (L : Nat) (c2 : Nat) : Nat → Value
  | 0 | 8 | 9 | 13 | 14 | 15 => .pointer (some ⟨B, 0, none⟩)
  | 1 => .pointer (some ⟨X, 0, none⟩)
  | 2 => .int .i64 x.val.a.node
  | 3 => .pointer (some ⟨X, 1, none⟩)
  | 4 => .string x.val.a.id
  | 5 => .bool false
  | 6 | 7 | 17 | 18 => .bool true
  | 10 => .pointer (some ⟨B, 2, none⟩)
  | 11 => .slice A2 L c2
  | 12 => .int .i64 (L : Int)
  | 16 => .int .i64 (m : Int)
  | _ => undef
section
variable {base : Nat} {S : Nat → Prop} {w : World} {B : Nat} {A1 A2 A3 : Option Addr} {c1 c2 c3 m : Nat} {l2 : List (Rw SvW)} {d : Ro}
set_option maxHeartbeats 16000000 in
set_option maxRecDepth 100000 in
theorem rdservice_f (x : Rw SvW) (i : Nat) (hok : RoOk m d) (hx : SvIn w x) (ht : TgAt (fun k => k < base) w x.val) (hw : d.wrongS x.val.a = 0) (hb : d.has x.val.a.node x.val.a.id = false) (hlm : m ≤ l2.length) (h : RdIs base S w B A1 A2 A3 c1 c2 c3 m l2 d) (hi : i < 18446744073709551616) : Calls Tryz.prog 38 #[.pointer (some ⟨B, 0, none⟩), svV x, .int .u64 (i : Int)] w fun e w' => e = .returned (.int .i64 5) ∧ RdAt base (fun k => S k ∨ w.heap.size ≤ k) w' B m d ∧ But (· = B) w w' := by
  have KEEP : Hid (∀ w', Below w.heap.size w w' → RdIs base (fun k => S k ∨ w.heap.size ≤ k) w' B A1 A2 A3 c1 c2 c3 m l2 d ∧ But (· = B) w w') := Lib.hid fun w' hb => ⟨(h.below hb).narrow (fun _ _ z => .inl z) (fun k z => z.elim (h.lo k) (Nat.le_trans h.top)), But.of_below hb⟩
  have b0 := below1 w #[.int .i64 x.val.a.node, .string x.val.a.id, .string x.val.a.name, .slice x.val.A x.val.n x.val.c, .int .i64 x.val.a.port, .int .u64 (x.made : Int), .int .u64 (x.ix : Int)] TSv
  have k0 := heap_alloc_new w (.cells #[.int .i64 x.val.a.node, .string x.val.a.id, .string x.val.a.name, .slice x.val.A x.val.n x.val.c, .int .i64 x.val.a.port, .int .u64 (x.made : Int), .int .u64 (x.ix : Int)] TSv)
  obtain ⟨X, hX⟩ : ∃ X, w.heap.size = X := ⟨_, rfl⟩
  obtain ⟨W1, hW1⟩ : ∃ W1, w.alloc (.cells #[.int .i64 x.val.a.node, .string x.val.a.id, .string x.val.a.name, .slice x.val.A x.val.n x.val.c, .int .i64 x.val.a.port, .int .u64 (x.made : Int), .int .u64 (x.ix : Int)] TSv) = W1 := ⟨_, rfl⟩
  rw [hW1] at b0 k0
  rw [hX] at k0
  have HWr := Lib.hid (by
    have := rdwrongs_any x hok (hx.below b0) (h.below b0)
    unfold svV at this
    rw [hw] at this
    exact this : Calls Tryz.prog 83 #[.pointer (some ⟨B, 0, none⟩), .agg #[.int .i64 x.val.a.node, .string x.val.a.id, .string x.val.a.name, .slice x.val.A x.val.n x.val.c, .int .i64 x.val.a.port, .int .u64 (x.made : Int), .int .u64 (x.ix : Int)]] W1 fun e w' => e = .returned (.int .i64 0) ∧ Below W1.heap.size W1 w')
  have HT9 := Lib.hid (fun W (hW : Below w.heap.size w W) => rdhas_any x.val.a.node x.val.a.id hok (h.below hW))
  have HI9 := Lib.hid (fun W (hW : Below w.heap.size w W) => h.below hW)
  rw [hb] at HT9
  have hm1 := hok.most.2
  obtain ⟨L, hL⟩ : ∃ L, l2.length = L := ⟨_, rfl⟩
  have h64 : L ≤ 64 := by rw [← hL, h.len2]; exact Nat.le_trans hok.sok.len hok.sok.most.2
  rw [hL] at hlm
  have HD1 : Hid (decide (m ≤ L) = true) := Lib.hid (decide_eq_true (by omega))
  have HL := Lib.hid hL
  have HB1 := Lib.hid b0
  have HK1 := Lib.hid k0
  have HW1 := Lib.hid hW1
  have HX := Lib.hid hX
  have HOkR := Lib.hid hok
  unfold svV
  clear h hok hx ht hw hb hi b0 k0 hW1 hX hL hlm
  go_enter Tryz.func38, Tryz.ntmps38
  go_wp2_with fail
  rw [HW1.out, HX.out]
  refine HWr.out.mono ?_
  rintro e W2 ⟨rfl, hb⟩
  have HB2 := Lib.hid (HB1.out.trans (hb.mono HB1.out.size))
  have hx1 := block_lt HK1.out
  have hkx := (hb.block X hx1).trans HK1.out
  have HKx := Lib.hid hkx
  have HLx := Lib.hid (block_lt hkx)
  have HT := Lib.hid (fun W (hW : Below W2.heap.size W2 W) => HT9.out W (HB2.out.trans (hW.mono HB2.out.size)))
  have HIs := Lib.hid (fun W (hW : Below W2.heap.size W2 W) => HI9.out W (HB2.out.trans (hW.mono HB2.out.size)))
  clear hb hx1 hkx HWr HT9 HI9
  go_wp2_with fail
  have hre : ∀ w : World, ((fun a b : World => Below a.heap.size a b)) w w := (fun w => Below.refl _ w)
  have hrd : ∀ (f : Nat → Bool) w i, i ≠ 5 → (fun (_ : Nat → Bool) (w2 : World) => Below W2.heap.size W2 w2) f w → (fun (_ : Nat → Bool) (w2 : World) => Below W2.heap.size W2 w2) (Go.Rel.upd f i) w := (fun _ _ _ _ h => h)
  refine Go.Rel.wp_tab (by kernel_rfl) (by kernel_rfl) (fun (_ : Nat → Bool) (w2 : World) => Below W2.heap.size W2 w2) ((fun a b : World => Below a.heap.size a b)) hre ((fun _ _ _ h k => h.trans (k.mono h.size))) ((⟨rfl, rfl, rfl, Nat.le_refl _, fun _ _ => rfl⟩)) ⟨rfl, rfl, rfl, Nat.le_refl _, fun _ _ => rfl⟩ (rdfE B X x m A2 L c2) (fun _ _ _ => True) (fun i => ([] : List Nat).contains i) (fun i => ([2, 4, 5, 11, 16, 17] : List Nat).contains i) (by kernel_rfl) (fun _ _ _ _ h _ => h) 5 rfl hrd ?_ (Go.Rel.AllOf.get ?_) ?_
  · repeat (refine .cons (by first | exact Go.Rel.pure_sp rfl | exact Go.Rel.pure_yes (by kernel_rfl) (fun _ => by kernel_rfl) | exact Go.Rel.pure_no (by kernel_rfl) rfl) ?_)
    exact .nil
  · refine ⟨?_, ?_, ?_, ?_, ?_, ?_, trivial⟩
    · exact SpecOk.ld hrd hre (q := .pointer (some ⟨X, 0, none⟩)) (h := fun _ w' hI _ _ _ _ => by have cx := sv_blk ((hI.block X HLx.out).trans HKx.out); go_simp; rfl)
    · exact SpecOk.ld hrd hre (q := .pointer (some ⟨X, 1, none⟩)) (h := fun _ w' hI _ _ _ _ => by have cx := sv_blk ((hI.block X HLx.out).trans HKx.out); go_simp; rfl)
    · refine SpecOk.call 84 #[.pointer (some ⟨B, 0, none⟩), .int .i64 x.val.a.node, .string x.val.a.id] rfl (by kernel_rfl) (fun _ => by kernel_rfl) fun _ w' hI _ _ _ _ => ?_
      refine (HT.out w' hI).mono ?_
      rintro e2 w2 ⟨rfl, rfl⟩
      exact ⟨_, rfl, (Below.refl _ _), hI, rfl⟩
    · exact SpecOk.ld hrd hre (q := .pointer (some ⟨B, 2, none⟩)) (h := fun _ w' hI _ _ _ _ => by obtain ⟨hz1, hz8, hz2, -⟩ := (HIs.out _ hI).cells; rw [show (l2.length) = L from HL.out] at hz2; go_simp; rfl)
    · exact SpecOk.ld hrd hre (q := .pointer (some ⟨B, 0, none⟩)) (h := fun _ w' hI _ _ _ _ => by obtain ⟨hz1, hz8, hz2, -⟩ := (HIs.out _ hI).cells; rw [show (l2.length) = L from HL.out] at hz2; go_simp; rfl)
    · refine SpecOk.gen (fun e => [(30, .int .i64 (L : Int)), (34, .int .i64 (m : Int))]) rfl rfl (fun _ => by kernel_rfl) fun f w' e hI hf hdesc hanc hle hX K hK => ?_
      have d1 := HD1.out
      go_simp
      exact hK _ _ (hre _) (hrd f w' 17 (by decide) hI) rfl
  · intro f W3 e hall hJ hle hv
    have v9 := hv 18 rfl
    simp only [Go.Rel.finL, List.setIfInBounds_toArray, List.set_cons_succ, List.set_cons_zero]
    rw [show e 18 = .bool true from v9]
    have HB3 := Lib.hid (HB2.out.trans (hJ.mono HB2.out.size))
    have hx3 := (hJ.block X HLx.out).trans HKx.out
    clear hv hall hle hJ v9 HT HIs
    clear hx3
    go_wp2
    go_ret
    have z9 := KEEP.out _ HB3.out
    exact ⟨rfl, ⟨HOkR.out, _, _, _, _, _, _, _, z9.1⟩, z9.2⟩
end
end Go.Proofs.YtilkbfmaofmjoaaGreatDoor
namespace Go.Proofs.YtilkbfmaofmjoaaGreatDoor
open Go.RowKit Go.Rel
set_option linter.unusedSimpArgs false
set_option linter.unusedVariables false
section
variable {base : Nat} {S : Nat → Prop} {w : World} {B : Nat} {A1 A2 A3 : Option Addr} {c1 c2 c3 m : Nat} {l2 : List (Rw SvW)} {d : Ro}
set_option maxHeartbeats 16000000 in
set_option maxRecDepth 100000 in
theorem rdcheck_a (x : Rw CkA) (i : Nat) (hok : RoOk m d) (hx : CkIn x) (hw : d.wrongC x.val = 0) (hb : d.c.l.any (fun r : Rw CkA => idC x.val.node x.val.id r.val) = true) (h : RdIs base S w B A1 A2 A3 c1 c2 c3 m l2 d) (hi : i < 18446744073709551616) : Calls Tryz.prog 40 #[.pointer (some ⟨B, 0, none⟩), ckV x, .int .u64 (i : Int)] w fun e w' => e = .returned (.int .i64 0) ∧ RdAt base (fun k => S k ∨ w.heap.size ≤ k) w' B m (d.check x.val i).2 ∧ But (· = B) w w' := by
  have KEEP : Hid (∀ w', Below w.heap.size w w' → RdIs base (fun k => S k ∨ w.heap.size ≤ k) w' B A1 A2 A3 c1 c2 c3 m l2 d ∧ But (· = B) w w') := Lib.hid fun w' hb => ⟨(h.below hb).narrow (fun _ _ z => .inl z) (fun k z => z.elim (h.lo k) (Nat.le_trans h.top)), But.of_below hb⟩
  have b0 := below1 w #[.int .i64 x.val.node, .string x.val.id, .string x.val.svc, .string x.val.note, .int .i64 x.val.status, .int .u64 (x.made : Int), .int .u64 (x.ix : Int)] TCk
  have k0 := heap_alloc_new w (.cells #[.int .i64 x.val.node, .string x.val.id, .string x.val.svc, .string x.val.note, .int .i64 x.val.status, .int .u64 (x.made : Int), .int .u64 (x.ix : Int)] TCk)
  obtain ⟨X, hX⟩ : ∃ X, w.heap.size = X := ⟨_, rfl⟩
  obtain ⟨W1, hW1⟩ : ∃ W1, w.alloc (.cells #[.int .i64 x.val.node, .string x.val.id, .string x.val.svc, .string x.val.note, .int .i64 x.val.status, .int .u64 (x.made : Int), .int .u64 (x.ix : Int)] TCk) = W1 := ⟨_, rfl⟩
  rw [hW1] at b0 k0
  rw [hX] at k0
  have HWr := Lib.hid (by
    have := rdwrongc_any x hok hx (h.below b0)
    unfold ckV at this
    rw [hw] at this
    exact this : Calls Tryz.prog 85 #[.pointer (some ⟨B, 0, none⟩), .agg #[.int .i64 x.val.node, .string x.val.id, .string x.val.svc, .string x.val.note, .int .i64 x.val.status, .int .u64 (x.made : Int), .int .u64 (x.ix : Int)]] W1 fun e w' => e = .returned (.int .i64 0) ∧ Below W1.heap.size W1 w')
  have HI9 := Lib.hid (fun W (hW : Below w.heap.size w W) => h.below hW)
  have HAny := Lib.hid hb
  have hn := (wrongC_ok.1 hw).1.node
  obtain ⟨kk, hkk⟩ : ∃ kk, keyO x.val.node x.val.id = kk := ⟨_, rfl⟩
  obtain ⟨rm, hrm⟩ : ∃ rm, ((getR d.c.l kk).map (·.made)).getD i = rm := ⟨_, rfl⟩
  have hf : d.c.fullB kk = false := by
    unfold Tb.fullB
    have h1 : (getR d.c.l kk).isSome = true := by rw [← hkk, hok.id_iff]; exact hb
    cases e2 : getR d.c.l kk with
    | none => rw [e2] at h1; cases h1
    | some r => rfl
  have hok3 := hok.check (x := x.val) hi
  rw [Ro.check_is hkk hw hf hrm] at hok3 ⊢
  have HOk3 := Lib.hid hok3
  have h64 : d.c.l.length ≤ 64 := Nat.le_trans hok.cok.len hok.cok.most.2
  have HSame := Lib.hid (fun y (hy : y ∈ d.c.l) => hkk ▸ (hok.ck_same (node := x.val.node) (id := x.val.id) hy))
  have HLt2 := Lib.hid (fun y (hy : y ∈ d.c.l) => hkk ▸ (hok.ck_lt (id := x.val.id) hn hy))
  have HRise := Lib.hid hok.cok.rise
  have HRm := Lib.hid hrm
  have hm1 := hok.most.2
  obtain ⟨Y, hY⟩ : ∃ Y, w.heap.size = Y := ⟨_, rfl⟩
  have HY := Lib.hid hY
  have hBY : B < Y := by rw [← hY]; exact h.lt
  have HTop : Hid (base ≤ Y) := Lib.hid (by rw [← hY]; exact h.top)
  obtain ⟨S0, hS0⟩ : ∃ S0 : Nat → Prop, S0 = fun k => S k ∧ k < Y := ⟨_, rfl⟩
  have HH : Hid (RdIs base S0 w B A1 A2 A3 c1 c2 c3 m l2 d) := Lib.hid (h.narrow (fun k hk z => by rw [hS0]; exact ⟨z, by omega⟩) (fun k z => h.lo k (by rw [hS0] at z; exact z.1)))
  have HLt : Hid (∀ k, S0 k → k < Y) := Lib.hid (fun k z => by rw [hS0] at z; exact z.2)
  have HSs : Hid (∀ k, S0 k → S k) := Lib.hid (fun k z => by rw [hS0] at z; exact z.1)
  have HLo : Hid (∀ k, S k → base ≤ k) := Lib.hid h.lo
  obtain ⟨L, hL⟩ : ∃ L, d.c.l.length = L := ⟨_, rfl⟩
  rw [hL] at h64
  have HL := Lib.hid hL
  have HB1 := Lib.hid b0
  have HK1 := Lib.hid k0
  have HW1 := Lib.hid hW1
  have HX := Lib.hid hX
  have HOkR := Lib.hid hok
  have hYX : Y ≤ X := by omega
  unfold ckV
  clear h hok hx hw hb hi b0 k0 hW1 hX hL hn hkk hrm hf hok3 hS0 hY
  go_enter Tryz.func40, Tryz.ntmps40
  go_wp2_with fail
  rw [HW1.out, HX.out]
  refine HWr.out.mono ?_
  rintro e W2 ⟨rfl, hb⟩
  have HB2 := Lib.hid (HB1.out.trans (hb.mono HB1.out.size))
  have hx1 := block_lt HK1.out
  have hkx := (hb.block X hx1).trans HK1.out
  have HKx := Lib.hid hkx
  have HLx := Lib.hid (block_lt hkx)
  clear hb hx1 hkx HWr
  go_wp2
  go_loopw [8, 9] (fun bv iv wr => ∃ k : Nat, k ≤ L ∧ iv = .int .i64 (k : Int) ∧ bv = .bool ((d.c.l.take k).any (fun r : Rw CkA => idC x.val.node x.val.id r.val)) ∧ Hid (Below W2.heap.size W2 wr)) (fun _ iv _ => L - (intOf iv).toNat)
  case atStart => exact ⟨0, Nat.zero_le _, rfl, rfl, Lib.hid (Below.refl _ _)⟩
  case round =>
    obtain ⟨k, hk, rfl, rfl, hb⟩ := hrel
    have hbw : Below w.heap.size w wr := HB2.out.trans (hb.out.mono HB2.out.size)
    have hd := HI9.out wr hbw
    obtain ⟨hm0, -, -, hc0, -⟩ := hd.cells
    rw [HL.out] at hc0
    have hx3 := (hb.out.block X HLx.out).trans HKx.out
    have hxl := block_lt hx3
    have HX3 := Lib.hid hx3
    by_cases hlt : k < L
    · have hkl : k < d.c.l.length := by rw [HL.out]; exact hlt
      obtain ⟨b, off, rfl, hbl, hit⟩ := hd.r3.row.at_ hkl hkl
      have hst : (d.c.l.take (k + 1)).any (fun r : Rw CkA => idC x.val.node x.val.id r.val) = ((d.c.l.take k).any (fun r : Rw CkA => idC x.val.node x.val.id r.val) || (decide ((d.c.l[k]).val.node = x.val.node) && ((d.c.l[k]).val.id.toList == x.val.id.toList))) := by rw [List.take_succ_eq_append_getElem hkl, List.any_append, List.any_cons, List.any_nil, Bool.or_false]; rfl
      obtain ⟨y, hy⟩ : ∃ y, d.c.l[k] = y := ⟨_, rfl⟩
      rw [hy] at hst hit
      obtain ⟨pb, hpb⟩ : ∃ pb, (d.c.l.take k).any (fun r : Rw CkA => idC x.val.node x.val.id r.val) = pb := ⟨_, rfl⟩
      rw [hpb] at hst ⊢
      obtain ⟨e0, e1, e2, e3, e4, e5, e6⟩ := ck_cells hit
      obtain ⟨z0, z1, z2, z3, z4, z5, z6⟩ := ck_blk hx3
      have HB := hb
      clear hd hit hy hpb hx3 hbw
      cases pb with
      | true =>
        have HSt : Hid ((d.c.l.take (k + 1)).any (fun r : Rw CkA => idC x.val.node x.val.id r.val) = true) := Lib.hid (by rw [hst]; rfl)
        clear hst
        go_wp2
        go_quiet (fail)
        generalize hWq : wr.drewN _ = wq
        have HBq : Hid (Below W2.heap.size W2 wq) := Lib.hid (by rw [← hWq]; exact below_drewN HB.out _)
        clear hWq hm0 hc0 e0 e1 e2 e3 e4 e5 e6 z0 z1 z2 z3 z4 z5 z6 hxl hbl
        go_wp2
        go_roundw
        case rel => exact ⟨k + 1, by omega, by go_num, by rw [HSt.out], HBq⟩
        case measure => simp [intOf]; omega
      | false =>
        rw [Bool.false_or] at hst
        by_cases q0 : y.val.node = x.val.node
        · have q : (y.val.node == x.val.node) = true := beq_iff_eq.2 q0
          rw [decide_eq_true q0, Bool.true_and] at hst
          cases hz : (y.val.id.toList == x.val.id.toList) with
          | true =>
            rw [hz] at hst
            have HSt := Lib.hid hst
            clear hst q0
            go_wp2
            go_quiet (fail)
            generalize hWq : wr.drewN _ = wq
            have HBq : Hid (Below W2.heap.size W2 wq) := Lib.hid (by rw [← hWq]; exact below_drewN HB.out _)
            clear hWq hm0 hc0 e0 e1 e2 e3 e4 e5 e6 z0 z1 z2 z3 z4 z5 z6 hxl hbl
            go_wp2
            go_roundw
            case rel => exact ⟨k + 1, by omega, by go_num, by rw [HSt.out], HBq⟩
            case measure => simp [intOf]; omega
          | false =>
            rw [hz] at hst
            have HSt := Lib.hid hst
            clear hst q0
            go_wp2
            go_quiet (fail)
            generalize hWq : wr.drewN _ = wq
            have HBq : Hid (Below W2.heap.size W2 wq) := Lib.hid (by rw [← hWq]; exact below_drewN HB.out _)
            clear hWq hm0 hc0 e0 e1 e2 e3 e4 e5 e6 z0 z1 z2 z3 z4 z5 z6 hxl hbl
            go_wp2
            go_roundw
            case rel => exact ⟨k + 1, by omega, by go_num, by rw [HSt.out], HBq⟩
            case measure => simp [intOf]; omega
        · have q : (y.val.node == x.val.node) = false := beq_eq_false_iff_ne.2 q0
          rw [decide_eq_false q0, Bool.false_and] at hst
          have HSt := Lib.hid hst
          clear hst q0
          go_wp2
          go_quiet (fail)
          generalize hWq : wr.drewN _ = wq
          have HBq : Hid (Below W2.heap.size W2 wq) := Lib.hid (by rw [← hWq]; exact below_drewN HB.out _)
          clear hWq hm0 hc0 e0 e1 e2 e3 e4 e5 e6 z0 z1 z2 z3 z4 z5 z6 hxl hbl
          go_wp2
          go_roundw
          case rel => exact ⟨k + 1, by omega, by go_num, by rw [HSt.out], HBq⟩
          case measure => simp [intOf]; omega
    · have ht : d.c.l.take k = d.c.l := List.take_of_length_le (by rw [HL.out]; omega)
      rw [ht, HAny.out]
      have HBk := hb
      clear ht hd hx3 hbw
      go_wp2
      go_quiet (fail)
      generalize hWq : wr.drewN _ = wq
      have HBq : Hid (Below W2.heap.size W2 wq) := Lib.hid (by rw [← hWq]; exact below_drewN HBk.out _)
      clear hWq hm0 hc0 hxl
      have HB3 := Lib.hid (HB2.out.trans (HBq.out.mono HB2.out.size))
      have hx3 := (HBq.out.block X HLx.out).trans HKx.out
      have z5 := cellsN hx3 5 _ rfl
      have z6 := cellsN hx3 6 _ rfl
      have g5 := blk_froz hx3 5
      have g6 := blk_froz hx3 6
      have hxl := block_lt hx3
      have k4 : (wq.setCell ⟨X, 5, none⟩ (.int .u64 (i : Int))).heap[X]? = some (.cells #[.int .i64 x.val.node, .string x.val.id, .string x.val.svc, .string x.val.note, .int .i64 x.val.status, .int .u64 (i : Int), .int .u64 (x.ix : Int)] TCk (0, 0)) := block_set hx3 5 _
      have k5 : ((wq.setCell ⟨X, 5, none⟩ (.int .u64 (i : Int))).setCell ⟨X, 6, none⟩ (.int .u64 (i : Int))).heap[X]? = some (.cells #[.int .i64 x.val.node, .string x.val.id, .string x.val.svc, .string x.val.note, .int .i64 x.val.status, .int .u64 (i : Int), .int .u64 (i : Int)] TCk (0, 0)) := block_set k4 6 _
      have g6' := blk_froz k4 6
      obtain ⟨W5, hW5⟩ : ∃ W5, (wq.setCell ⟨X, 5, none⟩ (.int .u64 (i : Int))).setCell ⟨X, 6, none⟩ (.int .u64 (i : Int)) = W5 := ⟨_, rfl⟩
      have HB5 : Hid (Below Y w W5) := Lib.hid (by rw [← hW5, ← HY.out]; exact (HB3.out.setCell (by show _ ≤ X; rw [HY.out]; exact hYX) _).setCell (by show _ ≤ X; rw [HY.out]; exact hYX) _)
      rw [hW5] at k5
      have HX5 := Lib.hid k5
      have HS5 := Lib.hid (block_lt k5)
      have HW5 := Lib.hid hW5
      clear k4 k5 hW5 hx3
      go_wp2
      rw [HW5.out]
      clear z5 z6 g5 g6 g6' hxl HX3
      go_loopw [10, 11, 12] (fun vv bv iv wr => ∃ (k mk : Nat) (bb : Bool) (ls : List (Rw CkA)), k ≤ L ∧ iv = .int .i64 (k : Int) ∧ bv = .bool bb ∧ Hid (layR (⟨kk, x.val, rm, i⟩ : Rw CkA) false d.c.l = ls ++ layR (⟨kk, x.val, rm, i⟩ : Rw CkA) bb (d.c.l.drop k)) ∧ Hid (bb = false → mk = i ∧ ∀ y ∈ d.c.l.take k, y.key ≠ kk) ∧ Hid (ls.length ≤ 2 * k) ∧ Hid (wr.heap[X]? = some (.cells #[.int .i64 x.val.node, .string x.val.id, .string x.val.svc, .string x.val.note, .int .i64 x.val.status, .int .u64 (mk : Int), .int .u64 (i : Int)] TCk (0, 0))) ∧ Hid (ckRow wr (X + 1) vv ls) ∧ Hid (Below Y w wr) ∧ Hid (X < wr.heap.size)) (fun _ _ iv _ => L - (intOf iv).toNat)
      case atStart => exact ⟨0, i, false, [], Nat.zero_le _, rfl, rfl, Lib.hid rfl, Lib.hid (fun _ => ⟨rfl, fun y hy => by simp at hy⟩), Lib.hid (Nat.le_refl _), HX5, Lib.hid (rowK.nil _ _), HB5, HS5⟩
      case round =>
        obtain ⟨k, mk, bb, ls, hk, rfl, rfl, hinv, hmk, hls, hxb, hrow, hb, hxs⟩ := hrel
        have hxs9 := hxs.out
        have hls9 := hls.out
        by_cases hlt : k < L
        · have hkl : k < d.c.l.length := by rw [HL.out]; exact hlt
          have hd := HH.out.below (by rw [HY.out]; exact hb.out)
          obtain ⟨b, off, rfl, hbl, hit⟩ := hd.r3.row.at_ hkl hkl
          have hdr : d.c.l.drop k = d.c.l[k] :: d.c.l.drop (k + 1) := List.drop_eq_getElem_cons hkl
          have htk : d.c.l.take (k + 1) = d.c.l.take k ++ [d.c.l[k]] := List.take_succ_eq_append_getElem hkl
          have hmem : d.c.l[k] ∈ d.c.l := List.getElem_mem hkl
          have hgap := fun hg hn => made_gap (t := (⟨0, d.c.l, 0⟩ : Tb CkA)) (i := i) (k := kk) HRise.out hkl hg hn
          obtain ⟨y, hy⟩ : ∃ y, d.c.l[k] = y := ⟨_, rfl⟩
          rw [hy] at hdr htk hmem hit
          have hgap2 : ltT kk y.key = true → (∀ z ∈ d.c.l.take k, z.key ≠ kk) → ((getR d.c.l kk).map (·.made)).getD i = i := fun h1 h2 => hgap (by show ltT kk (d.c.l[k]).key = true; rw [hy]; exact h1) h2
          have hc0 := hd.cells.2.2.2.1
          rw [show (d.c.l.length) = L from HL.out] at hc0
          have hsm := HSame.out y hmem
          have hlt2 := HLt2.out y hmem
          have hms : y.key = kk → y.made = rm := fun e => by rw [← HRm.out]; exact (made_same (t := (⟨0, d.c.l, 0⟩ : Tb CkA)) HRise.out hmem e).symm
          have HD := Lib.hid hdr
          have HTk := Lib.hid htk
          obtain ⟨e0, e1, e2, e3, e4, e5, e6⟩ := ck_cells hit
          clear hit hd hdr htk hy hmem hgap
          by_cases q0 : y.val.node = x.val.node
          · have q : (y.val.node == x.val.node) = true := beq_iff_eq.2 q0
            have q3 : ¬ x.val.node < y.val.node := by omega
            rw [decide_eq_true q0, Bool.true_and] at hsm
            rw [decide_eq_false q3, decide_eq_true q0.symm, Bool.false_or, Bool.true_and] at hlt2
            cases hz : (y.val.id.toList == x.val.id.toList) with
            | true =>
              rw [hz] at hsm
              have hxm := hms (text_same.1 hsm)
              have HI1 : Hid (layR (⟨kk, x.val, rm, i⟩ : Rw CkA) false d.c.l = (ls ++ [(⟨kk, x.val, rm, i⟩ : Rw CkA)]) ++ layR (⟨kk, x.val, rm, i⟩ : Rw CkA) true (d.c.l.drop (k + 1))) := Lib.hid (by
                rw [hinv.out, HD.out, layR, if_pos hsm, List.append_assoc]
                rfl)
              rw [hxm] at e5
              have z0 := cellsN hxb.out 0 _ rfl
              have z1 := cellsN hxb.out 1 _ rfl
              have z2 := cellsN hxb.out 2 _ rfl
              have z3 := cellsN hxb.out 3 _ rfl
              have z4 := cellsN hxb.out 4 _ rfl
              have z5 := cellsN hxb.out 5 _ rfl
              have z6 := cellsN hxb.out 6 _ rfl
              have g5 := blk_froz hxb.out 5
              have k1 : (wr.setCell ⟨X, 5, none⟩ (.int .u64 (rm : Int))).heap[X]? = some (.cells #[.int .i64 x.val.node, .string x.val.id, .string x.val.svc, .string x.val.note, .int .i64 x.val.status, .int .u64 (rm : Int), .int .u64 (i : Int)] TCk (0, 0)) := block_set hxb.out 5 _
              have s1 : (wr.setCell ⟨X, 5, none⟩ (.int .u64 (rm : Int))).heap.size = wr.heap.size := by simp [World.setCell]
              have b1 := below1 (wr.setCell ⟨X, 5, none⟩ (.int .u64 (rm : Int))) #[.int .i64 y.val.node, .string y.val.id, .string y.val.svc, .string y.val.note, .int .i64 y.val.status, .int .u64 (rm : Int), .int .u64 (y.ix : Int)] TCk
              have kA := (b1.block X (by rw [s1]; exact hxs9)).trans k1
              have sA : ((wr.setCell ⟨X, 5, none⟩ (.int .u64 (rm : Int))).alloc (.cells #[.int .i64 y.val.node, .string y.val.id, .string y.val.svc, .string y.val.note, .int .i64 y.val.status, .int .u64 (rm : Int), .int .u64 (y.ix : Int)] TCk)).heap.size = wr.heap.size + 1 := by simp [World.setCell]
              have hB1 := hb.out.setCell (p := ⟨X, 5, none⟩) (by exact hYX) (.int .u64 (rm : Int))
              have hBA : Hid (Below Y w ((wr.setCell ⟨X, 5, none⟩ (.int .u64 (rm : Int))).alloc (.cells #[.int .i64 y.val.node, .string y.val.id, .string y.val.svc, .string y.val.note, .int .i64 y.val.status, .int .u64 (rm : Int), .int .u64 (y.ix : Int)] TCk))) := Lib.hid (hB1.trans (b1.mono (by rw [s1]; have := hb.out.size; have := HY.out; omega)))
              have hRA : Hid (ckRow ((wr.setCell ⟨X, 5, none⟩ (.int .u64 (rm : Int))).alloc (.cells #[.int .i64 y.val.node, .string y.val.id, .string y.val.svc, .string y.val.note, .int .i64 y.val.status, .int .u64 (rm : Int), .int .u64 (y.ix : Int)] TCk)) (X + 1) _ ls) := Lib.hid ((hrow.out.but (But.set (S := (· = X)) wr (p := ⟨X, 5, none⟩) rfl (.int .u64 (rm : Int))) fun j e z => by have := (hrow.out.from j e).1; have z2 : j = X := z; omega).below b1)
              have HKA := Lib.hid kA
              clear hsm hlt2 hms hgap2 kA hxm b1 k1 s1 hB1 q0
              go_wp2_with (at_builtin; refine wpList_append_ck rfl (.tmp 105) (.tmp 107) rfl (X + 1) _ (ls) rfl ?qa (wr.heap.size + 1) (⟨kk, x.val, rm, i⟩ : Rw CkA) rfl ?qb ?qd ?qc ?_)
              case qa => exact hRA.out.below ((Below.refl _ _).alloc (Nat.le_refl _) _)
              case qb => exact (by have z9 := ck_new ((wr.setCell ⟨X, 5, none⟩ (.int .u64 (rm : Int))).alloc (.cells #[.int .i64 y.val.node, .string y.val.id, .string y.val.svc, .string y.val.note, .int .i64 y.val.status, .int .u64 (rm : Int), .int .u64 (y.ix : Int)] TCk)) (⟨kk, x.val, rm, i⟩ : Rw CkA) TCk; rw [sA] at z9; exact z9)
              case qd => omega
              case qc => first | (rw [sA]; omega) | ((try simp); omega)
              refine Lib.hid ?_
              intro vW4 W4 hown hgr
              have hbx := ckRow.snoc hRA.out (Below.refl _ _) (by first | (rw [sA]; omega) | ((try simp); omega)) hgr
              have HB4 := Lib.hid (hBA.out.trans (hbx.mono (by omega)))
              have HR4 := Lib.hid hown
              have HX4 : Hid (W4.heap[X]? = some (.cells #[.int .i64 x.val.node, .string x.val.id, .string x.val.svc, .string x.val.note, .int .i64 x.val.status, .int .u64 (rm : Int), .int .u64 (i : Int)] TCk (0, 0))) := Lib.hid ((hbx.block X (by omega)).trans HKA.out)
              have HZ4 : Hid (X < W4.heap.size) := Lib.hid (by have := hbx.size; rw [sA] at this; omega)
              clear hown hgr hbx hc0 e0 e1 e2 e3 e4 e5 e6 z0 z1 z2 z3 z4 z5 z6 g5 sA
              go_wp2
              go_roundw
              case rel => exact ⟨k + 1, rm, true, ls ++ [(⟨kk, x.val, rm, i⟩ : Rw CkA)], by omega, by go_num, rfl, HI1, Lib.hid (fun e => by cases e), Lib.hid (by simp; omega), HX4, HR4, HB4, HZ4⟩
              case measure => simp [intOf]; omega
            | false =>
              rw [hz] at hsm
              have hne : y.key ≠ kk := text_other.1 hsm
              have hmkN : bb = false → mk = i ∧ ∀ z ∈ d.c.l.take (k + 1), z.key ≠ kk := fun e => ⟨(hmk.out e).1, fun z hz => by
                rw [HTk.out, List.mem_append, List.mem_singleton] at hz
                rcases hz with hz | rfl
                · exact (hmk.out e).2 z hz
                · exact hne⟩
              cases bb with
              | true =>
                have HI1 : Hid (layR (⟨kk, x.val, rm, i⟩ : Rw CkA) false d.c.l = (ls ++ [y]) ++ layR (⟨kk, x.val, rm, i⟩ : Rw CkA) true (d.c.l.drop (k + 1))) := Lib.hid (by
                  rw [hinv.out, HD.out, layR, if_neg (by rw [hsm]; simp), if_neg (by simp), List.append_assoc]
                  rfl)
                have b1 := below1 wr #[.int .i64 y.val.node, .string y.val.id, .string y.val.svc, .string y.val.note, .int .i64 y.val.status, .int .u64 (y.made : Int), .int .u64 (y.ix : Int)] TCk
                have k1 := (b1.block X hxs9).trans hxb.out
                have sA : (wr.alloc (.cells #[.int .i64 y.val.node, .string y.val.id, .string y.val.svc, .string y.val.note, .int .i64 y.val.status, .int .u64 (y.made : Int), .int .u64 (y.ix : Int)] TCk)).heap.size = wr.heap.size + 1 := by simp
                have hBA : Hid (Below Y w (wr.alloc (.cells #[.int .i64 y.val.node, .string y.val.id, .string y.val.svc, .string y.val.note, .int .i64 y.val.status, .int .u64 (y.made : Int), .int .u64 (y.ix : Int)] TCk))) := Lib.hid (hb.out.trans (b1.mono (by have := hb.out.size; have := HY.out; omega)))
                have hRA : Hid (ckRow (wr.alloc (.cells #[.int .i64 y.val.node, .string y.val.id, .string y.val.svc, .string y.val.note, .int .i64 y.val.status, .int .u64 (y.made : Int), .int .u64 (y.ix : Int)] TCk)) (X + 1) _ ls) := Lib.hid (hrow.out.below b1)
                have HKA := Lib.hid k1
                have z0 := cellsN hxb.out 0 _ rfl
                have z1 := cellsN hxb.out 1 _ rfl
                have z2 := cellsN hxb.out 2 _ rfl
                have z3 := cellsN hxb.out 3 _ rfl
                have z4 := cellsN hxb.out 4 _ rfl
                have z5 := cellsN hxb.out 5 _ rfl
                have z6 := cellsN hxb.out 6 _ rfl
                clear hsm hlt2 hms hgap2 b1 k1 hmkN hne q0
                go_wp2_with (at_builtin; refine wpList_append_ck rfl (.tmp 136) (.tmp 138) rfl (X + 1) _ (ls) rfl ?qa (wr.heap.size + 1) y rfl ?qb ?qd ?qc ?_)
                case qa => exact hRA.out.below ((Below.refl _ _).alloc (Nat.le_refl _) _)
                case qb => exact (by have z9 := ck_new (wr.alloc (.cells #[.int .i64 y.val.node, .string y.val.id, .string y.val.svc, .string y.val.note, .int .i64 y.val.status, .int .u64 (y.made : Int), .int .u64 (y.ix : Int)] TCk)) y TCk; rw [sA] at z9; exact z9)
                case qd => omega
                case qc => first | (rw [sA]; omega) | ((try simp); omega)
                refine Lib.hid ?_
                intro vW4 W4 hown hgr
                have hbx := ckRow.snoc hRA.out (Below.refl _ _) (by first | (rw [sA]; omega) | ((try simp); omega)) hgr
                have HB4 := Lib.hid (hBA.out.trans (hbx.mono (by omega)))
                have HR4 := Lib.hid hown
                have HX4 : Hid (W4.heap[X]? = some (.cells #[.int .i64 x.val.node, .string x.val.id, .string x.val.svc, .string x.val.note, .int .i64 x.val.status, .int .u64 (mk : Int), .int .u64 (i : Int)] TCk (0, 0))) := Lib.hid ((hbx.block X (by omega)).trans HKA.out)
                have HZ4 : Hid (X < W4.heap.size) := Lib.hid (by have := hbx.size; rw [sA] at this; omega)
                clear hown hgr hbx hc0 e0 e1 e2 e3 e4 e5 e6 z0 z1 z2 z3 z4 z5 z6 sA
                go_wp2
                go_roundw
                case rel => exact ⟨k + 1, mk, true, ls ++ [y], by omega, by go_num, rfl, HI1, Lib.hid (fun e => by cases e), Lib.hid (by simp; omega), HX4, HR4, HB4, HZ4⟩
                case measure => simp [intOf]; omega
              | false =>
                cases hg : ltT x.val.id y.val.id with
                | true =>
                  rw [hg] at hlt2
                  have g : Op.bytesLess (y.val.id).toList (x.val.id).toList = false := less_other _ _ true hg hz
                  clear hg
                  have hrm2 : mk = rm := by rw [(hmkN (by first | rfl | trivial)).1, ← HRm.out]; exact (hgap2 hlt2 (hmk.out (by first | rfl | trivial)).2).symm
                  have HI1 : Hid (layR (⟨kk, x.val, rm, i⟩ : Rw CkA) false d.c.l = (ls ++ [(⟨kk, x.val, rm, i⟩ : Rw CkA), y]) ++ layR (⟨kk, x.val, rm, i⟩ : Rw CkA) true (d.c.l.drop (k + 1))) := Lib.hid (by
                    rw [hinv.out, HD.out, layR, if_neg (by rw [hsm]; simp), if_pos (by rw [show ltT kk y.key = true from hlt2]; rfl)]
                    simp)
                  have hxb2 := hxb.out
                  rw [hrm2] at hxb2
                  have z0 := cellsN hxb2 0 _ rfl
                  have z1 := cellsN hxb2 1 _ rfl
                  have z2 := cellsN hxb2 2 _ rfl
                  have z3 := cellsN hxb2 3 _ rfl
                  have z4 := cellsN hxb2 4 _ rfl
                  have z5 := cellsN hxb2 5 _ rfl
                  have z6 := cellsN hxb2 6 _ rfl
                  have b1 := below1 wr #[.int .i64 y.val.node, .string y.val.id, .string y.val.svc, .string y.val.note, .int .i64 y.val.status, .int .u64 (y.made : Int), .int .u64 (y.ix : Int)] TCk
                  have k1 := (b1.block X hxs9).trans hxb2
                  have kR := heap_alloc_new wr (.cells #[.int .i64 y.val.node, .string y.val.id, .string y.val.svc, .string y.val.note, .int .i64 y.val.status, .int .u64 (y.made : Int), .int .u64 (y.ix : Int)] TCk)
                  have sA : (wr.alloc (.cells #[.int .i64 y.val.node, .string y.val.id, .string y.val.svc, .string y.val.note, .int .i64 y.val.status, .int .u64 (y.made : Int), .int .u64 (y.ix : Int)] TCk)).heap.size = wr.heap.size + 1 := by simp
                  have hBA : Hid (Below Y w (wr.alloc (.cells #[.int .i64 y.val.node, .string y.val.id, .string y.val.svc, .string y.val.note, .int .i64 y.val.status, .int .u64 (y.made : Int), .int .u64 (y.ix : Int)] TCk))) := Lib.hid (hb.out.trans (b1.mono (by have := hb.out.size; have := HY.out; omega)))
                  have hRA : Hid (ckRow (wr.alloc (.cells #[.int .i64 y.val.node, .string y.val.id, .string y.val.svc, .string y.val.note, .int .i64 y.val.status, .int .u64 (y.made : Int), .int .u64 (y.ix : Int)] TCk)) (X + 1) _ ls) := Lib.hid (hrow.out.below b1)
                  have hfr := Lib.hid (fun j e => (hrow.out.from j e).2)
                  have HKA := Lib.hid k1
                  have HKR := Lib.hid kR
                  clear hsm hlt2 hms hgap2 b1 k1 kR hmkN hne hxb2 q0
                  go_wp2_with (at_builtin; refine wpList_append_ck rfl (.tmp 132) (.tmp 134) rfl (X + 1) _ (ls) rfl ?qa (wr.heap.size + 1) (⟨kk, x.val, rm, i⟩ : Rw CkA) rfl ?qb ?qd ?qc ?_)
                  case qa => exact hRA.out.below ((Below.refl _ _).alloc (Nat.le_refl _) _)
                  case qb => exact (by have z9 := ck_new (wr.alloc (.cells #[.int .i64 y.val.node, .string y.val.id, .string y.val.svc, .string y.val.note, .int .i64 y.val.status, .int .u64 (y.made : Int), .int .u64 (y.ix : Int)] TCk)) (⟨kk, x.val, rm, i⟩ : Rw CkA) TCk; rw [sA] at z9; exact z9)
                  case qd => omega
                  case qc => first | (rw [sA]; omega) | ((try simp); omega)
                  refine Lib.hid ?_
                  intro vW4 W4 hown hgr
                  have hbx := ckRow.snoc hRA.out (Below.refl _ _) (by first | (rw [sA]; omega) | ((try simp); omega)) hgr
                  have HB4 := Lib.hid (hBA.out.trans (hbx.mono (by omega)))
                  have HR4 := Lib.hid hown
                  have hx4 : W4.heap[X]? = some (.cells #[.int .i64 x.val.node, .string x.val.id, .string x.val.svc, .string x.val.note, .int .i64 x.val.status, .int .u64 (rm : Int), .int .u64 (i : Int)] TCk (0, 0)) := (hbx.block X (by omega)).trans HKA.out
                  have hz4 : X + 1 < W4.heap.size := by have := hbx.size; rw [sA] at this; omega
                  have hbu : But (fun k => k ≠ wr.heap.size) (wr.alloc (.cells #[.int .i64 y.val.node, .string y.val.id, .string y.val.svc, .string y.val.note, .int .i64 y.val.status, .int .u64 (y.made : Int), .int .u64 (y.ix : Int)] TCk)) W4 := (But.of_below ((Below.refl _ (wr.alloc (.cells #[.int .i64 y.val.node, .string y.val.id, .string y.val.svc, .string y.val.note, .int .i64 y.val.status, .int .u64 (y.made : Int), .int .u64 (y.ix : Int)] TCk))).alloc (Nat.le_refl _) _)).trans (But.of_grown (S := fun k => k ≠ wr.heap.size) hgr fun r e _ => by have := hfr.out r e; omega)
                  have kR4 : W4.heap[wr.heap.size]? = some (.cells #[.int .i64 y.val.node, .string y.val.id, .string y.val.svc, .string y.val.note, .int .i64 y.val.status, .int .u64 (y.made : Int), .int .u64 (y.ix : Int)] TCk (0, 0)) := (hbu.block wr.heap.size (by rw [sA]; omega) (by simp)).trans HKR.out
                  obtain ⟨f0, f1, f2, f3, f4, f5, f6⟩ := ck_blk kR4
                  have HX4 := Lib.hid hx4
                  clear hown hgr hbx hx4 hbu kR4 hc0 e0 e1 e2 e3 e4 e5 e6 z0 z1 z2 z3 z4 z5 z6 sA
                  go_wp2_with (at_builtin; refine wpList_append_ck rfl (.tmp 136) (.tmp 138) rfl (X + 1) _ (ls ++ [(⟨kk, x.val, rm, i⟩ : Rw CkA)]) rfl ?qa (W4.heap.size) y rfl ?qb ?qd ?qc ?_)
                  case qa => exact HR4.out.below ((Below.refl _ _).alloc (Nat.le_refl _) _)
                  case qb => exact (by have z9 := ck_new (W4) y TCk; exact z9)
                  case qd => simp; omega
                  case qc => first | (rw [hzz]; omega) | ((try simp); omega)
                  refine Lib.hid ?_
                  intro vW5 W5 hown hgr
                  have hbx := ckRow.snoc HR4.out (Below.refl _ _) (by first | (rw [hzz]; omega) | ((try simp); omega)) hgr
                  have HB5 := Lib.hid (HB4.out.trans (hbx.mono (by omega)))
                  have HR5 := Lib.hid hown
                  have HX5 : Hid (W5.heap[X]? = some (.cells #[.int .i64 x.val.node, .string x.val.id, .string x.val.svc, .string x.val.note, .int .i64 x.val.status, .int .u64 (rm : Int), .int .u64 (i : Int)] TCk (0, 0))) := Lib.hid ((hbx.block X (by omega)).trans HX4.out)
                  have HZ5 : Hid (X < W5.heap.size) := Lib.hid (by have := hbx.size; omega)
                  clear hown hgr hbx f0 f1 f2 f3 f4 f5 f6
                  go_wp2
                  go_roundw
                  case rel => exact ⟨k + 1, rm, true, ls ++ [(⟨kk, x.val, rm, i⟩ : Rw CkA), y], by omega, by go_num, rfl, HI1, Lib.hid (fun e => by cases e), Lib.hid (by simp; omega), HX5, HR5, HB5, HZ5⟩
                  case measure => simp [intOf]; omega
                | false =>
                  rw [hg] at hlt2
                  have g : Op.bytesLess (y.val.id).toList (x.val.id).toList = true := less_other _ _ false hg hz
                  clear hg
                  have HI1 : Hid (layR (⟨kk, x.val, rm, i⟩ : Rw CkA) false d.c.l = (ls ++ [y]) ++ layR (⟨kk, x.val, rm, i⟩ : Rw CkA) false (d.c.l.drop (k + 1))) := Lib.hid (by
                    rw [hinv.out, HD.out, layR, if_neg (by rw [hsm]; simp), if_neg (by rw [show ltT kk y.key = false from hlt2]; simp), List.append_assoc]
                    rfl)
                  have HMN : Hid (mk = i ∧ ∀ y ∈ d.c.l.take (k + 1), y.key ≠ kk) := Lib.hid (hmkN (by first | rfl | trivial))
                  have b1 := below1 wr #[.int .i64 y.val.node, .string y.val.id, .string y.val.svc, .string y.val.note, .int .i64 y.val.status, .int .u64 (y.made : Int), .int .u64 (y.ix : Int)] TCk
                  have k1 := (b1.block X hxs9).trans hxb.out
                  have sA : (wr.alloc (.cells #[.int .i64 y.val.node, .string y.val.id, .string y.val.svc, .string y.val.note, .int .i64 y.val.status, .int .u64 (y.made : Int), .int .u64 (y.ix : Int)] TCk)).heap.size = wr.heap.size + 1 := by simp
                  have hBA : Hid (Below Y w (wr.alloc (.cells #[.int .i64 y.val.node, .string y.val.id, .string y.val.svc, .string y.val.note, .int .i64 y.val.status, .int .u64 (y.made : Int), .int .u64 (y.ix : Int)] TCk))) := Lib.hid (hb.out.trans (b1.mono (by have := hb.out.size; have := HY.out; omega)))
                  have hRA : Hid (ckRow (wr.alloc (.cells #[.int .i64 y.val.node, .string y.val.id, .string y.val.svc, .string y.val.note, .int .i64 y.val.status, .int .u64 (y.made : Int), .int .u64 (y.ix : Int)] TCk)) (X + 1) _ ls) := Lib.hid (hrow.out.below b1)
                  have HKA := Lib.hid k1
                  have z0 := cellsN hxb.out 0 _ rfl
                  have z1 := cellsN hxb.out 1 _ rfl
                  have z2 := cellsN hxb.out 2 _ rfl
                  have z3 := cellsN hxb.out 3 _ rfl
                  have z4 := cellsN hxb.out 4 _ rfl
                  have z5 := cellsN hxb.out 5 _ rfl
                  have z6 := cellsN hxb.out 6 _ rfl
                  clear hsm hlt2 hms hgap2 b1 k1 hmkN hne q0
                  go_wp2_with (at_builtin; refine wpList_append_ck rfl (.tmp 136) (.tmp 138) rfl (X + 1) _ (ls) rfl ?qa (wr.heap.size + 1) y rfl ?qb ?qd ?qc ?_)
                  case qa => exact hRA.out.below ((Below.refl _ _).alloc (Nat.le_refl _) _)
                  case qb => exact (by have z9 := ck_new (wr.alloc (.cells #[.int .i64 y.val.node, .string y.val.id, .string y.val.svc, .string y.val.note, .int .i64 y.val.status, .int .u64 (y.made : Int), .int .u64 (y.ix : Int)] TCk)) y TCk; rw [sA] at z9; exact z9)
                  case qd => omega
                  case qc => first | (rw [sA]; omega) | ((try simp); omega)
                  refine Lib.hid ?_
                  intro vW4 W4 hown hgr
                  have hbx := ckRow.snoc hRA.out (Below.refl _ _) (by first | (rw [sA]; omega) | ((try simp); omega)) hgr
                  have HB4 := Lib.hid (hBA.out.trans (hbx.mono (by omega)))
                  have HR4 := Lib.hid hown
                  have HX4 : Hid (W4.heap[X]? = some (.cells #[.int .i64 x.val.node, .string x.val.id, .string x.val.svc, .string x.val.note, .int .i64 x.val.status, .int .u64 (mk : Int), .int .u64 (i : Int)] TCk (0, 0))) := Lib.hid ((hbx.block X (by omega)).trans HKA.out)
                  have HZ4 : Hid (X < W4.heap.size) := Lib.hid (by have := hbx.size; rw [sA] at this; omega)
                  clear hown hgr hbx hc0 e0 e1 e2 e3 e4 e5 e6 z0 z1 z2 z3 z4 z5 z6 sA
                  go_wp2
                  go_roundw
                  case rel => exact ⟨k + 1, mk, false, ls ++ [y], by omega, by go_num, rfl, HI1, Lib.hid (fun _ => HMN.out), Lib.hid (by simp; omega), HX4, HR4, HB4, HZ4⟩
                  case measure => simp [intOf]; omega
          · have q : (y.val.node == x.val.node) = false := beq_eq_false_iff_ne.2 q0
            rw [decide_eq_false q0, Bool.false_and] at hsm
            rw [decide_eq_false (show ¬ x.val.node = y.val.node from fun e => q0 e.symm), Bool.false_and, Bool.or_false] at hlt2
            have hne : y.key ≠ kk := text_other.1 hsm
            have hmkN : bb = false → mk = i ∧ ∀ z ∈ d.c.l.take (k + 1), z.key ≠ kk := fun e => ⟨(hmk.out e).1, fun z hz => by
              rw [HTk.out, List.mem_append, List.mem_singleton] at hz
              rcases hz with hz | rfl
              · exact (hmk.out e).2 z hz
              · exact hne⟩
            cases bb with
            | true =>
              have HI1 : Hid (layR (⟨kk, x.val, rm, i⟩ : Rw CkA) false d.c.l = (ls ++ [y]) ++ layR (⟨kk, x.val, rm, i⟩ : Rw CkA) true (d.c.l.drop (k + 1))) := Lib.hid (by
                rw [hinv.out, HD.out, layR, if_neg (by rw [hsm]; simp), if_neg (by simp), List.append_assoc]
                rfl)
              have b1 := below1 wr #[.int .i64 y.val.node, .string y.val.id, .string y.val.svc, .string y.val.note, .int .i64 y.val.status, .int .u64 (y.made : Int), .int .u64 (y.ix : Int)] TCk
              have k1 := (b1.block X hxs9).trans hxb.out
              have sA : (wr.alloc (.cells #[.int .i64 y.val.node, .string y.val.id, .string y.val.svc, .string y.val.note, .int .i64 y.val.status, .int .u64 (y.made : Int), .int .u64 (y.ix : Int)] TCk)).heap.size = wr.heap.size + 1 := by simp
              have hBA : Hid (Below Y w (wr.alloc (.cells #[.int .i64 y.val.node, .string y.val.id, .string y.val.svc, .string y.val.note, .int .i64 y.val.status, .int .u64 (y.made : Int), .int .u64 (y.ix : Int)] TCk))) := Lib.hid (hb.out.trans (b1.mono (by have := hb.out.size; have := HY.out; omega)))
              have hRA : Hid (ckRow (wr.alloc (.cells #[.int .i64 y.val.node, .string y.val.id, .string y.val.svc, .string y.val.note, .int .i64 y.val.status, .int .u64 (y.made : Int), .int .u64 (y.ix : Int)] TCk)) (X + 1) _ ls) := Lib.hid (hrow.out.below b1)
              have HKA := Lib.hid k1
              have z0 := cellsN hxb.out 0 _ rfl
              have z1 := cellsN hxb.out 1 _ rfl
              have z2 := cellsN hxb.out 2 _ rfl
              have z3 := cellsN hxb.out 3 _ rfl
              have z4 := cellsN hxb.out 4 _ rfl
              have z5 := cellsN hxb.out 5 _ rfl
              have z6 := cellsN hxb.out 6 _ rfl
              clear hsm hlt2 hms hgap2 b1 k1 hmkN hne q0
              go_wp2_with (at_builtin; refine wpList_append_ck rfl (.tmp 136) (.tmp 138) rfl (X + 1) _ (ls) rfl ?qa (wr.heap.size + 1) y rfl ?qb ?qd ?qc ?_)
              case qa => exact hRA.out.below ((Below.refl _ _).alloc (Nat.le_refl _) _)
              case qb => exact (by have z9 := ck_new (wr.alloc (.cells #[.int .i64 y.val.node, .string y.val.id, .string y.val.svc, .string y.val.note, .int .i64 y.val.status, .int .u64 (y.made : Int), .int .u64 (y.ix : Int)] TCk)) y TCk; rw [sA] at z9; exact z9)
              case qd => omega
              case qc => first | (rw [sA]; omega) | ((try simp); omega)
              refine Lib.hid ?_
              intro vW4 W4 hown hgr
              have hbx := ckRow.snoc hRA.out (Below.refl _ _) (by first | (rw [sA]; omega) | ((try simp); omega)) hgr
              have HB4 := Lib.hid (hBA.out.trans (hbx.mono (by omega)))
              have HR4 := Lib.hid hown
              have HX4 : Hid (W4.heap[X]? = some (.cells #[.int .i64 x.val.node, .string x.val.id, .string x.val.svc, .string x.val.note, .int .i64 x.val.status, .int .u64 (mk : Int), .int .u64 (i : Int)] TCk (0, 0))) := Lib.hid ((hbx.block X (by omega)).trans HKA.out)
              have HZ4 : Hid (X < W4.heap.size) := Lib.hid (by have := hbx.size; rw [sA] at this; omega)
              clear hown hgr hbx hc0 e0 e1 e2 e3 e4 e5 e6 z0 z1 z2 z3 z4 z5 z6 sA
              go_wp2
              go_roundw
              case rel => exact ⟨k + 1, mk, true, ls ++ [y], by omega, by go_num, rfl, HI1, Lib.hid (fun e => by cases e), Lib.hid (by simp; omega), HX4, HR4, HB4, HZ4⟩
              case measure => simp [intOf]; omega
            | false =>
              by_cases q3 : x.val.node < y.val.node
              · rw [decide_eq_true q3] at hlt2
                have hrm2 : mk = rm := by rw [(hmkN (by first | rfl | trivial)).1, ← HRm.out]; exact (hgap2 hlt2 (hmk.out (by first | rfl | trivial)).2).symm
                have HI1 : Hid (layR (⟨kk, x.val, rm, i⟩ : Rw CkA) false d.c.l = (ls ++ [(⟨kk, x.val, rm, i⟩ : Rw CkA), y]) ++ layR (⟨kk, x.val, rm, i⟩ : Rw CkA) true (d.c.l.drop (k + 1))) := Lib.hid (by
                  rw [hinv.out, HD.out, layR, if_neg (by rw [hsm]; simp), if_pos (by rw [show ltT kk y.key = true from hlt2]; rfl)]
                  simp)
                have hxb2 := hxb.out
                rw [hrm2] at hxb2
                have z0 := cellsN hxb2 0 _ rfl
                have z1 := cellsN hxb2 1 _ rfl
                have z2 := cellsN hxb2 2 _ rfl
                have z3 := cellsN hxb2 3 _ rfl
                have z4 := cellsN hxb2 4 _ rfl
                have z5 := cellsN hxb2 5 _ rfl
                have z6 := cellsN hxb2 6 _ rfl
                have b1 := below1 wr #[.int .i64 y.val.node, .string y.val.id, .string y.val.svc, .string y.val.note, .int .i64 y.val.status, .int .u64 (y.made : Int), .int .u64 (y.ix : Int)] TCk
                have k1 := (b1.block X hxs9).trans hxb2
                have kR := heap_alloc_new wr (.cells #[.int .i64 y.val.node, .string y.val.id, .string y.val.svc, .string y.val.note, .int .i64 y.val.status, .int .u64 (y.made : Int), .int .u64 (y.ix : Int)] TCk)
                have sA : (wr.alloc (.cells #[.int .i64 y.val.node, .string y.val.id, .string y.val.svc, .string y.val.note, .int .i64 y.val.status, .int .u64 (y.made : Int), .int .u64 (y.ix : Int)] TCk)).heap.size = wr.heap.size + 1 := by simp
                have hBA : Hid (Below Y w (wr.alloc (.cells #[.int .i64 y.val.node, .string y.val.id, .string y.val.svc, .string y.val.note, .int .i64 y.val.status, .int .u64 (y.made : Int), .int .u64 (y.ix : Int)] TCk))) := Lib.hid (hb.out.trans (b1.mono (by have := hb.out.size; have := HY.out; omega)))
                have hRA : Hid (ckRow (wr.alloc (.cells #[.int .i64 y.val.node, .string y.val.id, .string y.val.svc, .string y.val.note, .int .i64 y.val.status, .int .u64 (y.made : Int), .int .u64 (y.ix : Int)] TCk)) (X + 1) _ ls) := Lib.hid (hrow.out.below b1)
                have hfr := Lib.hid (fun j e => (hrow.out.from j e).2)
                have HKA := Lib.hid k1
                have HKR := Lib.hid kR
                clear hsm hlt2 hms hgap2 b1 k1 kR hmkN hne hxb2 q0
                go_wp2_with (at_builtin; refine wpList_append_ck rfl (.tmp 132) (.tmp 134) rfl (X + 1) _ (ls) rfl ?qa (wr.heap.size + 1) (⟨kk, x.val, rm, i⟩ : Rw CkA) rfl ?qb ?qd ?qc ?_)
                case qa => exact hRA.out.below ((Below.refl _ _).alloc (Nat.le_refl _) _)
                case qb => exact (by have z9 := ck_new (wr.alloc (.cells #[.int .i64 y.val.node, .string y.val.id, .string y.val.svc, .string y.val.note, .int .i64 y.val.status, .int .u64 (y.made : Int), .int .u64 (y.ix : Int)] TCk)) (⟨kk, x.val, rm, i⟩ : Rw CkA) TCk; rw [sA] at z9; exact z9)
                case qd => omega
                case qc => first | (rw [sA]; omega) | ((try simp); omega)
                refine Lib.hid ?_
                intro vW4 W4 hown hgr
                have hbx := ckRow.snoc hRA.out (Below.refl _ _) (by first | (rw [sA]; omega) | ((try simp); omega)) hgr
                have HB4 := Lib.hid (hBA.out.trans (hbx.mono (by omega)))
                have HR4 := Lib.hid hown
                have hx4 : W4.heap[X]? = some (.cells #[.int .i64 x.val.node, .string x.val.id, .string x.val.svc, .string x.val.note, .int .i64 x.val.status, .int .u64 (rm : Int), .int .u64 (i : Int)] TCk (0, 0)) := (hbx.block X (by omega)).trans HKA.out
                have hz4 : X + 1 < W4.heap.size := by have := hbx.size; rw [sA] at this; omega
                have hbu : But (fun k => k ≠ wr.heap.size) (wr.alloc (.cells #[.int .i64 y.val.node, .string y.val.id, .string y.val.svc, .string y.val.note, .int .i64 y.val.status, .int .u64 (y.made : Int), .int .u64 (y.ix : Int)] TCk)) W4 := (But.of_below ((Below.refl _ (wr.alloc (.cells #[.int .i64 y.val.node, .string y.val.id, .string y.val.svc, .string y.val.note, .int .i64 y.val.status, .int .u64 (y.made : Int), .int .u64 (y.ix : Int)] TCk))).alloc (Nat.le_refl _) _)).trans (But.of_grown (S := fun k => k ≠ wr.heap.size) hgr fun r e _ => by have := hfr.out r e; omega)
                have kR4 : W4.heap[wr.heap.size]? = some (.cells #[.int .i64 y.val.node, .string y.val.id, .string y.val.svc, .string y.val.note, .int .i64 y.val.status, .int .u64 (y.made : Int), .int .u64 (y.ix : Int)] TCk (0, 0)) := (hbu.block wr.heap.size (by rw [sA]; omega) (by simp)).trans HKR.out
                obtain ⟨f0, f1, f2, f3, f4, f5, f6⟩ := ck_blk kR4
                have HX4 := Lib.hid hx4
                clear hown hgr hbx hx4 hbu kR4 hc0 e0 e1 e2 e3 e4 e5 e6 z0 z1 z2 z3 z4 z5 z6 sA
                go_wp2_with (at_builtin; refine wpList_append_ck rfl (.tmp 136) (.tmp 138) rfl (X + 1) _ (ls ++ [(⟨kk, x.val, rm, i⟩ : Rw CkA)]) rfl ?qa (W4.heap.size) y rfl ?qb ?qd ?qc ?_)
                case qa => exact HR4.out.below ((Below.refl _ _).alloc (Nat.le_refl _) _)
                case qb => exact (by have z9 := ck_new (W4) y TCk; exact z9)
                case qd => simp; omega
                case qc => first | (rw [hzz]; omega) | ((try simp); omega)
                refine Lib.hid ?_
                intro vW5 W5 hown hgr
                have hbx := ckRow.snoc HR4.out (Below.refl _ _) (by first | (rw [hzz]; omega) | ((try simp); omega)) hgr
                have HB5 := Lib.hid (HB4.out.trans (hbx.mono (by omega)))
                have HR5 := Lib.hid hown
                have HX5 : Hid (W5.heap[X]? = some (.cells #[.int .i64 x.val.node, .string x.val.id, .string x.val.svc, .string x.val.note, .int .i64 x.val.status, .int .u64 (rm : Int), .int .u64 (i : Int)] TCk (0, 0))) := Lib.hid ((hbx.block X (by omega)).trans HX4.out)
                have HZ5 : Hid (X < W5.heap.size) := Lib.hid (by have := hbx.size; omega)
                clear hown hgr hbx f0 f1 f2 f3 f4 f5 f6
                go_wp2
                go_roundw
                case rel => exact ⟨k + 1, rm, true, ls ++ [(⟨kk, x.val, rm, i⟩ : Rw CkA), y], by omega, by go_num, rfl, HI1, Lib.hid (fun e => by cases e), Lib.hid (by simp; omega), HX5, HR5, HB5, HZ5⟩
                case measure => simp [intOf]; omega
              · rw [decide_eq_false q3] at hlt2
                have HI1 : Hid (layR (⟨kk, x.val, rm, i⟩ : Rw CkA) false d.c.l = (ls ++ [y]) ++ layR (⟨kk, x.val, rm, i⟩ : Rw CkA) false (d.c.l.drop (k + 1))) := Lib.hid (by
                  rw [hinv.out, HD.out, layR, if_neg (by rw [hsm]; simp), if_neg (by rw [show ltT kk y.key = false from hlt2]; simp), List.append_assoc]
                  rfl)
                have HMN : Hid (mk = i ∧ ∀ y ∈ d.c.l.take (k + 1), y.key ≠ kk) := Lib.hid (hmkN (by first | rfl | trivial))
                have b1 := below1 wr #[.int .i64 y.val.node, .string y.val.id, .string y.val.svc, .string y.val.note, .int .i64 y.val.status, .int .u64 (y.made : Int), .int .u64 (y.ix : Int)] TCk
                have k1 := (b1.block X hxs9).trans hxb.out
                have sA : (wr.alloc (.cells #[.int .i64 y.val.node, .string y.val.id, .string y.val.svc, .string y.val.note, .int .i64 y.val.status, .int .u64 (y.made : Int), .int .u64 (y.ix : Int)] TCk)).heap.size = wr.heap.size + 1 := by simp
                have hBA : Hid (Below Y w (wr.alloc (.cells #[.int .i64 y.val.node, .string y.val.id, .string y.val.svc, .string y.val.note, .int .i64 y.val.status, .int .u64 (y.made : Int), .int .u64 (y.ix : Int)] TCk))) := Lib.hid (hb.out.trans (b1.mono (by have := hb.out.size; have := HY.out; omega)))
                have hRA : Hid (ckRow (wr.alloc (.cells #[.int .i64 y.val.node, .string y.val.id, .string y.val.svc, .string y.val.note, .int .i64 y.val.status, .int .u64 (y.made : Int), .int .u64 (y.ix : Int)] TCk)) (X + 1) _ ls) := Lib.hid (hrow.out.below b1)
                have HKA := Lib.hid k1
                have z0 := cellsN hxb.out 0 _ rfl
                have z1 := cellsN hxb.out 1 _ rfl
                have z2 := cellsN hxb.out 2 _ rfl
                have z3 := cellsN hxb.out 3 _ rfl
                have z4 := cellsN hxb.out 4 _ rfl
                have z5 := cellsN hxb.out 5 _ rfl
                have z6 := cellsN hxb.out 6 _ rfl
                clear hsm hlt2 hms hgap2 b1 k1 hmkN hne q0
                go_wp2_with (at_builtin; refine wpList_append_ck rfl (.tmp 136) (.tmp 138) rfl (X + 1) _ (ls) rfl ?qa (wr.heap.size + 1) y rfl ?qb ?qd ?qc ?_)
                case qa => exact hRA.out.below ((Below.refl _ _).alloc (Nat.le_refl _) _)
                case qb => exact (by have z9 := ck_new (wr.alloc (.cells #[.int .i64 y.val.node, .string y.val.id, .string y.val.svc, .string y.val.note, .int .i64 y.val.status, .int .u64 (y.made : Int), .int .u64 (y.ix : Int)] TCk)) y TCk; rw [sA] at z9; exact z9)
                case qd => omega
                case qc => first | (rw [sA]; omega) | ((try simp); omega)
                refine Lib.hid ?_
                intro vW4 W4 hown hgr
                have hbx := ckRow.snoc hRA.out (Below.refl _ _) (by first | (rw [sA]; omega) | ((try simp); omega)) hgr
                have HB4 := Lib.hid (hBA.out.trans (hbx.mono (by omega)))
                have HR4 := Lib.hid hown
                have HX4 : Hid (W4.heap[X]? = some (.cells #[.int .i64 x.val.node, .string x.val.id, .string x.val.svc, .string x.val.note, .int .i64 x.val.status, .int .u64 (mk : Int), .int .u64 (i : Int)] TCk (0, 0))) := Lib.hid ((hbx.block X (by omega)).trans HKA.out)
                have HZ4 : Hid (X < W4.heap.size) := Lib.hid (by have := hbx.size; rw [sA] at this; omega)
                clear hown hgr hbx hc0 e0 e1 e2 e3 e4 e5 e6 z0 z1 z2 z3 z4 z5 z6 sA
                go_wp2
                go_roundw
                case rel => exact ⟨k + 1, mk, false, ls ++ [y], by omega, by go_num, rfl, HI1, Lib.hid (fun _ => HMN.out), Lib.hid (by simp; omega), HX4, HR4, HB4, HZ4⟩
                case measure => simp [intOf]; omega
        · have hkL : k = L := by omega
          have hdk : d.c.l.drop k = [] := List.drop_eq_nil_of_le (by rw [HL.out]; omega)
          have htk : d.c.l.take k = d.c.l := List.take_of_length_le (by rw [HL.out]; omega)
          have hI := hinv.out
          rw [hdk] at hI
          have hd := HH.out.below (by rw [HY.out]; exact hb.out)
          have hc0 := hd.cells.2.2.2.1
          rw [show (d.c.l.length) = L from HL.out] at hc0
          clear hd hdk
          cases bb with
          | true =>
            have hMM : layR (⟨kk, x.val, rm, i⟩ : Rw CkA) false d.c.l = ls := by
              rw [hI]; simp [layR]
            obtain ⟨M, hM⟩ : ∃ M, ls = M := ⟨_, rfl⟩
            have hrz := hrow.out
            rw [hM] at hMM hrz
            have hd2 := HH.out.below (w' := wr) (by rw [HY.out]; exact hb.out)
            have hcz := hd2.cells.2.2.2.1
            rw [show (d.c.l.length) = L from HL.out] at hcz
            have z := hd2.froz 3
            have hl := hd2.lt
            obtain ⟨A9, c9, rfl, k1, k2, k3, k4⟩ := SK.of_row ckC_len hrz
            have hset := (hd2.narrow (S' := fun k => S k ∨ Y ≤ k) (fun _ _ z => .inl (HSs.out _ z)) (fun k z => z.elim (HLo.out k) (Nat.le_trans HTop.out))).set3 (A := A9) (c := c9) (l := M) ⟨k1, fun b off e _ => ⟨.inr (by have := k4 b off e; omega), by have := k4 b off e; omega⟩, k2, k3⟩
            have HRs := Lib.hid (rdraise3_any i hset)
            have HB5 : Hid (But (· = B) w (wr.setCell ⟨B, 3, none⟩ (.slice A9 M.length c9))) := Lib.hid ((But.of_below (by rw [HY.out]; exact hb.out)).trans (But.set (S := (· = B)) wr (p := ⟨B, 3, none⟩) rfl (.slice A9 M.length c9)))
            have HMM := Lib.hid hMM
            clear hset k1 k4 hd2 hMM hM hc0
            go_wp2_with fail
            refine HRs.out.mono ?_
            rintro e w2 ⟨rfl, hd3, hb3⟩
            have HD3 := Lib.hid hd3
            have HB6 := Lib.hid (HB5.out.trans hb3)
            clear hd3 hb3
            go_wp2
            go_ret
            have HOk4 := HOk3.out
            rw [HMM.out] at HOk4
            rw [HY.out, HMM.out]
            exact ⟨rfl, ⟨HOk4, _, _, _, _, _, _, _, HD3.out⟩, HB6.out⟩
          | false =>
            obtain ⟨hmi, hno⟩ := hmk.out (by first | rfl | trivial)
            rw [htk] at hno
            have hrm2 : mk = rm := by rw [hmi, ← HRm.out]; exact (made_none (t := (⟨0, d.c.l, 0⟩ : Tb CkA)) hno).symm
            have hxb2 := hxb.out
            rw [hrm2] at hxb2
            have z0 := cellsN hxb2 0 _ rfl
            have z1 := cellsN hxb2 1 _ rfl
            have z2 := cellsN hxb2 2 _ rfl
            have z3 := cellsN hxb2 3 _ rfl
            have z4 := cellsN hxb2 4 _ rfl
            have z5 := cellsN hxb2 5 _ rfl
            have z6 := cellsN hxb2 6 _ rfl
            clear hxb2 htk
            go_wp2_with (at_builtin; refine wpList_append_ck rfl (.tmp 142) (.tmp 144) rfl (X + 1) _ (ls) rfl ?qa (wr.heap.size) (⟨kk, x.val, rm, i⟩ : Rw CkA) rfl ?qb ?qd ?qc ?_)
            case qa => exact hrow.out.below ((Below.refl _ _).alloc (Nat.le_refl _) _)
            case qb => exact (by have z9 := ck_new (wr) (⟨kk, x.val, rm, i⟩ : Rw CkA) TCk; exact z9)
            case qd => omega
            case qc => first | (rw [hzz]; omega) | ((try simp); omega)
            refine Lib.hid ?_
            intro vW4 W4 hown hgr
            have hbx := ckRow.snoc hrow.out (Below.refl _ _) (by first | (rw [hzz]; omega) | ((try simp); omega)) hgr
            have HB4 := Lib.hid (hb.out.trans (hbx.mono (by omega)))
            have HR4 := Lib.hid hown
            clear hown hgr hbx z0 z1 z2 z3 z4 z5 z6
            have hMM : layR (⟨kk, x.val, rm, i⟩ : Rw CkA) false d.c.l = ls ++ [(⟨kk, x.val, rm, i⟩ : Rw CkA)] := by
              rw [hI]; simp [layR]
            obtain ⟨M, hM⟩ : ∃ M, ls ++ [(⟨kk, x.val, rm, i⟩ : Rw CkA)] = M := ⟨_, rfl⟩
            have hrz := HR4.out
            rw [hM] at hMM hrz
            have hd2 := HH.out.below (w' := W4) (by rw [HY.out]; exact HB4.out)
            have hcz := hd2.cells.2.2.2.1
            rw [show (d.c.l.length) = L from HL.out] at hcz
            have z := hd2.froz 3
            have hl := hd2.lt
            obtain ⟨A9, c9, rfl, k1, k2, k3, k4⟩ := SK.of_row ckC_len hrz
            have hset := (hd2.narrow (S' := fun k => S k ∨ Y ≤ k) (fun _ _ z => .inl (HSs.out _ z)) (fun k z => z.elim (HLo.out k) (Nat.le_trans HTop.out))).set3 (A := A9) (c := c9) (l := M) ⟨k1, fun b off e _ => ⟨.inr (by have := k4 b off e; omega), by have := k4 b off e; omega⟩, k2, k3⟩
            have HRs := Lib.hid (rdraise3_any i hset)
            have HB5 : Hid (But (· = B) w (W4.setCell ⟨B, 3, none⟩ (.slice A9 M.length c9))) := Lib.hid ((But.of_below (by rw [HY.out]; exact HB4.out)).trans (But.set (S := (· = B)) W4 (p := ⟨B, 3, none⟩) rfl (.slice A9 M.length c9)))
            have HMM := Lib.hid hMM
            clear hset k1 k4 hd2 hMM hM hc0
            go_wp2_with fail
            refine HRs.out.mono ?_
            rintro e w2 ⟨rfl, hd3, hb3⟩
            have HD3 := Lib.hid hd3
            have HB6 := Lib.hid (HB5.out.trans hb3)
            clear hd3 hb3
            go_wp2
            go_ret
            have HOk4 := HOk3.out
            rw [HMM.out] at HOk4
            rw [HY.out, HMM.out]
            exact ⟨rfl, ⟨HOk4, _, _, _, _, _, _, _, HD3.out⟩, HB6.out⟩
end
end Go.Proofs.YtilkbfmaofmjoaaGreatDoor
namespace Go.Proofs.YtilkbfmaofmjoaaGreatDoor
open Go.RowKit Go.Rel
set_option linter.unusedSimpArgs false
set_option linter.unusedVariables false
section
variable {base : Nat} {S : Nat → Prop} {w : World} {B : Nat} {A1 A2 A3 : Option Addr} {c1 c2 c3 m : Nat} {l2 : List (Rw SvW)} {d : Ro}
set_option maxHeartbeats 16000000 in
set_option maxRecDepth 100000 in
theorem rdcheck_b (x : Rw CkA) (i : Nat) (hok : RoOk m d) (hx : CkIn x) (hw : d.wrongC x.val = 0) (hb : d.c.l.any (fun r : Rw CkA => idC x.val.node x.val.id r.val) = false) (hlm : d.c.l.length < m) (h : RdIs base S w B A1 A2 A3 c1 c2 c3 m l2 d) (hi : i < 18446744073709551616) : Calls Tryz.prog 40 #[.pointer (some ⟨B, 0, none⟩), ckV x, .int .u64 (i : Int)] w fun e w' => e = .returned (.int .i64 0) ∧ RdAt base (fun k => S k ∨ w.heap.size ≤ k) w' B m (d.check x.val i).2 ∧ But (· = B) w w' := by
  have KEEP : Hid (∀ w', Below w.heap.size w w' → RdIs base (fun k => S k ∨ w.heap.size ≤ k) w' B A1 A2 A3 c1 c2 c3 m l2 d ∧ But (· = B) w w') := Lib.hid fun w' hb => ⟨(h.below hb).narrow (fun _ _ z => .inl z) (fun k z => z.elim (h.lo k) (Nat.le_trans h.top)), But.of_below hb⟩
  have b0 := below1 w #[.int .i64 x.val.node, .string x.val.id, .string x.val.svc, .string x.val.note, .int .i64 x.val.status, .int .u64 (x.made : Int), .int .u64 (x.ix : Int)] TCk
  have k0 := heap_alloc_new w (.cells #[.int .i64 x.val.node, .string x.val.id, .string x.val.svc, .string x.val.note, .int .i64 x.val.status, .int .u64 (x.made : Int), .int .u64 (x.ix : Int)] TCk)
  obtain ⟨X, hX⟩ : ∃ X, w.heap.size = X := ⟨_, rfl⟩
  obtain ⟨W1, hW1⟩ : ∃ W1, w.alloc (.cells #[.int .i64 x.val.node, .string x.val.id, .string x.val.svc, .string x.val.note, .int .i64 x.val.status, .int .u64 (x.made : Int), .int .u64 (x.ix : Int)] TCk) = W1 := ⟨_, rfl⟩
  rw [hW1] at b0 k0
  rw [hX] at k0
  have HWr := Lib.hid (by
    have := rdwrongc_any x hok hx (h.below b0)
    unfold ckV at this
    rw [hw] at this
    exact this : Calls Tryz.prog 85 #[.pointer (some ⟨B, 0, none⟩), .agg #[.int .i64 x.val.node, .string x.val.id, .string x.val.svc, .string x.val.note, .int .i64 x.val.status, .int .u64 (x.made : Int), .int .u64 (x.ix : Int)]] W1 fun e w' => e = .returned (.int .i64 0) ∧ Below W1.heap.size W1 w')
  have HI9 := Lib.hid (fun W (hW : Below w.heap.size w W) => h.below hW)
  have HAny := Lib.hid hb
  have hn := (wrongC_ok.1 hw).1.node
  obtain ⟨kk, hkk⟩ : ∃ kk, keyO x.val.node x.val.id = kk := ⟨_, rfl⟩
  obtain ⟨rm, hrm⟩ : ∃ rm, ((getR d.c.l kk).map (·.made)).getD i = rm := ⟨_, rfl⟩
  have hf : d.c.fullB kk = false := by
    unfold Tb.fullB
    rw [decide_eq_false (by rw [hok.cm]; omega), Bool.and_false]
  have hok3 := hok.check (x := x.val) hi
  rw [Ro.check_is hkk hw hf hrm] at hok3 ⊢
  have HOk3 := Lib.hid hok3
  have h64 : d.c.l.length ≤ 64 := Nat.le_trans hok.cok.len hok.cok.most.2
  have HSame := Lib.hid (fun y (hy : y ∈ d.c.l) => hkk ▸ (hok.ck_same (node := x.val.node) (id := x.val.id) hy))
  have HLt2 := Lib.hid (fun y (hy : y ∈ d.c.l) => hkk ▸ (hok.ck_lt (id := x.val.id) hn hy))
  have HRise := Lib.hid hok.cok.rise
  have HRm := Lib.hid hrm
  have hm1 := hok.most.2
  obtain ⟨Y, hY⟩ : ∃ Y, w.heap.size = Y := ⟨_, rfl⟩
  have HY := Lib.hid hY
  have hBY : B < Y := by rw [← hY]; exact h.lt
  have HTop : Hid (base ≤ Y) := Lib.hid (by rw [← hY]; exact h.top)
  obtain ⟨S0, hS0⟩ : ∃ S0 : Nat → Prop, S0 = fun k => S k ∧ k < Y := ⟨_, rfl⟩
  have HH : Hid (RdIs base S0 w B A1 A2 A3 c1 c2 c3 m l2 d) := Lib.hid (h.narrow (fun k hk z => by rw [hS0]; exact ⟨z, by omega⟩) (fun k z => h.lo k (by rw [hS0] at z; exact z.1)))
  have HLt : Hid (∀ k, S0 k → k < Y) := Lib.hid (fun k z => by rw [hS0] at z; exact z.2)
  have HSs : Hid (∀ k, S0 k → S k) := Lib.hid (fun k z => by rw [hS0] at z; exact z.1)
  have HLo : Hid (∀ k, S k → base ≤ k) := Lib.hid h.lo
  obtain ⟨L, hL⟩ : ∃ L, d.c.l.length = L := ⟨_, rfl⟩
  rw [hL] at h64
  rw [hL] at hlm
  have HD1 : Hid (decide (m ≤ L) = false) := Lib.hid (decide_eq_false (by omega))
  have HL := Lib.hid hL
  have HB1 := Lib.hid b0
  have HK1 := Lib.hid k0
  have HW1 := Lib.hid hW1
  have HX := Lib.hid hX
  have HOkR := Lib.hid hok
  have hYX : Y ≤ X := by omega
  unfold ckV
  clear h hok hx hw hb hi b0 k0 hW1 hX hL hn hkk hrm hf hok3 hS0 hY hlm
  go_enter Tryz.func40, Tryz.ntmps40
  go_wp2_with fail
  rw [HW1.out, HX.out]
  refine HWr.out.mono ?_
  rintro e W2 ⟨rfl, hb⟩
  have HB2 := Lib.hid (HB1.out.trans (hb.mono HB1.out.size))
  have hx1 := block_lt HK1.out
  have hkx := (hb.block X hx1).trans HK1.out
  have HKx := Lib.hid hkx
  have HLx := Lib.hid (block_lt hkx)
  clear hb hx1 hkx HWr
  go_wp2
  go_loopw [8, 9] (fun bv iv wr => ∃ k : Nat, k ≤ L ∧ iv = .int .i64 (k : Int) ∧ bv = .bool ((d.c.l.take k).any (fun r : Rw CkA => idC x.val.node x.val.id r.val)) ∧ Hid (Below W2.heap.size W2 wr)) (fun _ iv _ => L - (intOf iv).toNat)
  case atStart => exact ⟨0, Nat.zero_le _, rfl, rfl, Lib.hid (Below.refl _ _)⟩
  case round =>
    obtain ⟨k, hk, rfl, rfl, hb⟩ := hrel
    have hbw : Below w.heap.size w wr := HB2.out.trans (hb.out.mono HB2.out.size)
    have hd := HI9.out wr hbw
    obtain ⟨hm0, -, -, hc0, -⟩ := hd.cells
    rw [HL.out] at hc0
    have hx3 := (hb.out.block X HLx.out).trans HKx.out
    have hxl := block_lt hx3
    have HX3 := Lib.hid hx3
    by_cases hlt : k < L
    · have hkl : k < d.c.l.length := by rw [HL.out]; exact hlt
      obtain ⟨b, off, rfl, hbl, hit⟩ := hd.r3.row.at_ hkl hkl
      have hst : (d.c.l.take (k + 1)).any (fun r : Rw CkA => idC x.val.node x.val.id r.val) = ((d.c.l.take k).any (fun r : Rw CkA => idC x.val.node x.val.id r.val) || (decide ((d.c.l[k]).val.node = x.val.node) && ((d.c.l[k]).val.id.toList == x.val.id.toList))) := by rw [List.take_succ_eq_append_getElem hkl, List.any_append, List.any_cons, List.any_nil, Bool.or_false]; rfl
      obtain ⟨y, hy⟩ : ∃ y, d.c.l[k] = y := ⟨_, rfl⟩
      rw [hy] at hst hit
      obtain ⟨pb, hpb⟩ : ∃ pb, (d.c.l.take k).any (fun r : Rw CkA => idC x.val.node x.val.id r.val) = pb := ⟨_, rfl⟩
      rw [hpb] at hst ⊢
      obtain ⟨e0, e1, e2, e3, e4, e5, e6⟩ := ck_cells hit
      obtain ⟨z0, z1, z2, z3, z4, z5, z6⟩ := ck_blk hx3
      have HB := hb
      clear hd hit hy hpb hx3 hbw
      cases pb with
      | true =>
        have HSt : Hid ((d.c.l.take (k + 1)).any (fun r : Rw CkA => idC x.val.node x.val.id r.val) = true) := Lib.hid (by rw [hst]; rfl)
        clear hst
        go_wp2
        go_quiet (fail)
        generalize hWq : wr.drewN _ = wq
        have HBq : Hid (Below W2.heap.size W2 wq) := Lib.hid (by rw [← hWq]; exact below_drewN HB.out _)
        clear hWq hm0 hc0 e0 e1 e2 e3 e4 e5 e6 z0 z1 z2 z3 z4 z5 z6 hxl hbl
        go_wp2
        go_roundw
        case rel => exact ⟨k + 1, by omega, by go_num, by rw [HSt.out], HBq⟩
        case measure => simp [intOf]; omega
      | false =>
        rw [Bool.false_or] at hst
        by_cases q0 : y.val.node = x.val.node
        · have q : (y.val.node == x.val.node) = true := beq_iff_eq.2 q0
          rw [decide_eq_true q0, Bool.true_and] at hst
          cases hz : (y.val.id.toList == x.val.id.toList) with
          | true =>
            rw [hz] at hst
            have HSt := Lib.hid hst
            clear hst q0
            go_wp2
            go_quiet (fail)
            generalize hWq : wr.drewN _ = wq
            have HBq : Hid (Below W2.heap.size W2 wq) := Lib.hid (by rw [← hWq]; exact below_drewN HB.out _)
            clear hWq hm0 hc0 e0 e1 e2 e3 e4 e5 e6 z0 z1 z2 z3 z4 z5 z6 hxl hbl
            go_wp2
            go_roundw
            case rel => exact ⟨k + 1, by omega, by go_num, by rw [HSt.out], HBq⟩
            case measure => simp [intOf]; omega
          | false =>
            rw [hz] at hst
            have HSt := Lib.hid hst
            clear hst q0
            go_wp2
            go_quiet (fail)
            generalize hWq : wr.drewN _ = wq
            have HBq : Hid (Below W2.heap.size W2 wq) := Lib.hid (by rw [← hWq]; exact below_drewN HB.out _)
            clear hWq hm0 hc0 e0 e1 e2 e3 e4 e5 e6 z0 z1 z2 z3 z4 z5 z6 hxl hbl
            go_wp2
            go_roundw
            case rel => exact ⟨k + 1, by omega, by go_num, by rw [HSt.out], HBq⟩
            case measure => simp [intOf]; omega
        · have q : (y.val.node == x.val.node) = false := beq_eq_false_iff_ne.2 q0
          rw [decide_eq_false q0, Bool.false_and] at hst
          have HSt := Lib.hid hst
          clear hst q0
          go_wp2
          go_quiet (fail)
          generalize hWq : wr.drewN _ = wq
          have HBq : Hid (Below W2.heap.size W2 wq) := Lib.hid (by rw [← hWq]; exact below_drewN HB.out _)
          clear hWq hm0 hc0 e0 e1 e2 e3 e4 e5 e6 z0 z1 z2 z3 z4 z5 z6 hxl hbl
          go_wp2
          go_roundw
          case rel => exact ⟨k + 1, by omega, by go_num, by rw [HSt.out], HBq⟩
          case measure => simp [intOf]; omega
    · have ht : d.c.l.take k = d.c.l := List.take_of_length_le (by rw [HL.out]; omega)
      rw [ht, HAny.out]
      have HBk := hb
      have d1 := HD1.out
      clear ht hd hx3 hbw
      go_wp2
      go_quiet (fail)
      generalize hWq : wr.drewN _ = wq
      have HBq : Hid (Below W2.heap.size W2 wq) := Lib.hid (by rw [← hWq]; exact below_drewN HBk.out _)
      clear hWq hm0 hc0 hxl d1
      have HB3 := Lib.hid (HB2.out.trans (HBq.out.mono HB2.out.size))
      have hx3 := (HBq.out.block X HLx.out).trans HKx.out
      have z5 := cellsN hx3 5 _ rfl
      have z6 := cellsN hx3 6 _ rfl
      have g5 := blk_froz hx3 5
      have g6 := blk_froz hx3 6
      have hxl := block_lt hx3
      have k4 : (wq.setCell ⟨X, 5, none⟩ (.int .u64 (i : Int))).heap[X]? = some (.cells #[.int .i64 x.val.node, .string x.val.id, .string x.val.svc, .string x.val.note, .int .i64 x.val.status, .int .u64 (i : Int), .int .u64 (x.ix : Int)] TCk (0, 0)) := block_set hx3 5 _
      have k5 : ((wq.setCell ⟨X, 5, none⟩ (.int .u64 (i : Int))).setCell ⟨X, 6, none⟩ (.int .u64 (i : Int))).heap[X]? = some (.cells #[.int .i64 x.val.node, .string x.val.id, .string x.val.svc, .string x.val.note, .int .i64 x.val.status, .int .u64 (i : Int), .int .u64 (i : Int)] TCk (0, 0)) := block_set k4 6 _
      have g6' := blk_froz k4 6
      obtain ⟨W5, hW5⟩ : ∃ W5, (wq.setCell ⟨X, 5, none⟩ (.int .u64 (i : Int))).setCell ⟨X, 6, none⟩ (.int .u64 (i : Int)) = W5 := ⟨_, rfl⟩
      have HB5 : Hid (Below Y w W5) := Lib.hid (by rw [← hW5, ← HY.out]; exact (HB3.out.setCell (by show _ ≤ X; rw [HY.out]; exact hYX) _).setCell (by show _ ≤ X; rw [HY.out]; exact hYX) _)
      rw [hW5] at k5
      have HX5 := Lib.hid k5
      have HS5 := Lib.hid (block_lt k5)
      have HW5 := Lib.hid hW5
      clear k4 k5 hW5 hx3
      go_wp2
      rw [HW5.out]
      clear z5 z6 g5 g6 g6' hxl HX3
      go_loopw [10, 11, 12] (fun vv bv iv wr => ∃ (k mk : Nat) (bb : Bool) (ls : List (Rw CkA)), k ≤ L ∧ iv = .int .i64 (k : Int) ∧ bv = .bool bb ∧ Hid (layR (⟨kk, x.val, rm, i⟩ : Rw CkA) false d.c.l = ls ++ layR (⟨kk, x.val, rm, i⟩ : Rw CkA) bb (d.c.l.drop k)) ∧ Hid (bb = false → mk = i ∧ ∀ y ∈ d.c.l.take k, y.key ≠ kk) ∧ Hid (ls.length ≤ 2 * k) ∧ Hid (wr.heap[X]? = some (.cells #[.int .i64 x.val.node, .string x.val.id, .string x.val.svc, .string x.val.note, .int .i64 x.val.status, .int .u64 (mk : Int), .int .u64 (i : Int)] TCk (0, 0))) ∧ Hid (ckRow wr (X + 1) vv ls) ∧ Hid (Below Y w wr) ∧ Hid (X < wr.heap.size)) (fun _ _ iv _ => L - (intOf iv).toNat)
      case atStart => exact ⟨0, i, false, [], Nat.zero_le _, rfl, rfl, Lib.hid rfl, Lib.hid (fun _ => ⟨rfl, fun y hy => by simp at hy⟩), Lib.hid (Nat.le_refl _), HX5, Lib.hid (rowK.nil _ _), HB5, HS5⟩
      case round =>
        obtain ⟨k, mk, bb, ls, hk, rfl, rfl, hinv, hmk, hls, hxb, hrow, hb, hxs⟩ := hrel
        have hxs9 := hxs.out
        have hls9 := hls.out
        by_cases hlt : k < L
        · have hkl : k < d.c.l.length := by rw [HL.out]; exact hlt
          have hd := HH.out.below (by rw [HY.out]; exact hb.out)
          obtain ⟨b, off, rfl, hbl, hit⟩ := hd.r3.row.at_ hkl hkl
          have hdr : d.c.l.drop k = d.c.l[k] :: d.c.l.drop (k + 1) := List.drop_eq_getElem_cons hkl
          have htk : d.c.l.take (k + 1) = d.c.l.take k ++ [d.c.l[k]] := List.take_succ_eq_append_getElem hkl
          have hmem : d.c.l[k] ∈ d.c.l := List.getElem_mem hkl
          have hgap := fun hg hn => made_gap (t := (⟨0, d.c.l, 0⟩ : Tb CkA)) (i := i) (k := kk) HRise.out hkl hg hn
          obtain ⟨y, hy⟩ : ∃ y, d.c.l[k] = y := ⟨_, rfl⟩
          rw [hy] at hdr htk hmem hit
          have hgap2 : ltT kk y.key = true → (∀ z ∈ d.c.l.take k, z.key ≠ kk) → ((getR d.c.l kk).map (·.made)).getD i = i := fun h1 h2 => hgap (by show ltT kk (d.c.l[k]).key = true; rw [hy]; exact h1) h2
          have hc0 := hd.cells.2.2.2.1
          rw [show (d.c.l.length) = L from HL.out] at hc0
          have hsm := HSame.out y hmem
          have hlt2 := HLt2.out y hmem
          have hms : y.key = kk → y.made = rm := fun e => by rw [← HRm.out]; exact (made_same (t := (⟨0, d.c.l, 0⟩ : Tb CkA)) HRise.out hmem e).symm
          have HD := Lib.hid hdr
          have HTk := Lib.hid htk
          obtain ⟨e0, e1, e2, e3, e4, e5, e6⟩ := ck_cells hit
          clear hit hd hdr htk hy hmem hgap
          by_cases q0 : y.val.node = x.val.node
          · have q : (y.val.node == x.val.node) = true := beq_iff_eq.2 q0
            have q3 : ¬ x.val.node < y.val.node := by omega
            rw [decide_eq_true q0, Bool.true_and] at hsm
            rw [decide_eq_false q3, decide_eq_true q0.symm, Bool.false_or, Bool.true_and] at hlt2
            cases hz : (y.val.id.toList == x.val.id.toList) with
            | true =>
              rw [hz] at hsm
              have hxm := hms (text_same.1 hsm)
              have HI1 : Hid (layR (⟨kk, x.val, rm, i⟩ : Rw CkA) false d.c.l = (ls ++ [(⟨kk, x.val, rm, i⟩ : Rw CkA)]) ++ layR (⟨kk, x.val, rm, i⟩ : Rw CkA) true (d.c.l.drop (k + 1))) := Lib.hid (by
                rw [hinv.out, HD.out, layR, if_pos hsm, List.append_assoc]
                rfl)
              rw [hxm] at e5
              have z0 := cellsN hxb.out 0 _ rfl
              have z1 := cellsN hxb.out 1 _ rfl
              have z2 := cellsN hxb.out 2 _ rfl
              have z3 := cellsN hxb.out 3 _ rfl
              have z4 := cellsN hxb.out 4 _ rfl
              have z5 := cellsN hxb.out 5 _ rfl
              have z6 := cellsN hxb.out 6 _ rfl
              have g5 := blk_froz hxb.out 5
              have k1 : (wr.setCell ⟨X, 5, none⟩ (.int .u64 (rm : Int))).heap[X]? = some (.cells #[.int .i64 x.val.node, .string x.val.id, .string x.val.svc, .string x.val.note, .int .i64 x.val.status, .int .u64 (rm : Int), .int .u64 (i : Int)] TCk (0, 0)) := block_set hxb.out 5 _
              have s1 : (wr.setCell ⟨X, 5, none⟩ (.int .u64 (rm : Int))).heap.size = wr.heap.size := by simp [World.setCell]
              have b1 := below1 (wr.setCell ⟨X, 5, none⟩ (.int .u64 (rm : Int))) #[.int .i64 y.val.node, .string y.val.id, .string y.val.svc, .string y.val.note, .int .i64 y.val.status, .int .u64 (rm : Int), .int .u64 (y.ix : Int)] TCk
              have kA := (b1.block X (by rw [s1]; exact hxs9)).trans k1
              have sA : ((wr.setCell ⟨X, 5, none⟩ (.int .u64 (rm : Int))).alloc (.cells #[.int .i64 y.val.node, .string y.val.id, .string y.val.svc, .string y.val.note, .int .i64 y.val.status, .int .u64 (rm : Int), .int .u64 (y.ix : Int)] TCk)).heap.size = wr.heap.size + 1 := by simp [World.setCell]
              have hB1 := hb.out.setCell (p := ⟨X, 5, none⟩) (by exact hYX) (.int .u64 (rm : Int))
              have hBA : Hid (Below Y w ((wr.setCell ⟨X, 5, none⟩ (.int .u64 (rm : Int))).alloc (.cells #[.int .i64 y.val.node, .string y.val.id, .string y.val.svc, .string y.val.note, .int .i64 y.val.status, .int .u64 (rm : Int), .int .u64 (y.ix : Int)] TCk))) := Lib.hid (hB1.trans (b1.mono (by rw [s1]; have := hb.out.size; have := HY.out; omega)))
              have hRA : Hid (ckRow ((wr.setCell ⟨X, 5, none⟩ (.int .u64 (rm : Int))).alloc (.cells #[.int .i64 y.val.node, .string y.val.id, .string y.val.svc, .string y.val.note, .int .i64 y.val.status, .int .u64 (rm : Int), .int .u64 (y.ix : Int)] TCk)) (X + 1) _ ls) := Lib.hid ((hrow.out.but (But.set (S := (· = X)) wr (p := ⟨X, 5, none⟩) rfl (.int .u64 (rm : Int))) fun j e z => by have := (hrow.out.from j e).1; have z2 : j = X := z; omega).below b1)
              have HKA := Lib.hid kA
              clear hsm hlt2 hms hgap2 kA hxm b1 k1 s1 hB1 q0
              go_wp2_with (at_builtin; refine wpList_append_ck rfl (.tmp 105) (.tmp 107) rfl (X + 1) _ (ls) rfl ?qa (wr.heap.size + 1) (⟨kk, x.val, rm, i⟩ : Rw CkA) rfl ?qb ?qd ?qc ?_)
              case qa => exact hRA.out.below ((Below.refl _ _).alloc (Nat.le_refl _) _)
              case qb => exact (by have z9 := ck_new ((wr.setCell ⟨X, 5, none⟩ (.int .u64 (rm : Int))).alloc (.cells #[.int .i64 y.val.node, .string y.val.id, .string y.val.svc, .string y.val.note, .int .i64 y.val.status, .int .u64 (rm : Int), .int .u64 (y.ix : Int)] TCk)) (⟨kk, x.val, rm, i⟩ : Rw CkA) TCk; rw [sA] at z9; exact z9)
              case qd => omega
              case qc => first | (rw [sA]; omega) | ((try simp); omega)
              refine Lib.hid ?_
              intro vW4 W4 hown hgr
              have hbx := ckRow.snoc hRA.out (Below.refl _ _) (by first | (rw [sA]; omega) | ((try simp); omega)) hgr
              have HB4 := Lib.hid (hBA.out.trans (hbx.mono (by omega)))
              have HR4 := Lib.hid hown
              have HX4 : Hid (W4.heap[X]? = some (.cells #[.int .i64 x.val.node, .string x.val.id, .string x.val.svc, .string x.val.note, .int .i64 x.val.status, .int .u64 (rm : Int), .int .u64 (i : Int)] TCk (0, 0))) := Lib.hid ((hbx.block X (by omega)).trans HKA.out)
              have HZ4 : Hid (X < W4.heap.size) := Lib.hid (by have := hbx.size; rw [sA] at this; omega)
              clear hown hgr hbx hc0 e0 e1 e2 e3 e4 e5 e6 z0 z1 z2 z3 z4 z5 z6 g5 sA
              go_wp2
              go_roundw
              case rel => exact ⟨k + 1, rm, true, ls ++ [(⟨kk, x.val, rm, i⟩ : Rw CkA)], by omega, by go_num, rfl, HI1, Lib.hid (fun e => by cases e), Lib.hid (by simp; omega), HX4, HR4, HB4, HZ4⟩
              case measure => simp [intOf]; omega
            | false =>
              rw [hz] at hsm
              have hne : y.key ≠ kk := text_other.1 hsm
              have hmkN : bb = false → mk = i ∧ ∀ z ∈ d.c.l.take (k + 1), z.key ≠ kk := fun e => ⟨(hmk.out e).1, fun z hz => by
                rw [HTk.out, List.mem_append, List.mem_singleton] at hz
                rcases hz with hz | rfl
                · exact (hmk.out e).2 z hz
                · exact hne⟩
              cases bb with
              | true =>
                have HI1 : Hid (layR (⟨kk, x.val, rm, i⟩ : Rw CkA) false d.c.l = (ls ++ [y]) ++ layR (⟨kk, x.val, rm, i⟩ : Rw CkA) true (d.c.l.drop (k + 1))) := Lib.hid (by
                  rw [hinv.out, HD.out, layR, if_neg (by rw [hsm]; simp), if_neg (by simp), List.append_assoc]
                  rfl)
                have b1 := below1 wr #[.int .i64 y.val.node, .string y.val.id, .string y.val.svc, .string y.val.note, .int .i64 y.val.status, .int .u64 (y.made : Int), .int .u64 (y.ix : Int)] TCk
                have k1 := (b1.block X hxs9).trans hxb.out
                have sA : (wr.alloc (.cells #[.int .i64 y.val.node, .string y.val.id, .string y.val.svc, .string y.val.note, .int .i64 y.val.status, .int .u64 (y.made : Int), .int .u64 (y.ix : Int)] TCk)).heap.size = wr.heap.size + 1 := by simp
                have hBA : Hid (Below Y w (wr.alloc (.cells #[.int .i64 y.val.node, .string y.val.id, .string y.val.svc, .string y.val.note, .int .i64 y.val.status, .int .u64 (y.made : Int), .int .u64 (y.ix : Int)] TCk))) := Lib.hid (hb.out.trans (b1.mono (by have := hb.out.size; have := HY.out; omega)))
                have hRA : Hid (ckRow (wr.alloc (.cells #[.int .i64 y.val.node, .string y.val.id, .string y.val.svc, .string y.val.note, .int .i64 y.val.status, .int .u64 (y.made : Int), .int .u64 (y.ix : Int)] TCk)) (X + 1) _ ls) := Lib.hid (hrow.out.below b1)
                have HKA := Lib.hid k1
                have z0 := cellsN hxb.out 0 _ rfl
                have z1 := cellsN hxb.out 1 _ rfl
                have z2 := cellsN hxb.out 2 _ rfl
                have z3 := cellsN hxb.out 3 _ rfl
                have z4 := cellsN hxb.out 4 _ rfl
                have z5 := cellsN hxb.out 5 _ rfl
                have z6 := cellsN hxb.out 6 _ rfl
                clear hsm hlt2 hms hgap2 b1 k1 hmkN hne q0
                go_wp2_with (at_builtin; refine wpList_append_ck rfl (.tmp 136) (.tmp 138) rfl (X + 1) _ (ls) rfl ?qa (wr.heap.size + 1) y rfl ?qb ?qd ?qc ?_)
                case qa => exact hRA.out.below ((Below.refl _ _).alloc (Nat.le_refl _) _)
                case qb => exact (by have z9 := ck_new (wr.alloc (.cells #[.int .i64 y.val.node, .string y.val.id, .string y.val.svc, .string y.val.note, .int .i64 y.val.status, .int .u64 (y.made : Int), .int .u64 (y.ix : Int)] TCk)) y TCk; rw [sA] at z9; exact z9)
                case qd => omega
                case qc => first | (rw [sA]; omega) | ((try simp); omega)
                refine Lib.hid ?_
                intro vW4 W4 hown hgr
                have hbx := ckRow.snoc hRA.out (Below.refl _ _) (by first | (rw [sA]; omega) | ((try simp); omega)) hgr
                have HB4 := Lib.hid (hBA.out.trans (hbx.mono (by omega)))
                have HR4 := Lib.hid hown
                have HX4 : Hid (W4.heap[X]? = some (.cells #[.int .i64 x.val.node, .string x.val.id, .string x.val.svc, .string x.val.note, .int .i64 x.val.status, .int .u64 (mk : Int), .int .u64 (i : Int)] TCk (0, 0))) := Lib.hid ((hbx.block X (by omega)).trans HKA.out)
                have HZ4 : Hid (X < W4.heap.size) := Lib.hid (by have := hbx.size; rw [sA] at this; omega)
                clear hown hgr hbx hc0 e0 e1 e2 e3 e4 e5 e6 z0 z1 z2 z3 z4 z5 z6 sA
                go_wp2
                go_roundw
                case rel => exact ⟨k + 1, mk, true, ls ++ [y], by omega, by go_num, rfl, HI1, Lib.hid (fun e => by cases e), Lib.hid (by simp; omega), HX4, HR4, HB4, HZ4⟩
                case measure => simp [intOf]; omega
              | false =>
                cases hg : ltT x.val.id y.val.id with
                | true =>
                  rw [hg] at hlt2
                  have g : Op.bytesLess (y.val.id).toList (x.val.id).toList = false := less_other _ _ true hg hz
                  clear hg
                  have hrm2 : mk = rm := by rw [(hmkN (by first | rfl | trivial)).1, ← HRm.out]; exact (hgap2 hlt2 (hmk.out (by first | rfl | trivial)).2).symm
                  have HI1 : Hid (layR (⟨kk, x.val, rm, i⟩ : Rw CkA) false d.c.l = (ls ++ [(⟨kk, x.val, rm, i⟩ : Rw CkA), y]) ++ layR (⟨kk, x.val, rm, i⟩ : Rw CkA) true (d.c.l.drop (k + 1))) := Lib.hid (by
                    rw [hinv.out, HD.out, layR, if_neg (by rw [hsm]; simp), if_pos (by rw [show ltT kk y.key = true from hlt2]; rfl)]
                    simp)
                  have hxb2 := hxb.out
                  rw [hrm2] at hxb2
                  have z0 := cellsN hxb2 0 _ rfl
                  have z1 := cellsN hxb2 1 _ rfl
                  have z2 := cellsN hxb2 2 _ rfl
                  have z3 := cellsN hxb2 3 _ rfl
                  have z4 := cellsN hxb2 4 _ rfl
                  have z5 := cellsN hxb2 5 _ rfl
                  have z6 := cellsN hxb2 6 _ rfl
                  have b1 := below1 wr #[.int .i64 y.val.node, .string y.val.id, .string y.val.svc, .string y.val.note, .int .i64 y.val.status, .int .u64 (y.made : Int), .int .u64 (y.ix : Int)] TCk
                  have k1 := (b1.block X hxs9).trans hxb2
                  have kR := heap_alloc_new wr (.cells #[.int .i64 y.val.node, .string y.val.id, .string y.val.svc, .string y.val.note, .int .i64 y.val.status, .int .u64 (y.made : Int), .int .u64 (y.ix : Int)] TCk)
                  have sA : (wr.alloc (.cells #[.int .i64 y.val.node, .string y.val.id, .string y.val.svc, .string y.val.note, .int .i64 y.val.status, .int .u64 (y.made : Int), .int .u64 (y.ix : Int)] TCk)).heap.size = wr.heap.size + 1 := by simp
                  have hBA : Hid (Below Y w (wr.alloc (.cells #[.int .i64 y.val.node, .string y.val.id, .string y.val.svc, .string y.val.note, .int .i64 y.val.status, .int .u64 (y.made : Int), .int .u64 (y.ix : Int)] TCk))) := Lib.hid (hb.out.trans (b1.mono (by have := hb.out.size; have := HY.out; omega)))
                  have hRA : Hid (ckRow (wr.alloc (.cells #[.int .i64 y.val.node, .string y.val.id, .string y.val.svc, .string y.val.note, .int .i64 y.val.status, .int .u64 (y.made : Int), .int .u64 (y.ix : Int)] TCk)) (X + 1) _ ls) := Lib.hid (hrow.out.below b1)
                  have hfr := Lib.hid (fun j e => (hrow.out.from j e).2)
                  have HKA := Lib.hid k1
                  have HKR := Lib.hid kR
                  clear hsm hlt2 hms hgap2 b1 k1 kR hmkN hne hxb2 q0
                  go_wp2_with (at_builtin; refine wpList_append_ck rfl (.tmp 132) (.tmp 134) rfl (X + 1) _ (ls) rfl ?qa (wr.heap.size + 1) (⟨kk, x.val, rm, i⟩ : Rw CkA) rfl ?qb ?qd ?qc ?_)
                  case qa => exact hRA.out.below ((Below.refl _ _).alloc (Nat.le_refl _) _)
                  case qb => exact (by have z9 := ck_new (wr.alloc (.cells #[.int .i64 y.val.node, .string y.val.id, .string y.val.svc, .string y.val.note, .int .i64 y.val.status, .int .u64 (y.made : Int), .int .u64 (y.ix : Int)] TCk)) (⟨kk, x.val, rm, i⟩ : Rw CkA) TCk; rw [sA] at z9; exact z9)
                  case qd => omega
                  case qc => first | (rw [sA]; omega) | ((try simp); omega)
                  refine Lib.hid ?_
                  intro vW4 W4 hown hgr
                  have hbx := ckRow.snoc hRA.out (Below.refl _ _) (by first | (rw [sA]; omega) | ((try simp); omega)) hgr
                  have HB4 := Lib.hid (hBA.out.trans (hbx.mono (by omega)))
                  have HR4 := Lib.hid hown
                  have hx4 : W4.heap[X]? = some (.cells #[.int .i64 x.val.node, .string x.val.id, .string x.val.svc, .string x.val.note, .int .i64 x.val.status, .int .u64 (rm : Int), .int .u64 (i : Int)] TCk (0, 0)) := (hbx.block X (by omega)).trans HKA.out
                  have hz4 : X + 1 < W4.heap.size := by have := hbx.size; rw [sA] at this; omega
                  have hbu : But (fun k => k ≠ wr.heap.size) (wr.alloc (.cells #[.int .i64 y.val.node, .string y.val.id, .string y.val.svc, .string y.val.note, .int .i64 y.val.status, .int .u64 (y.made : Int), .int .u64 (y.ix : Int)] TCk)) W4 := (But.of_below ((Below.refl _ (wr.alloc (.cells #[.int .i64 y.val.node, .string y.val.id, .string y.val.svc, .string y.val.note, .int .i64 y.val.status, .int .u64 (y.made : Int), .int .u64 (y.ix : Int)] TCk))).alloc (Nat.le_refl _) _)).trans (But.of_grown (S := fun k => k ≠ wr.heap.size) hgr fun r e _ => by have := hfr.out r e; omega)
                  have kR4 : W4.heap[wr.heap.size]? = some (.cells #[.int .i64 y.val.node, .string y.val.id, .string y.val.svc, .string y.val.note, .int .i64 y.val.status, .int .u64 (y.made : Int), .int .u64 (y.ix : Int)] TCk (0, 0)) := (hbu.block wr.heap.size (by rw [sA]; omega) (by simp)).trans HKR.out
                  obtain ⟨f0, f1, f2, f3, f4, f5, f6⟩ := ck_blk kR4
                  have HX4 := Lib.hid hx4
                  clear hown hgr hbx hx4 hbu kR4 hc0 e0 e1 e2 e3 e4 e5 e6 z0 z1 z2 z3 z4 z5 z6 sA
                  go_wp2_with (at_builtin; refine wpList_append_ck rfl (.tmp 136) (.tmp 138) rfl (X + 1) _ (ls ++ [(⟨kk, x.val, rm, i⟩ : Rw CkA)]) rfl ?qa (W4.heap.size) y rfl ?qb ?qd ?qc ?_)
                  case qa => exact HR4.out.below ((Below.refl _ _).alloc (Nat.le_refl _) _)
                  case qb => exact (by have z9 := ck_new (W4) y TCk; exact z9)
                  case qd => simp; omega
                  case qc => first | (rw [hzz]; omega) | ((try simp); omega)
                  refine Lib.hid ?_
                  intro vW5 W5 hown hgr
                  have hbx := ckRow.snoc HR4.out (Below.refl _ _) (by first | (rw [hzz]; omega) | ((try simp); omega)) hgr
                  have HB5 := Lib.hid (HB4.out.trans (hbx.mono (by omega)))
                  have HR5 := Lib.hid hown
                  have HX5 : Hid (W5.heap[X]? = some (.cells #[.int .i64 x.val.node, .string x.val.id, .string x.val.svc, .string x.val.note, .int .i64 x.val.status, .int .u64 (rm : Int), .int .u64 (i : Int)] TCk (0, 0))) := Lib.hid ((hbx.block X (by omega)).trans HX4.out)
                  have HZ5 : Hid (X < W5.heap.size) := Lib.hid (by have := hbx.size; omega)
                  clear hown hgr hbx f0 f1 f2 f3 f4 f5 f6
                  go_wp2
                  go_roundw
                  case rel => exact ⟨k + 1, rm, true, ls ++ [(⟨kk, x.val, rm, i⟩ : Rw CkA), y], by omega, by go_num, rfl, HI1, Lib.hid (fun e => by cases e), Lib.hid (by simp; omega), HX5, HR5, HB5, HZ5⟩
                  case measure => simp [intOf]; omega
                | false =>
                  rw [hg] at hlt2
                  have g : Op.bytesLess (y.val.id).toList (x.val.id).toList = true := less_other _ _ false hg hz
                  clear hg
                  have HI1 : Hid (layR (⟨kk, x.val, rm, i⟩ : Rw CkA) false d.c.l = (ls ++ [y]) ++ layR (⟨kk, x.val, rm, i⟩ : Rw CkA) false (d.c.l.drop (k + 1))) := Lib.hid (by
                    rw [hinv.out, HD.out, layR, if_neg (by rw [hsm]; simp), if_neg (by rw [show ltT kk y.key = false from hlt2]; simp), List.append_assoc]
                    rfl)
                  have HMN : Hid (mk = i ∧ ∀ y ∈ d.c.l.take (k + 1), y.key ≠ kk) := Lib.hid (hmkN (by first | rfl | trivial))
                  have b1 := below1 wr #[.int .i64 y.val.node, .string y.val.id, .string y.val.svc, .string y.val.note, .int .i64 y.val.status, .int .u64 (y.made : Int), .int .u64 (y.ix : Int)] TCk
                  have k1 := (b1.block X hxs9).trans hxb.out
                  have sA : (wr.alloc (.cells #[.int .i64 y.val.node, .string y.val.id, .string y.val.svc, .string y.val.note, .int .i64 y.val.status, .int .u64 (y.made : Int), .int .u64 (y.ix : Int)] TCk)).heap.size = wr.heap.size + 1 := by simp
                  have hBA : Hid (Below Y w (wr.alloc (.cells #[.int .i64 y.val.node, .string y.val.id, .string y.val.svc, .string y.val.note, .int .i64 y.val.status, .int .u64 (y.made : Int), .int .u64 (y.ix : Int)] TCk))) := Lib.hid (hb.out.trans (b1.mono (by have := hb.out.size; have := HY.out; omega)))
                  have hRA : Hid (ckRow (wr.alloc (.cells #[.int .i64 y.val.node, .string y.val.id, .string y.val.svc, .string y.val.note, .int .i64 y.val.status, .int .u64 (y.made : Int), .int .u64 (y.ix : Int)] TCk)) (X + 1) _ ls) := Lib.hid (hrow.out.below b1)
                  have HKA := Lib.hid k1
                  have z0 := cellsN hxb.out 0 _ rfl
                  have z1 := cellsN hxb.out 1 _ rfl
                  have z2 := cellsN hxb.out 2 _ rfl
                  have z3 := cellsN hxb.out 3 _ rfl
                  have z4 := cellsN hxb.out 4 _ rfl
                  have z5 := cellsN hxb.out 5 _ rfl
                  have z6 := cellsN hxb.out 6 _ rfl
                  clear hsm hlt2 hms hgap2 b1 k1 hmkN hne q0
                  go_wp2_with (at_builtin; refine wpList_append_ck rfl (.tmp 136) (.tmp 138) rfl (X + 1) _ (ls) rfl ?qa (wr.heap.size + 1) y rfl ?qb ?qd ?qc ?_)
                  case qa => exact hRA.out.below ((Below.refl _ _).alloc (Nat.le_refl _) _)
                  case qb => exact (by have z9 := ck_new (wr.alloc (.cells #[.int .i64 y.val.node, .string y.val.id, .string y.val.svc, .string y.val.note, .int .i64 y.val.status, .int .u64 (y.made : Int), .int .u64 (y.ix : Int)] TCk)) y TCk; rw [sA] at z9; exact z9)
                  case qd => omega
                  case qc => first | (rw [sA]; omega) | ((try simp); omega)
                  refine Lib.hid ?_
                  intro vW4 W4 hown hgr
                  have hbx := ckRow.snoc hRA.out (Below.refl _ _) (by first | (rw [sA]; omega) | ((try simp); omega)) hgr
                  have HB4 := Lib.hid (hBA.out.trans (hbx.mono (by omega)))
                  have HR4 := Lib.hid hown
                  have HX4 : Hid (W4.heap[X]? = some (.cells #[.int .i64 x.val.node, .string x.val.id, .string x.val.svc, .string x.val.note, .int .i64 x.val.status, .int .u64 (mk : Int), .int .u64 (i : Int)] TCk (0, 0))) := Lib.hid ((hbx.block X (by omega)).trans HKA.out)
                  have HZ4 : Hid (X < W4.heap.size) := Lib.hid (by have := hbx.size; rw [sA] at this; omega)
                  clear hown hgr hbx hc0 e0 e1 e2 e3 e4 e5 e6 z0 z1 z2 z3 z4 z5 z6 sA
                  go_wp2
                  go_roundw
                  case rel => exact ⟨k + 1, mk, false, ls ++ [y], by omega, by go_num, rfl, HI1, Lib.hid (fun _ => HMN.out), Lib.hid (by simp; omega), HX4, HR4, HB4, HZ4⟩
                  case measure => simp [intOf]; omega
          · have q : (y.val.node == x.val.node) = false := beq_eq_false_iff_ne.2 q0
            rw [decide_eq_false q0, Bool.false_and] at hsm
            rw [decide_eq_false (show ¬ x.val.node = y.val.node from fun e => q0 e.symm), Bool.false_and, Bool.or_false] at hlt2
            have hne : y.key ≠ kk := text_other.1 hsm
            have hmkN : bb = false → mk = i ∧ ∀ z ∈ d.c.l.take (k + 1), z.key ≠ kk := fun e => ⟨(hmk.out e).1, fun z hz => by
              rw [HTk.out, List.mem_append, List.mem_singleton] at hz
              rcases hz with hz | rfl
              · exact (hmk.out e).2 z hz
              · exact hne⟩
            cases bb with
            | true =>
              have HI1 : Hid (layR (⟨kk, x.val, rm, i⟩ : Rw CkA) false d.c.l = (ls ++ [y]) ++ layR (⟨kk, x.val, rm, i⟩ : Rw CkA) true (d.c.l.drop (k + 1))) := Lib.hid (by
                rw [hinv.out, HD.out, layR, if_neg (by rw [hsm]; simp), if_neg (by simp), List.append_assoc]
                rfl)
              have b1 := below1 wr #[.int .i64 y.val.node, .string y.val.id, .string y.val.svc, .string y.val.note, .int .i64 y.val.status, .int .u64 (y.made : Int), .int .u64 (y.ix : Int)] TCk
              have k1 := (b1.block X hxs9).trans hxb.out
              have sA : (wr.alloc (.cells #[.int .i64 y.val.node, .string y.val.id, .string y.val.svc, .string y.val.note, .int .i64 y.val.status, .int .u64 (y.made : Int), .int .u64 (y.ix : Int)] TCk)).heap.size = wr.heap.size + 1 := by simp
              have hBA : Hid (Below Y w (wr.alloc (.cells #[.int .i64 y.val.node, .string y.val.id, .string y.val.svc, .string y.val.note, .int .i64 y.val.status, .int .u64 (y.made : Int), .int .u64 (y.ix : Int)] TCk))) := Lib.hid (hb.out.trans (b1.mono (by have := hb.out.size; have := HY.out; omega)))
              have hRA : Hid (ckRow (wr.alloc (.cells #[.int .i64 y.val.node, .string y.val.id, .string y.val.svc, .string y.val.note, .int .i64 y.val.status, .int .u64 (y.made : Int), .int .u64 (y.ix : Int)] TCk)) (X + 1) _ ls) := Lib.hid (hrow.out.below b1)
              have HKA := Lib.hid k1
              have z0 := cellsN hxb.out 0 _ rfl
              have z1 := cellsN hxb.out 1 _ rfl
              have z2 := cellsN hxb.out 2 _ rfl
              have z3 := cellsN hxb.out 3 _ rfl
              have z4 := cellsN hxb.out 4 _ rfl
              have z5 := cellsN hxb.out 5 _ rfl
              have z6 := cellsN hxb.out 6 _ rfl
              clear hsm hlt2 hms hgap2 b1 k1 hmkN hne q0
              go_wp2_with (at_builtin; refine wpList_append_ck rfl (.tmp 136) (.tmp 138) rfl (X + 1) _ (ls) rfl ?qa (wr.heap.size + 1) y rfl ?qb ?qd ?qc ?_)
              case qa => exact hRA.out.below ((Below.refl _ _).alloc (Nat.le_refl _) _)
              case qb => exact (by have z9 := ck_new (wr.alloc (.cells #[.int .i64 y.val.node, .string y.val.id, .string y.val.svc, .string y.val.note, .int .i64 y.val.status, .int .u64 (y.made : Int), .int .u64 (y.ix : Int)] TCk)) y TCk; rw [sA] at z9; exact z9)
              case qd => omega
              case qc => first | (rw [sA]; omega) | ((try simp); omega)
              refine Lib.hid ?_
              intro vW4 W4 hown hgr
              have hbx := ckRow.snoc hRA.out (Below.refl _ _) (by first | (rw [sA]; omega) | ((try simp); omega)) hgr
              have HB4 := Lib.hid (hBA.out.trans (hbx.mono (by omega)))
              have HR4 := Lib.hid hown
              have HX4 : Hid (W4.heap[X]? = some (.cells #[.int .i64 x.val.node, .string x.val.id, .string x.val.svc, .string x.val.note, .int .i64 x.val.status, .int .u64 (mk : Int), .int .u64 (i : Int)] TCk (0, 0))) := Lib.hid ((hbx.block X (by omega)).trans HKA.out)
              have HZ4 : Hid (X < W4.heap.size) := Lib.hid (by have := hbx.size; rw [sA] at this; omega)
              clear hown hgr hbx hc0 e0 e1 e2 e3 e4 e5 e6 z0 z1 z2 z3 z4 z5 z6 sA
              go_wp2
              go_roundw
              case rel => exact ⟨k + 1, mk, true, ls ++ [y], by omega, by go_num, rfl, HI1, Lib.hid (fun e => by cases e), Lib.hid (by simp; omega), HX4, HR4, HB4, HZ4⟩
              case measure => simp [intOf]; omega
            | false =>
              by_cases q3 : x.val.node < y.val.node
              · rw [decide_eq_true q3] at hlt2
                have hrm2 : mk = rm := by rw [(hmkN (by first | rfl | trivial)).1, ← HRm.out]; exact (hgap2 hlt2 (hmk.out (by first | rfl | trivial)).2).symm
                have HI1 : Hid (layR (⟨kk, x.val, rm, i⟩ : Rw CkA) false d.c.l = (ls ++ [(⟨kk, x.val, rm, i⟩ : Rw CkA), y]) ++ layR (⟨kk, x.val, rm, i⟩ : Rw CkA) true (d.c.l.drop (k + 1))) := Lib.hid (by
                  rw [hinv.out, HD.out, layR, if_neg (by rw [hsm]; simp), if_pos (by rw [show ltT kk y.key = true from hlt2]; rfl)]
                  simp)
                have hxb2 := hxb.out
                rw [hrm2] at hxb2
                have z0 := cellsN hxb2 0 _ rfl
                have z1 := cellsN hxb2 1 _ rfl
                have z2 := cellsN hxb2 2 _ rfl
                have z3 := cellsN hxb2 3 _ rfl
                have z4 := cellsN hxb2 4 _ rfl
                have z5 := cellsN hxb2 5 _ rfl
                have z6 := cellsN hxb2 6 _ rfl
                have b1 := below1 wr #[.int .i64 y.val.node, .string y.val.id, .string y.val.svc, .string y.val.note, .int .i64 y.val.status, .int .u64 (y.made : Int), .int .u64 (y.ix : Int)] TCk
                have k1 := (b1.block X hxs9).trans hxb2
                have kR := heap_alloc_new wr (.cells #[.int .i64 y.val.node, .string y.val.id, .string y.val.svc, .string y.val.note, .int .i64 y.val.status, .int .u64 (y.made : Int), .int .u64 (y.ix : Int)] TCk)
                have sA : (wr.alloc (.cells #[.int .i64 y.val.node, .string y.val.id, .string y.val.svc, .string y.val.note, .int .i64 y.val.status, .int .u64 (y.made : Int), .int .u64 (y.ix : Int)] TCk)).heap.size = wr.heap.size + 1 := by simp
                have hBA : Hid (Below Y w (wr.alloc (.cells #[.int .i64 y.val.node, .string y.val.id, .string y.val.svc, .string y.val.note, .int .i64 y.val.status, .int .u64 (y.made : Int), .int .u64 (y.ix : Int)] TCk))) := Lib.hid (hb.out.trans (b1.mono (by have := hb.out.size; have := HY.out; omega)))
                have hRA : Hid (ckRow (wr.alloc (.cells #[.int .i64 y.val.node, .string y.val.id, .string y.val.svc, .string y.val.note, .int .i64 y.val.status, .int .u64 (y.made : Int), .int .u64 (y.ix : Int)] TCk)) (X + 1) _ ls) := Lib.hid (hrow.out.below b1)
                have hfr := Lib.hid (fun j e => (hrow.out.from j e).2)
                have HKA := Lib.hid k1
                have HKR := Lib.hid kR
                clear hsm hlt2 hms hgap2 b1 k1 kR hmkN hne hxb2 q0
                go_wp2_with (at_builtin; refine wpList_append_ck rfl (.tmp 132) (.tmp 134) rfl (X + 1) _ (ls) rfl ?qa (wr.heap.size + 1) (⟨kk, x.val, rm, i⟩ : Rw CkA) rfl ?qb ?qd ?qc ?_)
                case qa => exact hRA.out.below ((Below.refl _ _).alloc (Nat.le_refl _) _)
                case qb => exact (by have z9 := ck_new (wr.alloc (.cells #[.int .i64 y.val.node, .string y.val.id, .string y.val.svc, .string y.val.note, .int .i64 y.val.status, .int .u64 (y.made : Int), .int .u64 (y.ix : Int)] TCk)) (⟨kk, x.val, rm, i⟩ : Rw CkA) TCk; rw [sA] at z9; exact z9)
                case qd => omega
                case qc => first | (rw [sA]; omega) | ((try simp); omega)
                refine Lib.hid ?_
                intro vW4 W4 hown hgr
                have hbx := ckRow.snoc hRA.out (Below.refl _ _) (by first | (rw [sA]; omega) | ((try simp); omega)) hgr
                have HB4 := Lib.hid (hBA.out.trans (hbx.mono (by omega)))
                have HR4 := Lib.hid hown
                have hx4 : W4.heap[X]? = some (.cells #[.int .i64 x.val.node, .string x.val.id, .string x.val.svc, .string x.val.note, .int .i64 x.val.status, .int .u64 (rm : Int), .int .u64 (i : Int)] TCk (0, 0)) := (hbx.block X (by omega)).trans HKA.out
                have hz4 : X + 1 < W4.heap.size := by have := hbx.size; rw [sA] at this; omega
                have hbu : But (fun k => k ≠ wr.heap.size) (wr.alloc (.cells #[.int .i64 y.val.node, .string y.val.id, .string y.val.svc, .string y.val.note, .int .i64 y.val.status, .int .u64 (y.made : Int), .int .u64 (y.ix : Int)] TCk)) W4 := (But.of_below ((Below.refl _ (wr.alloc (.cells #[.int .i64 y.val.node, .string y.val.id, .string y.val.svc, .string y.val.note, .int .i64 y.val.status, .int .u64 (y.made : Int), .int .u64 (y.ix : Int)] TCk))).alloc (Nat.le_refl _) _)).trans (But.of_grown (S := fun k => k ≠ wr.heap.size) hgr fun r e _ => by have := hfr.out r e; omega)
                have kR4 : W4.heap[wr.heap.size]? = some (.cells #[.int .i64 y.val.node, .string y.val.id, .string y.val.svc, .string y.val.note, .int .i64 y.val.status, .int .u64 (y.made : Int), .int .u64 (y.ix : Int)] TCk (0, 0)) := (hbu.block wr.heap.size (by rw [sA]; omega) (by simp)).trans HKR.out
                obtain ⟨f0, f1, f2, f3, f4, f5, f6⟩ := ck_blk kR4
                have HX4 := Lib.hid hx4
                clear hown hgr hbx hx4 hbu kR4 hc0 e0 e1 e2 e3 e4 e5 e6 z0 z1 z2 z3 z4 z5 z6 sA
                go_wp2_with (at_builtin; refine wpList_append_ck rfl (.tmp 136) (.tmp 138) rfl (X + 1) _ (ls ++ [(⟨kk, x.val, rm, i⟩ : Rw CkA)]) rfl ?qa (W4.heap.size) y rfl ?qb ?qd ?qc ?_)
                case qa => exact HR4.out.below ((Below.refl _ _).alloc (Nat.le_refl _) _)
                case qb => exact (by have z9 := ck_new (W4) y TCk; exact z9)
                case qd => simp; omega
                case qc => first | (rw [hzz]; omega) | ((try simp); omega)
                refine Lib.hid ?_
                intro vW5 W5 hown hgr
                have hbx := ckRow.snoc HR4.out (Below.refl _ _) (by first | (rw [hzz]; omega) | ((try simp); omega)) hgr
                have HB5 := Lib.hid (HB4.out.trans (hbx.mono (by omega)))
                have HR5 := Lib.hid hown
                have HX5 : Hid (W5.heap[X]? = some (.cells #[.int .i64 x.val.node, .string x.val.id, .string x.val.svc, .string x.val.note, .int .i64 x.val.status, .int .u64 (rm : Int), .int .u64 (i : Int)] TCk (0, 0))) := Lib.hid ((hbx.block X (by omega)).trans HX4.out)
                have HZ5 : Hid (X < W5.heap.size) := Lib.hid (by have := hbx.size; omega)
                clear hown hgr hbx f0 f1 f2 f3 f4 f5 f6
                go_wp2
                go_roundw
                case rel => exact ⟨k + 1, rm, true, ls ++ [(⟨kk, x.val, rm, i⟩ : Rw CkA), y], by omega, by go_num, rfl, HI1, Lib.hid (fun e => by cases e), Lib.hid (by simp; omega), HX5, HR5, HB5, HZ5⟩
                case measure => simp [intOf]; omega
              · rw [decide_eq_false q3] at hlt2
                have HI1 : Hid (layR (⟨kk, x.val, rm, i⟩ : Rw CkA) false d.c.l = (ls ++ [y]) ++ layR (⟨kk, x.val, rm, i⟩ : Rw CkA) false (d.c.l.drop (k + 1))) := Lib.hid (by
                  rw [hinv.out, HD.out, layR, if_neg (by rw [hsm]; simp), if_neg (by rw [show ltT kk y.key = false from hlt2]; simp), List.append_assoc]
                  rfl)
                have HMN : Hid (mk = i ∧ ∀ y ∈ d.c.l.take (k + 1), y.key ≠ kk) := Lib.hid (hmkN (by first | rfl | trivial))
                have b1 := below1 wr #[.int .i64 y.val.node, .string y.val.id, .string y.val.svc, .string y.val.note, .int .i64 y.val.status, .int .u64 (y.made : Int), .int .u64 (y.ix : Int)] TCk
                have k1 := (b1.block X hxs9).trans hxb.out
                have sA : (wr.alloc (.cells #[.int .i64 y.val.node, .string y.val.id, .string y.val.svc, .string y.val.note, .int .i64 y.val.status, .int .u64 (y.made : Int), .int .u64 (y.ix : Int)] TCk)).heap.size = wr.heap.size + 1 := by simp
                have hBA : Hid (Below Y w (wr.alloc (.cells #[.int .i64 y.val.node, .string y.val.id, .string y.val.svc, .string y.val.note, .int .i64 y.val.status, .int .u64 (y.made : Int), .int .u64 (y.ix : Int)] TCk))) := Lib.hid (hb.out.trans (b1.mono (by have := hb.out.size; have := HY.out; omega)))
                have hRA : Hid (ckRow (wr.alloc (.cells #[.int .i64 y.val.node, .string y.val.id, .string y.val.svc, .string y.val.note, .int .i64 y.val.status, .int .u64 (y.made : Int), .int .u64 (y.ix : Int)] TCk)) (X + 1) _ ls) := Lib.hid (hrow.out.below b1)
                have HKA := Lib.hid k1
                have z0 := cellsN hxb.out 0 _ rfl
                have z1 := cellsN hxb.out 1 _ rfl
                have z2 := cellsN hxb.out 2 _ rfl
                have z3 := cellsN hxb.out 3 _ rfl
                have z4 := cellsN hxb.out 4 _ rfl
                have z5 := cellsN hxb.out 5 _ rfl
                have z6 := cellsN hxb.out 6 _ rfl
                clear hsm hlt2 hms hgap2 b1 k1 hmkN hne q0
                go_wp2_with (at_builtin; refine wpList_append_ck rfl (.tmp 136) (.tmp 138) rfl (X + 1) _ (ls) rfl ?qa (wr.heap.size + 1) y rfl ?qb ?qd ?qc ?_)
                case qa => exact hRA.out.below ((Below.refl _ _).alloc (Nat.le_refl _) _)
                case qb => exact (by have z9 := ck_new (wr.alloc (.cells #[.int .i64 y.val.node, .string y.val.id, .string y.val.svc, .string y.val.note, .int .i64 y.val.status, .int .u64 (y.made : Int), .int .u64 (y.ix : Int)] TCk)) y TCk; rw [sA] at z9; exact z9)
                case qd => omega
                case qc => first | (rw [sA]; omega) | ((try simp); omega)
                refine Lib.hid ?_
                intro vW4 W4 hown hgr
                have hbx := ckRow.snoc hRA.out (Below.refl _ _) (by first | (rw [sA]; omega) | ((try simp); omega)) hgr
                have HB4 := Lib.hid (hBA.out.trans (hbx.mono (by omega)))
                have HR4 := Lib.hid hown
                have HX4 : Hid (W4.heap[X]? = some (.cells #[.int .i64 x.val.node, .string x.val.id, .string x.val.svc, .string x.val.note, .int .i64 x.val.status, .int .u64 (mk : Int), .int .u64 (i : Int)] TCk (0, 0))) := Lib.hid ((hbx.block X (by omega)).trans HKA.out)
                have HZ4 : Hid (X < W4.heap.size) := Lib.hid (by have := hbx.size; rw [sA] at this; omega)
                clear hown hgr hbx hc0 e0 e1 e2 e3 e4 e5 e6 z0 z1 z2 z3 z4 z5 z6 sA
                go_wp2
                go_roundw
                case rel => exact ⟨k + 1, mk, false, ls ++ [y], by omega, by go_num, rfl, HI1, Lib.hid (fun _ => HMN.out), Lib.hid (by simp; omega), HX4, HR4, HB4, HZ4⟩
                case measure => simp [intOf]; omega
        · have hkL : k = L := by omega
          have hdk : d.c.l.drop k = [] := List.drop_eq_nil_of_le (by rw [HL.out]; omega)
          have htk : d.c.l.take k = d.c.l := List.take_of_length_le (by rw [HL.out]; omega)
          have hI := hinv.out
          rw [hdk] at hI
          have hd := HH.out.below (by rw [HY.out]; exact hb.out)
          have hc0 := hd.cells.2.2.2.1
          rw [show (d.c.l.length) = L from HL.out] at hc0
          clear hd hdk
          cases bb with
          | true =>
            have hMM : layR (⟨kk, x.val, rm, i⟩ : Rw CkA) false d.c.l = ls := by
              rw [hI]; simp [layR]
            obtain ⟨M, hM⟩ : ∃ M, ls = M := ⟨_, rfl⟩
            have hrz := hrow.out
            rw [hM] at hMM hrz
            have hd2 := HH.out.below (w' := wr) (by rw [HY.out]; exact hb.out)
            have hcz := hd2.cells.2.2.2.1
            rw [show (d.c.l.length) = L from HL.out] at hcz
            have z := hd2.froz 3
            have hl := hd2.lt
            obtain ⟨A9, c9, rfl, k1, k2, k3, k4⟩ := SK.of_row ckC_len hrz
            have hset := (hd2.narrow (S' := fun k => S k ∨ Y ≤ k) (fun _ _ z => .inl (HSs.out _ z)) (fun k z => z.elim (HLo.out k) (Nat.le_trans HTop.out))).set3 (A := A9) (c := c9) (l := M) ⟨k1, fun b off e _ => ⟨.inr (by have := k4 b off e; omega), by have := k4 b off e; omega⟩, k2, k3⟩
            have HRs := Lib.hid (rdraise3_any i hset)
            have HB5 : Hid (But (· = B) w (wr.setCell ⟨B, 3, none⟩ (.slice A9 M.length c9))) := Lib.hid ((But.of_below (by rw [HY.out]; exact hb.out)).trans (But.set (S := (· = B)) wr (p := ⟨B, 3, none⟩) rfl (.slice A9 M.length c9)))
            have HMM := Lib.hid hMM
            clear hset k1 k4 hd2 hMM hM hc0
            go_wp2_with fail
            refine HRs.out.mono ?_
            rintro e w2 ⟨rfl, hd3, hb3⟩
            have HD3 := Lib.hid hd3
            have HB6 := Lib.hid (HB5.out.trans hb3)
            clear hd3 hb3
            go_wp2
            go_ret
            have HOk4 := HOk3.out
            rw [HMM.out] at HOk4
            rw [HY.out, HMM.out]
            exact ⟨rfl, ⟨HOk4, _, _, _, _, _, _, _, HD3.out⟩, HB6.out⟩
          | false =>
            obtain ⟨hmi, hno⟩ := hmk.out (by first | rfl | trivial)
            rw [htk] at hno
            have hrm2 : mk = rm := by rw [hmi, ← HRm.out]; exact (made_none (t := (⟨0, d.c.l, 0⟩ : Tb CkA)) hno).symm
            have hxb2 := hxb.out
            rw [hrm2] at hxb2
            have z0 := cellsN hxb2 0 _ rfl
            have z1 := cellsN hxb2 1 _ rfl
            have z2 := cellsN hxb2 2 _ rfl
            have z3 := cellsN hxb2 3 _ rfl
            have z4 := cellsN hxb2 4 _ rfl
            have z5 := cellsN hxb2 5 _ rfl
            have z6 := cellsN hxb2 6 _ rfl
            clear hxb2 htk
            go_wp2_with (at_builtin; refine wpList_append_ck rfl (.tmp 142) (.tmp 144) rfl (X + 1) _ (ls) rfl ?qa (wr.heap.size) (⟨kk, x.val, rm, i⟩ : Rw CkA) rfl ?qb ?qd ?qc ?_)
            case qa => exact hrow.out.below ((Below.refl _ _).alloc (Nat.le_refl _) _)
            case qb => exact (by have z9 := ck_new (wr) (⟨kk, x.val, rm, i⟩ : Rw CkA) TCk; exact z9)
            case qd => omega
            case qc => first | (rw [hzz]; omega) | ((try simp); omega)
            refine Lib.hid ?_
            intro vW4 W4 hown hgr
            have hbx := ckRow.snoc hrow.out (Below.refl _ _) (by first | (rw [hzz]; omega) | ((try simp); omega)) hgr
            have HB4 := Lib.hid (hb.out.trans (hbx.mono (by omega)))
            have HR4 := Lib.hid hown
            clear hown hgr hbx z0 z1 z2 z3 z4 z5 z6
            have hMM : layR (⟨kk, x.val, rm, i⟩ : Rw CkA) false d.c.l = ls ++ [(⟨kk, x.val, rm, i⟩ : Rw CkA)] := by
              rw [hI]; simp [layR]
            obtain ⟨M, hM⟩ : ∃ M, ls ++ [(⟨kk, x.val, rm, i⟩ : Rw CkA)] = M := ⟨_, rfl⟩
            have hrz := HR4.out
            rw [hM] at hMM hrz
            have hd2 := HH.out.below (w' := W4) (by rw [HY.out]; exact HB4.out)
            have hcz := hd2.cells.2.2.2.1
            rw [show (d.c.l.length) = L from HL.out] at hcz
            have z := hd2.froz 3
            have hl := hd2.lt
            obtain ⟨A9, c9, rfl, k1, k2, k3, k4⟩ := SK.of_row ckC_len hrz
            have hset := (hd2.narrow (S' := fun k => S k ∨ Y ≤ k) (fun _ _ z => .inl (HSs.out _ z)) (fun k z => z.elim (HLo.out k) (Nat.le_trans HTop.out))).set3 (A := A9) (c := c9) (l := M) ⟨k1, fun b off e _ => ⟨.inr (by have := k4 b off e; omega), by have := k4 b off e; omega⟩, k2, k3⟩
            have HRs := Lib.hid (rdraise3_any i hset)
            have HB5 : Hid (But (· = B) w (W4.setCell ⟨B, 3, none⟩ (.slice A9 M.length c9))) := Lib.hid ((But.of_below (by rw [HY.out]; exact HB4.out)).trans (But.set (S := (· = B)) W4 (p := ⟨B, 3, none⟩) rfl (.slice A9 M.length c9)))
            have HMM := Lib.hid hMM
            clear hset k1 k4 hd2 hMM hM hc0
            go_wp2_with fail
            refine HRs.out.mono ?_
            rintro e w2 ⟨rfl, hd3, hb3⟩
            have HD3 := Lib.hid hd3
            have HB6 := Lib.hid (HB5.out.trans hb3)
            clear hd3 hb3
            go_wp2
            go_ret
            have HOk4 := HOk3.out
            rw [HMM.out] at HOk4
            rw [HY.out, HMM.out]
            exact ⟨rfl, ⟨HOk4, _, _, _, _, _, _, _, HD3.out⟩, HB6.out⟩
end
end Go.Proofs.YtilkbfmaofmjoaaGreatDoor
namespace Go.Proofs.YtilkbfmaofmjoaaGreatDoor
open Go.RowKit Go.Rel
set_option linter.unusedSimpArgs false
set_option linter.unusedVariables false
section
variable {base : Nat} {S : Nat → Prop} {w : World} {B : Nat} {A1 A2 A3 : Option Addr} {c1 c2 c3 m : Nat} {l2 : List (Rw SvW)} {d : Ro}
set_option maxHeartbeats 16000000 in
set_option maxRecDepth 100000 in
theorem rdcheck_f (x : Rw CkA) (i : Nat) (hok : RoOk m d) (hx : CkIn x) (hw : d.wrongC x.val = 0) (hb : d.c.l.any (fun r : Rw CkA => idC x.val.node x.val.id r.val) = false) (hlm : m ≤ d.c.l.length) (h : RdIs base S w B A1 A2 A3 c1 c2 c3 m l2 d) (hi : i < 18446744073709551616) : Calls Tryz.prog 40 #[.pointer (some ⟨B, 0, none⟩), ckV x, .int .u64 (i : Int)] w fun e w' => e = .returned (.int .i64 5) ∧ RdAt base (fun k => S k ∨ w.heap.size ≤ k) w' B m d ∧ But (· = B) w w' := by
  have KEEP : Hid (∀ w', Below w.heap.size w w' → RdIs base (fun k => S k ∨ w.heap.size ≤ k) w' B A1 A2 A3 c1 c2 c3 m l2 d ∧ But (· = B) w w') := Lib.hid fun w' hb => ⟨(h.below hb).narrow (fun _ _ z => .inl z) (fun k z => z.elim (h.lo k) (Nat.le_trans h.top)), But.of_below hb⟩
  have b0 := below1 w #[.int .i64 x.val.node, .string x.val.id, .string x.val.svc, .string x.val.note, .int .i64 x.val.status, .int .u64 (x.made : Int), .int .u64 (x.ix : Int)] TCk
  have k0 := heap_alloc_new w (.cells #[.int .i64 x.val.node, .string x.val.id, .string x.val.svc, .string x.val.note, .int .i64 x.val.status, .int .u64 (x.made : Int), .int .u64 (x.ix : Int)] TCk)
  obtain ⟨X, hX⟩ : ∃ X, w.heap.size = X := ⟨_, rfl⟩
  obtain ⟨W1, hW1⟩ : ∃ W1, w.alloc (.cells #[.int .i64 x.val.node, .string x.val.id, .string x.val.svc, .string x.val.note, .int .i64 x.val.status, .int .u64 (x.made : Int), .int .u64 (x.ix : Int)] TCk) = W1 := ⟨_, rfl⟩
  rw [hW1] at b0 k0
  rw [hX] at k0
  have HWr := Lib.hid (by
    have := rdwrongc_any x hok hx (h.below b0)
    unfold ckV at this
    rw [hw] at this
    exact this : Calls Tryz.prog 85 #[.pointer (some ⟨B, 0, none⟩), .agg #[.int .i64 x.val.node, .string x.val.id, .string x.val.svc, .string x.val.note, .int .i64 x.val.status, .int .u64 (x.made : Int), .int .u64 (x.ix : Int)]] W1 fun e w' => e = .returned (.int .i64 0) ∧ Below W1.heap.size W1 w')
  have HI9 := Lib.hid (fun W (hW : Below w.heap.size w W) => h.below hW)
  have HAny := Lib.hid hb
  have hm1 := hok.most.2
  obtain ⟨L, hL⟩ : ∃ L, d.c.l.length = L := ⟨_, rfl⟩
  have h64 : L ≤ 64 := by rw [← hL]; exact Nat.le_trans hok.cok.len hok.cok.most.2
  rw [hL] at hlm
  have HD1 : Hid (decide (m ≤ L) = true) := Lib.hid (decide_eq_true (by omega))
  have HL := Lib.hid hL
  have HB1 := Lib.hid b0
  have HK1 := Lib.hid k0
  have HW1 := Lib.hid hW1
  have HX := Lib.hid hX
  have HOkR := Lib.hid hok
  unfold ckV
  clear h hok hx hw hb hi b0 k0 hW1 hX hL hlm
  go_enter Tryz.func40, Tryz.ntmps40
  go_wp2_with fail
  rw [HW1.out, HX.out]
  refine HWr.out.mono ?_
  rintro e W2 ⟨rfl, hb⟩
  have HB2 := Lib.hid (HB1.out.trans (hb.mono HB1.out.size))
  have hx1 := block_lt HK1.out
  have hkx := (hb.block X hx1).trans HK1.out
  have HKx := Lib.hid hkx
  have HLx := Lib.hid (block_lt hkx)
  clear hb hx1 hkx HWr
  go_wp2
  go_loopw [8, 9] (fun bv iv wr => ∃ k : Nat, k ≤ L ∧ iv = .int .i64 (k : Int) ∧ bv = .bool ((d.c.l.take k).any (fun r : Rw CkA => idC x.val.node x.val.id r.val)) ∧ Hid (Below W2.heap.size W2 wr)) (fun _ iv _ => L - (intOf iv).toNat)
  case atStart => exact ⟨0, Nat.zero_le _, rfl, rfl, Lib.hid (Below.refl _ _)⟩
  case round =>
    obtain ⟨k, hk, rfl, rfl, hb⟩ := hrel
    have hbw : Below w.heap.size w wr := HB2.out.trans (hb.out.mono HB2.out.size)
    have hd := HI9.out wr hbw
    obtain ⟨hm0, -, -, hc0, -⟩ := hd.cells
    rw [HL.out] at hc0
    have hx3 := (hb.out.block X HLx.out).trans HKx.out
    have hxl := block_lt hx3
    have HX3 := Lib.hid hx3
    by_cases hlt : k < L
    · have hkl : k < d.c.l.length := by rw [HL.out]; exact hlt
      obtain ⟨b, off, rfl, hbl, hit⟩ := hd.r3.row.at_ hkl hkl
      have hst : (d.c.l.take (k + 1)).any (fun r : Rw CkA => idC x.val.node x.val.id r.val) = ((d.c.l.take k).any (fun r : Rw CkA => idC x.val.node x.val.id r.val) || (decide ((d.c.l[k]).val.node = x.val.node) && ((d.c.l[k]).val.id.toList == x.val.id.toList))) := by rw [List.take_succ_eq_append_getElem hkl, List.any_append, List.any_cons, List.any_nil, Bool.or_false]; rfl
      obtain ⟨y, hy⟩ : ∃ y, d.c.l[k] = y := ⟨_, rfl⟩
      rw [hy] at hst hit
      obtain ⟨pb, hpb⟩ : ∃ pb, (d.c.l.take k).any (fun r : Rw CkA => idC x.val.node x.val.id r.val) = pb := ⟨_, rfl⟩
      rw [hpb] at hst ⊢
      obtain ⟨e0, e1, e2, e3, e4, e5, e6⟩ := ck_cells hit
      obtain ⟨z0, z1, z2, z3, z4, z5, z6⟩ := ck_blk hx3
      have HB := hb
      clear hd hit hy hpb hx3 hbw
      cases pb with
      | true =>
        have HSt : Hid ((d.c.l.take (k + 1)).any (fun r : Rw CkA => idC x.val.node x.val.id r.val) = true) := Lib.hid (by rw [hst]; rfl)
        clear hst
        go_wp2
        go_quiet (fail)
        generalize hWq : wr.drewN _ = wq
        have HBq : Hid (Below W2.heap.size W2 wq) := Lib.hid (by rw [← hWq]; exact below_drewN HB.out _)
        clear hWq hm0 hc0 e0 e1 e2 e3 e4 e5 e6 z0 z1 z2 z3 z4 z5 z6 hxl hbl
        go_wp2
        go_roundw
        case rel => exact ⟨k + 1, by omega, by go_num, by rw [HSt.out], HBq⟩
        case measure => simp [intOf]; omega
      | false =>
        rw [Bool.false_or] at hst
        by_cases q0 : y.val.node = x.val.node
        · have q : (y.val.node == x.val.node) = true := beq_iff_eq.2 q0
          rw [decide_eq_true q0, Bool.true_and] at hst
          cases hz : (y.val.id.toList == x.val.id.toList) with
          | true =>
            rw [hz] at hst
            have HSt := Lib.hid hst
            clear hst q0
            go_wp2
            go_quiet (fail)
            generalize hWq : wr.drewN _ = wq
            have HBq : Hid (Below W2.heap.size W2 wq) := Lib.hid (by rw [← hWq]; exact below_drewN HB.out _)
            clear hWq hm0 hc0 e0 e1 e2 e3 e4 e5 e6 z0 z1 z2 z3 z4 z5 z6 hxl hbl
            go_wp2
            go_roundw
            case rel => exact ⟨k + 1, by omega, by go_num, by rw [HSt.out], HBq⟩
            case measure => simp [intOf]; omega
          | false =>
            rw [hz] at hst
            have HSt := Lib.hid hst
            clear hst q0
            go_wp2
            go_quiet (fail)
            generalize hWq : wr.drewN _ = wq
            have HBq : Hid (Below W2.heap.size W2 wq) := Lib.hid (by rw [← hWq]; exact below_drewN HB.out _)
            clear hWq hm0 hc0 e0 e1 e2 e3 e4 e5 e6 z0 z1 z2 z3 z4 z5 z6 hxl hbl
            go_wp2
            go_roundw
            case rel => exact ⟨k + 1, by omega, by go_num, by rw [HSt.out], HBq⟩
            case measure => simp [intOf]; omega
        · have q : (y.val.node == x.val.node) = false := beq_eq_false_iff_ne.2 q0
          rw [decide_eq_false q0, Bool.false_and] at hst
          have HSt := Lib.hid hst
          clear hst q0
          go_wp2
          go_quiet (fail)
          generalize hWq : wr.drewN _ = wq
          have HBq : Hid (Below W2.heap.size W2 wq) := Lib.hid (by rw [← hWq]; exact below_drewN HB.out _)
          clear hWq hm0 hc0 e0 e1 e2 e3 e4 e5 e6 z0 z1 z2 z3 z4 z5 z6 hxl hbl
          go_wp2
          go_roundw
          case rel => exact ⟨k + 1, by omega, by go_num, by rw [HSt.out], HBq⟩
          case measure => simp [intOf]; omega
    · have ht : d.c.l.take k = d.c.l := List.take_of_length_le (by rw [HL.out]; omega)
      rw [ht, HAny.out]
      have HBk := hb
      have d1 := HD1.out
      clear ht hd hx3 hbw
      go_wp2
      go_quiet (fail)
      generalize hWq : wr.drewN _ = wq
      have HBq : Hid (Below W2.heap.size W2 wq) := Lib.hid (by rw [← hWq]; exact below_drewN HBk.out _)
      clear hWq hm0 hc0 hxl d1
      have HB3 := Lib.hid (HB2.out.trans (HBq.out.mono HB2.out.size))
      go_wp2
      go_ret
      have z9 := KEEP.out _ HB3.out
      exact ⟨rfl, ⟨HOkR.out, _, _, _, _, _, _, _, z9.1⟩, z9.2⟩
end
end Go.Proofs.YtilkbfmaofmjoaaGreatDoor
namespace Go.Proofs.YtilkbfmaofmjoaaGreatDoor
open Go.RowKit
set_option linter.unusedSimpArgs false
set_option linter.unusedVariables false
section
variable {base : Nat} {S : Nat → Prop} {w : World} {B m : Nat} {d : Ro}
set_option maxHeartbeats 2000000 in
set_option maxRecDepth 100000 in
theorem rdservice_any (x : Rw SvW) (i : Nat) (h : RdAt base S w B m d) (hx : SvIn w x) (ht : TgAt (fun k => k < base) w x.val) (hi : i < 18446744073709551616) : Calls Tryz.prog 38 #[.pointer (some ⟨B, 0, none⟩), svV x, .int .u64 (i : Int)] w fun e w' => e = .returned (.int .i64 ((d.service x.val.a i).1 : Int)) ∧ RdAt base (fun k => S k ∨ w.heap.size ≤ k) w' B m (d.service x.val.a i).2 ∧ But (· = B) w w' := by
  have HAt := Lib.hid h
  obtain ⟨hok, A1, A2, A3, c1, c2, c3, l2, h⟩ := h
  obtain ⟨er, her⟩ : ∃ er, d.wrongS x.val.a = er := ⟨_, rfl⟩
  by_cases h0 : er = 0
  · subst h0
    have hn := (wrongS_ok.1 her).1.node
    cases hb : d.has x.val.a.node x.val.a.id with
    | true =>
      have h1 := rdservice_a x i hok hx ht her hb h hi
      have h2 : (d.service x.val.a i).1 = 0 := by
        unfold Ro.service layE
        rw [her, if_neg (by simp)]
        have : d.s.fullB x.val.a.key = false := by
          unfold Tb.fullB SvA.key
          have h3 : (getR d.s.l (keyO x.val.a.node x.val.a.id)).isSome = true := hb
          cases e2 : getR d.s.l (keyO x.val.a.node x.val.a.id) with
          | none => rw [e2] at h3; cases h3
          | some r => rfl
        rw [this]
        rfl
      rw [h2]
      exact h1
    | false =>
      have h4 : (getR d.s.l (keyO x.val.a.node x.val.a.id)).isNone = true := by
        have h3 : (getR d.s.l (keyO x.val.a.node x.val.a.id)).isSome = false := hb
        cases e2 : getR d.s.l (keyO x.val.a.node x.val.a.id) with
        | none => rfl
        | some r => rw [e2] at h3; cases h3
      by_cases hl : l2.length < m
      · have h1 := rdservice_b x i hok hx ht her hb hl h hi
        have h2 : (d.service x.val.a i).1 = 0 := by
          unfold Ro.service layE
          rw [her, if_neg (by simp)]
          have : d.s.fullB x.val.a.key = false := by
            unfold Tb.fullB
            rw [decide_eq_false (by rw [hok.sm, ← h.len2]; omega), Bool.and_false]
          rw [this]
          rfl
        rw [h2]
        exact h1
      · have h1 := rdservice_f x i hok hx ht her hb (by omega) h hi
        have h2 : d.service x.val.a i = (5, d) := by
          have : d.s.fullB x.val.a.key = true := by
            unfold Tb.fullB SvA.key
            rw [h4, decide_eq_true (by rw [hok.sm, ← h.len2]; omega)]
            rfl
          unfold Ro.service layE Tb.putT
          rw [her, if_neg (by simp), this]
          rfl
        rw [h2]
        exact h1
  · have hd : d.service x.val.a i = (er, d) := by
      unfold Ro.service
      rw [her, if_pos h0]
    rw [hd]
    have b0 := below1 w #[.int .i64 x.val.a.node, .string x.val.a.id, .string x.val.a.name, .slice x.val.A x.val.n x.val.c, .int .i64 x.val.a.port, .int .u64 (x.made : Int), .int .u64 (x.ix : Int)] TSv
    obtain ⟨X, hX⟩ : ∃ X, w.heap.size = X := ⟨_, rfl⟩
    obtain ⟨W1, hW1⟩ : ∃ W1, w.alloc (.cells #[.int .i64 x.val.a.node, .string x.val.a.id, .string x.val.a.name, .slice x.val.A x.val.n x.val.c, .int .i64 x.val.a.port, .int .u64 (x.made : Int), .int .u64 (x.ix : Int)] TSv) = W1 := ⟨_, rfl⟩
    rw [hW1] at b0
    have HWr := Lib.hid (by
      have := rdwrongs_any x hok (hx.below b0) (h.below b0)
      unfold svV at this
      rw [her] at this
      exact this : Calls Tryz.prog 83 #[.pointer (some ⟨B, 0, none⟩), .agg #[.int .i64 x.val.a.node, .string x.val.a.id, .string x.val.a.name, .slice x.val.A x.val.n x.val.c, .int .i64 x.val.a.port, .int .u64 (x.made : Int), .int .u64 (x.ix : Int)]] W1 fun e w' => e = .returned (.int .i64 (er : Int)) ∧ Below W1.heap.size W1 w')
    have HB1 := Lib.hid b0
    have HW1 := Lib.hid hW1
    have HX := Lib.hid hX
    have q : ((er : Int) == 0) = false := beq_eq_false_iff_ne.2 (by omega)
    have q2 : ((er : Int) != 0) = true := by rw [bne, q]; rfl
    have HTop : Hid (base ≤ w.heap.size) := Lib.hid h.top
    unfold svV
    clear b0 hW1 hX h hx ht hd her hok hi
    go_enter Tryz.func38, Tryz.ntmps38
    go_wp2_with fail
    rw [HW1.out, HX.out]
    refine HWr.out.mono ?_
    rintro e W2 ⟨rfl, hb⟩
    have HB := Lib.hid (HB1.out.trans (hb.mono HB1.out.size))
    clear hb
    go_wp2
    go_ret
    exact ⟨rfl, (HAt.out.below HB.out).narrow (fun _ _ z => .inl z) (fun k z => z.elim (HAt.out.lo k) (Nat.le_trans HTop.out)), But.of_below HB.out⟩
set_option maxHeartbeats 2000000 in
set_option maxRecDepth 100000 in
theorem rdcheck_any (x : Rw CkA) (i : Nat) (h : RdAt base S w B m d) (hx : CkIn x) (hi : i < 18446744073709551616) : Calls Tryz.prog 40 #[.pointer (some ⟨B, 0, none⟩), ckV x, .int .u64 (i : Int)] w fun e w' => e = .returned (.int .i64 ((d.check x.val i).1 : Int)) ∧ RdAt base (fun k => S k ∨ w.heap.size ≤ k) w' B m (d.check x.val i).2 ∧ But (· = B) w w' := by
  have HAt := Lib.hid h
  obtain ⟨hok, A1, A2, A3, c1, c2, c3, l2, h⟩ := h
  obtain ⟨er, her⟩ : ∃ er, d.wrongC x.val = er := ⟨_, rfl⟩
  by_cases h0 : er = 0
  · subst h0
    have hn := (wrongC_ok.1 her).1.node
    have hid := hok.id_iff x.val.node x.val.id
    cases hb : d.c.l.any (fun r : Rw CkA => idC x.val.node x.val.id r.val) with
    | true =>
      have h1 := rdcheck_a x i hok hx her hb h hi
      have h2 : (d.check x.val i).1 = 0 := by
        unfold Ro.check layE
        rw [her, if_neg (by simp)]
        have : d.c.fullB x.val.key = false := by
          unfold Tb.fullB CkA.key
          rw [hb] at hid
          cases e2 : getR d.c.l (keyO x.val.node x.val.id) with
          | none => rw [e2] at hid; cases hid
          | some r => rfl
        rw [this]
        rfl
      rw [h2]
      exact h1
    | false =>
      rw [hb] at hid
      have h4 : (getR d.c.l (keyO x.val.node x.val.id)).isNone = true := by
        cases e2 : getR d.c.l (keyO x.val.node x.val.id) with
        | none => rfl
        | some r => rw [e2] at hid; cases hid
      by_cases hl : d.c.l.length < m
      · have h1 := rdcheck_b x i hok hx her hb hl h hi
        have h2 : (d.check x.val i).1 = 0 := by
          unfold Ro.check layE
          rw [her, if_neg (by simp)]
          have : d.c.fullB x.val.key = false := by
            unfold Tb.fullB
            rw [decide_eq_false (by rw [hok.cm]; omega), Bool.and_false]
          rw [this]
          rfl
        rw [h2]
        exact h1
      · have h1 := rdcheck_f x i hok hx her hb (by omega) h hi
        have h2 : d.check x.val i = (5, d) := by
          have : d.c.fullB x.val.key = true := by
            unfold Tb.fullB CkA.key
            rw [h4, decide_eq_true (by rw [hok.cm]; omega)]
            rfl
          unfold Ro.check layE Tb.putT
          rw [her, if_neg (by simp), this]
          rfl
        rw [h2]
        exact h1
  · have hd : d.check x.val i = (er, d) := by
      unfold Ro.check
      rw [her, if_pos h0]
    rw [hd]
    have b0 := below1 w #[.int .i64 x.val.node, .string x.val.id, .string x.val.svc, .string x.val.note, .int .i64 x.val.status, .int .u64 (x.made : Int), .int .u64 (x.ix : Int)] TCk
    obtain ⟨X, hX⟩ : ∃ X, w.heap.size = X := ⟨_, rfl⟩
    obtain ⟨W1, hW1⟩ : ∃ W1, w.alloc (.cells #[.int .i64 x.val.node, .string x.val.id, .string x.val.svc, .string x.val.note, .int .i64 x.val.status, .int .u64 (x.made : Int), .int .u64 (x.ix : Int)] TCk) = W1 := ⟨_, rfl⟩
    rw [hW1] at b0
    have HWr := Lib.hid (by
      have := rdwrongc_any x hok hx (h.below b0)
      unfold ckV at this
      rw [her] at this
      exact this : Calls Tryz.prog 85 #[.pointer (some ⟨B, 0, none⟩), .agg #[.int .i64 x.val.node, .string x.val.id, .string x.val.svc, .string x.val.note, .int .i64 x.val.status, .int .u64 (x.made : Int), .int .u64 (x.ix : Int)]] W1 fun e w' => e = .returned (.int .i64 (er : Int)) ∧ Below W1.heap.size W1 w')
    have HB1 := Lib.hid b0
    have HW1 := Lib.hid hW1
    have HX := Lib.hid hX
    have q : ((er : Int) == 0) = false := beq_eq_false_iff_ne.2 (by omega)
    have q2 : ((er : Int) != 0) = true := by rw [bne, q]; rfl
    have HTop : Hid (base ≤ w.heap.size) := Lib.hid h.top
    unfold ckV
    clear b0 hW1 hX h hx hd her hok hi
    go_enter Tryz.func40, Tryz.ntmps40
    go_wp2_with fail
    rw [HW1.out, HX.out]
    refine HWr.out.mono ?_
    rintro e W2 ⟨rfl, hb⟩
    have HB := Lib.hid (HB1.out.trans (hb.mono HB1.out.size))
    clear hb
    go_wp2
    go_ret
    exact ⟨rfl, (HAt.out.below HB.out).narrow (fun _ _ z => .inl z) (fun k z => z.elim (HAt.out.lo k) (Nat.le_trans HTop.out)), But.of_below HB.out⟩
end
end Go.Proofs.YtilkbfmaofmjoaaGreatDoor
namespace Go.Proofs.YtilkbfmaofmjoaaGreatDoor
open Go.RowKit Go.Rel
set_option linter.unusedSimpArgs false
set_option linter.unusedVariables false
def rsmE (B : Nat) (D : Nat) (A1 : Option Addr) (A2 : Option Addr) (A3 : Option Addr) (n1 : Nat) (n2 : Nat) (n3 : Nat) (c1 : Nat) (c2 : Nat) (c3 : Nat) (a1 : Nat) (a2 : Nat) (a3 : Nat) : Nat → Value
  | 0 | 8 | 17 | 26 => .pointer (some ⟨B, 0, none⟩)
  | 2 | 3 | 10 | 11 | 19 | 20 | 28 | 29 => .pointer (some ⟨D, 0, none⟩)
  | 4 => .pointer (some ⟨D, 1, none⟩)
  | 5 => .slice A1 n1 c1
  | 6 | 7 | 14 | 15 | 16 | 23 | 24 | 25 | 32 | 33 | 34 => .bool true
  | 12 => .pointer (some ⟨D, 2, none⟩)
  | 13 => .slice A2 n2 c2
  | 21 => .pointer (some ⟨D, 3, none⟩)
  | 22 => .slice A3 n3 c3
  | 27 | 31 => .agg #[.int .u64 (a1 : Int), .int .u64 (a2 : Int), .int .u64 (a3 : Int)]
  | 30 => .pointer (some ⟨D, 4, none⟩)
  | _ => undef
set_option maxHeartbeats 8000000 in
set_option maxRecDepth 100000 in
theorem same_yes {S : Nat → Prop} {w : World} {B B1 B2 B3 m : Nat} {d : Ro} {base : Nat} {Sd : Nat → Prop} {D md : Nat} {A1 A2 A3 : Option Addr} {c1 c2 c3 : Nat} {l2 : List (Rw SvW)} (h : RoAt S w B B1 B2 B3 m d) (hd : RdIs base Sd w D A1 A2 A3 c1 c2 c3 md l2 d) : Calls Tryz.prog 12 #[.pointer (some ⟨B, 0, none⟩), .pointer (some ⟨D, 0, none⟩)] w fun e w' => e = .returned (.bool true) ∧ Below w.heap.size w w' := by
  have hok : RoOk m d := by obtain ⟨h1, _⟩ := h; exact h1
  have hln : d.n.l.length ≤ maxLen := Nat.le_trans (Nat.le_trans hok.nok.len hok.nok.most.2) (by decide)
  have hlc : d.c.l.length ≤ maxLen := Nat.le_trans (Nat.le_trans hok.cok.len hok.cok.most.2) (by decide)
  have hls : d.s.l.length ≤ maxLen := Nat.le_trans (Nat.le_trans hok.sok.len hok.sok.most.2) (by decide)
  have htg : ∀ (W : World) (l' : List (Rw SvW)), SvL W l' d.s.l → ∀ r ∈ l', Tx W r.val.A r.val.n r.val.c r.val.a.tags ∧ r.val.n ≤ 1000 := fun W l' hl r hr => ⟨hl.tx r hr, by
    have h1 : rwMap (fun v : SvW => v.a) r ∈ d.s.l := by rw [← hl.eq]; exact List.mem_map_of_mem hr
    have h2 := tags_len ((hok.sr _ h1).2.1.tags)
    have h3 := (hl.tx r hr).len
    have : (rwMap (fun v : SvW => v.a) r).val.tags = r.val.a.tags := rfl
    rw [this] at h2
    omega⟩
  have HNd := Lib.hid (fun W (hW : Below w.heap.size w W) => ((rnodes_any (h.below hW)).mono fun e w' ⟨A, c, q1, q2, _, _, _, q3⟩ => ⟨A, c, q1, q2, q3⟩ : Calls Tryz.prog 16 #[.pointer (some ⟨B, 0, none⟩)] W fun e w' => ∃ A c, e = .returned (.slice A d.n.l.length c) ∧ SK ndC 4 w' A d.n.l.length d.n.l ∧ Below W.heap.size W w'))
  have HCk := Lib.hid (fun W (hW : Below w.heap.size w W) => ((rchecks_any (h.below hW)).mono fun e w' ⟨A, c, q1, q2, _, _, _, q3⟩ => ⟨A, c, q1, q2, q3⟩ : Calls Tryz.prog 18 #[.pointer (some ⟨B, 0, none⟩)] W fun e w' => ∃ A c, e = .returned (.slice A d.c.l.length c) ∧ SK ckC 7 w' A d.c.l.length d.c.l ∧ Below W.heap.size W w'))
  have HSv := Lib.hid (fun W (hW : Below w.heap.size w W) => ((rservices_any (h.below hW)).mono fun e w' ⟨l', ⟨A, c, q1, q2, _, _, _, q3⟩, q4⟩ => ⟨A, c, l', by rw [q1, q4.len], by rw [q4.len] at q2; exact q2, q4, q3⟩ : Calls Tryz.prog 17 #[.pointer (some ⟨B, 0, none⟩)] W fun e w' => ∃ A c l', e = .returned (.slice A d.s.l.length c) ∧ SK svC 7 w' A d.s.l.length l' ∧ SvL w' l' d.s.l ∧ Below W.heap.size W w'))
  have HLs := Lib.hid (fun W (hW : Below w.heap.size w W) => rlast_any (h.below hW))
  have HDc := Lib.hid (fun W (hW : Below w.heap.size w W) => (hd.below hW).cells)
  have HSn := Lib.hid (fun W (hW : Below w.heap.size w W) A c (hs : SK ndC 4 W A d.n.l.length d.n.l) => ((rdsamenodes_any A _ c d.n.l A1 _ c1 d.n.l W hs (hd.below hW).r1.row hln hln).mono fun e w' ⟨b, q1, q2, q3⟩ => ⟨by rw [q1, q2 rfl], q3⟩ : Calls Tryz.prog 24 #[.slice A d.n.l.length c, .slice A1 d.n.l.length c1] W fun e w' => e = .returned (.bool true) ∧ Below W.heap.size W w'))
  have HSc := Lib.hid (fun W (hW : Below w.heap.size w W) A c (hs : SK ckC 7 W A d.c.l.length d.c.l) => ((rdsamechecks_any A _ c d.c.l A3 _ c3 d.c.l W hs (hd.below hW).r3.row hlc hlc).mono fun e w' ⟨b, q1, q2, q3⟩ => ⟨by rw [q1, q2 rfl], q3⟩ : Calls Tryz.prog 26 #[.slice A d.c.l.length c, .slice A3 d.c.l.length c3] W fun e w' => e = .returned (.bool true) ∧ Below W.heap.size W w'))
  have hl2 := hd.len2
  have HSs := Lib.hid (fun W (hW : Below w.heap.size w W) A c l' (hs : SK svC 7 W A d.s.l.length l') (ht : SvL W l' d.s.l) => (by
    have h2 := (hd.below hW).r2.row
    rw [hl2] at h2
    exact (rdsameservices_any A _ c l' A2 _ c2 l2 W hs h2 hls hls (htg W l' ht) (htg W l2 ⟨hd.eq, fun r hr => ((hd.below hW).tg r hr).tx⟩)).mono fun e w' ⟨b, q1, q2, q3⟩ => ⟨by rw [q1, q2 (ht.eq.trans hd.eq.symm)], q3⟩ : Calls Tryz.prog 25 #[.slice A d.s.l.length c, .slice A2 d.s.l.length c2] W fun e w' => e = .returned (.bool true) ∧ Below W.heap.size W w'))
  rw [hl2] at HDc
  obtain ⟨n1, hn1⟩ : ∃ n, d.n.l.length = n := ⟨_, rfl⟩
  obtain ⟨n2, hn2⟩ : ∃ n, d.s.l.length = n := ⟨_, rfl⟩
  obtain ⟨n3, hn3⟩ : ∃ n, d.c.l.length = n := ⟨_, rfl⟩
  obtain ⟨a1, ha1⟩ : ∃ n, d.n.last = n := ⟨_, rfl⟩
  obtain ⟨a2, ha2⟩ : ∃ n, d.s.last = n := ⟨_, rfl⟩
  obtain ⟨a3, ha3⟩ : ∃ n, d.c.last = n := ⟨_, rfl⟩
  rw [hn1] at HNd HSn HDc
  rw [hn2] at HSv HSs HDc
  rw [hn3] at HCk HSc HDc
  rw [ha1, ha2, ha3] at HLs HDc
  have HLa := Lib.hid (fun w => la_eq a1 a2 a3 a1 a2 a3 w)
  have HLg := Lib.hid la_guard
  clear hn1 hn2 hn3 ha1 ha2 ha3 hln hlc hls htg hl2 h hd hok
  go_enter Tryz.func12, Tryz.ntmps12
  rename World => W0
  go_wp2_with fail
  have hre : ∀ w : World, ((fun a b : World => Below a.heap.size a b)) w w := (fun w => Below.refl _ w)
  have hrd : ∀ (f : Nat → Bool) w i, i ≠ 1 → (fun (_ : Nat → Bool) (w2 : World) => Below W0.heap.size W0 w2) f w → (fun (_ : Nat → Bool) (w2 : World) => Below W0.heap.size W0 w2) (Go.Rel.upd f i) w := (fun _ _ _ _ h => h)
  refine Go.Rel.wp_tab (by kernel_rfl) (by kernel_rfl) (fun (_ : Nat → Bool) (w2 : World) => Below W0.heap.size W0 w2) ((fun a b : World => Below a.heap.size a b)) hre ((fun _ _ _ h k => h.trans (k.mono h.size))) ((⟨rfl, rfl, rfl, Nat.le_refl _, fun _ _ => rfl⟩)) ⟨rfl, rfl, rfl, Nat.le_refl _, fun _ _ => rfl⟩ (rsmE B D A1 A2 A3 n1 n2 n3 c1 c2 c3 a1 a2 a3) (fun | 1, v, w => ∃ A c, v = .slice A n1 c ∧ SK ndC 4 w A n1 d.n.l | 9, v, w => ∃ A c l', v = .slice A n2 c ∧ SK svC 7 w A n2 l' ∧ SvL w l' d.s.l | 18, v, w => ∃ A c, v = .slice A n3 c ∧ SK ckC 7 w A n3 d.c.l | _, _, _ => True) (fun i => ([1, 9, 18] : List Nat).contains i) (fun i => ([1, 5, 6, 9, 13, 14, 18, 22, 23, 27, 31, 32] : List Nat).contains i) (by kernel_rfl) (fun i v w w' h g => by revert h; split <;> intro h <;> first | exact h | trivial | (obtain ⟨A, c, e, k⟩ := h; exact ⟨A, c, e, k.below g⟩) | (obtain ⟨A, c, l', e, k, t⟩ := h; exact ⟨A, c, l', e, k.below g, t.below g⟩)) 1 rfl hrd ?_ (Go.Rel.AllOf.get ?_) ?_
  · repeat (refine .cons (by first | exact Go.Rel.pure_sp rfl | exact Go.Rel.pure_yes (by kernel_rfl) (fun _ => by kernel_rfl) | exact Go.Rel.pure_no (by kernel_rfl) rfl) ?_)
    exact .nil
  · refine ⟨?_, ?_, ?_, ?_, ?_, ?_, ?_, ?_, ?_, ?_, ?_, ?_, trivial⟩
    · refine SpecOk.call 16 #[.pointer (some ⟨B, 0, none⟩)] rfl (by kernel_rfl) (fun _ => by kernel_rfl) fun _ w' hI _ _ _ _ => ?_
      refine (HNd.out w' hI).mono ?_
      rintro e9 w9 ⟨A9, c9, rfl, s9, hb9⟩
      exact ⟨_, rfl, hb9, (hI.trans (hb9.mono hI.size)), ⟨A9, c9, rfl, s9⟩⟩
    · exact SpecOk.ld hrd hre (q := .pointer (some ⟨D, 1, none⟩)) (h := fun _ w' hI _ _ _ _ => by obtain ⟨hz0, hz1, hz2, hz3, hz4, hz5, hz6⟩ := HDc.out _ hI; go_simp; rfl)
    · refine SpecOk.gen (fun e => [(6, e 1), (10, .slice A1 n1 c1)]) rfl rfl (fun _ => by kernel_rfl) fun f w' e hI hf hdesc hanc hle hX K hK => ?_
      obtain ⟨A1, c1, e1, s1⟩ := hX 1 rfl rfl
      simp only [e1]
      go_simp
      refine (HSn.out w' hI A1 c1 s1).mono ?_
      rintro e9 w9 ⟨rfl, hb9⟩
      exact hK _ _ hb9 (hI.trans (hb9.mono hI.size)) rfl
    · refine SpecOk.call 17 #[.pointer (some ⟨B, 0, none⟩)] rfl (by kernel_rfl) (fun _ => by kernel_rfl) fun _ w' hI _ _ _ _ => ?_
      refine (HSv.out w' hI).mono ?_
      rintro e9 w9 ⟨A9, c9, l9, rfl, s9, t9, hb9⟩
      exact ⟨_, rfl, hb9, (hI.trans (hb9.mono hI.size)), ⟨A9, c9, l9, rfl, s9, t9⟩⟩
    · exact SpecOk.ld hrd hre (q := .pointer (some ⟨D, 2, none⟩)) (h := fun _ w' hI _ _ _ _ => by obtain ⟨hz0, hz1, hz2, hz3, hz4, hz5, hz6⟩ := HDc.out _ hI; go_simp; rfl)
    · refine SpecOk.gen (fun e => [(14, e 9), (18, .slice A2 n2 c2)]) rfl rfl (fun _ => by kernel_rfl) fun f w' e hI hf hdesc hanc hle hX K hK => ?_
      obtain ⟨A9, c9, l9, e9, s9, t9⟩ := hX 9 rfl rfl
      simp only [e9]
      go_simp
      refine (HSs.out w' hI A9 c9 l9 s9 t9).mono ?_
      rintro e9 w9 ⟨rfl, hb9⟩
      exact hK _ _ hb9 (hI.trans (hb9.mono hI.size)) rfl
    · refine SpecOk.call 18 #[.pointer (some ⟨B, 0, none⟩)] rfl (by kernel_rfl) (fun _ => by kernel_rfl) fun _ w' hI _ _ _ _ => ?_
      refine (HCk.out w' hI).mono ?_
      rintro e9 w9 ⟨A9, c9, rfl, s9, hb9⟩
      exact ⟨_, rfl, hb9, (hI.trans (hb9.mono hI.size)), ⟨A9, c9, rfl, s9⟩⟩
    · exact SpecOk.ld hrd hre (q := .pointer (some ⟨D, 3, none⟩)) (h := fun _ w' hI _ _ _ _ => by obtain ⟨hz0, hz1, hz2, hz3, hz4, hz5, hz6⟩ := HDc.out _ hI; go_simp; rfl)
    · refine SpecOk.gen (fun e => [(23, e 18), (27, .slice A3 n3 c3)]) rfl rfl (fun _ => by kernel_rfl) fun f w' e hI hf hdesc hanc hle hX K hK => ?_
      obtain ⟨A18, c18, e18, s18⟩ := hX 18 rfl rfl
      simp only [e18]
      go_simp
      refine (HSc.out w' hI A18 c18 s18).mono ?_
      rintro e9 w9 ⟨rfl, hb9⟩
      exact hK _ _ hb9 (hI.trans (hb9.mono hI.size)) rfl
    · refine SpecOk.call 27 #[.pointer (some ⟨B, 0, none⟩)] rfl (by kernel_rfl) (fun _ => by kernel_rfl) fun _ w' hI _ _ _ _ => ?_
      refine (HLs.out w' hI).mono ?_
      rintro e9 w9 ⟨rfl, hb9⟩
      exact ⟨_, rfl, hb9, (hI.trans (hb9.mono hI.size)), rfl⟩
    · exact SpecOk.ld hrd hre (q := .pointer (some ⟨D, 4, none⟩)) (h := fun _ w' hI _ _ _ _ => by obtain ⟨hz0, hz1, hz2, hz3, hz4, hz5, hz6⟩ := HDc.out _ hI; go_simp; rfl)
    · refine SpecOk.gen (fun e => [(32, .agg #[.int .u64 (a1 : Int), .int .u64 (a2 : Int), .int .u64 (a3 : Int)]), (36, .agg #[.int .u64 (a1 : Int), .int .u64 (a2 : Int), .int .u64 (a3 : Int)])]) rfl rfl (fun _ => by kernel_rfl) fun f w' e hI hf hdesc hanc hle hX K hK => ?_
      have ue := HLa.out
      have ug := HLg.out
      go_simp
      exact hK _ _ (hre _) (hrd f w' 32 (by decide) hI) rfl
  · intro f w3 e hall hJ hle hv
    have v9 := hv 34 rfl
    simp only [Go.Rel.finL, List.setIfInBounds_toArray, List.set_cons_succ, List.set_cons_zero]
    rw [show e 34 = .bool true from v9]
    have HJ := Lib.hid hJ
    clear hv hall hle hJ v9
    go_wp2
    go_ret
    exact ⟨rfl, HJ.out⟩
end Go.Proofs.YtilkbfmaofmjoaaGreatDoor
