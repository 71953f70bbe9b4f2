/-
  Load, walked (layer 18).
-/
import Derived.Test.YtnobpbbedclbkaaZj43
import Derived.Test.YtnobpbbedclbkaaZj34
import Derived.Test.YtnobpbbedclbkaaZj37
namespace Go.Proofs.Ytnobpbbedclbkaa
open Go.RowKit
set_option linter.unusedSimpArgs false
set_option linter.unusedVariables false

theorem SAt.raised {S : Nat → Prop} {w : World} {B Bt : Nat} {t : Sm} (i : Nat) (h : SAt S w B Bt t) (hi : i < 18446744073709551616) : Calls Try.prog 38 #[.pointer (some ⟨Bt, 0, none⟩), .int .u64 (i : Int)] w fun e w' => e = .returned (.tuple #[]) ∧ SAt S w' B Bt (t.raise i) ∧ But (· = Bt) w w' := by
  obtain ⟨T, hr, ht⟩ := h.tab
  refine (Sx.raise_any i ht hi).mono ?_
  rintro e w' ⟨h1, h2, h3⟩
  exact ⟨h1, ⟨h.mine, (h3.block B h.lt fun e => h.tmine.2 e.symm).trans h.ptr, _, hr.raise hi, h2⟩, h3⟩
set_option maxHeartbeats 8000000 in
set_option maxRecDepth 100000 in
theorem sload_any (m : Int) (hm : -9223372036854775808 ≤ m ∧ m ≤ 9223372036854775807) (A : Option Addr) (n c : Nat) (l : List Sn) (last : Nat) (w : World) (hS : SK snC 4 w A n l) (hn : n ≤ maxLen) (hin : ∀ x ∈ l, x.In) (hlast : last < 18446744073709551616) :
    Calls Try.prog 23 #[.int .i64 m, .slice A n c, .int .u64 (last : Int)] w fun e w' => Below w.heap.size w w' ∧ ((SmLoad (mostT m) l last ∧ ∃ B Bt, e = .returned (.tuple #[.pointer (some ⟨B, 0, none⟩), .int .i64 0]) ∧ SAt (fun k => w.heap.size ≤ k) w' B Bt ⟨mostT m, l, last⟩) ∨ (¬ SmLoad (mostT m) l last ∧ e = .returned (.tuple #[.pointer none, .int .i64 2]))) := by
  have HN := Lib.hid (snew_any m w hm)
  have HS := Lib.hid hS
  have HL := Lib.hid hS.1
  have HIn := Lib.hid hin
  have HNn := Lib.hid hn
  have HLa := Lib.hid hlast
  have hn2 : n ≤ 9223372036854775807 := by unfold maxLen at hn; omega
  obtain ⟨g0, hg0⟩ : ∃ g0, w.heap.size = g0 := ⟨_, rfl⟩
  obtain ⟨mo, hmo⟩ : ∃ mo, mostT m = mo := ⟨_, rfl⟩
  rw [hg0, hmo] at HN
  rw [hg0, hmo]
  have HG := Lib.hid hg0
  clear hm hS hn hin hlast hg0 hmo
  go_enter Try.func23, Try.ntmps23
  go_wp2_with fail
  refine HN.out.mono ?_
  rintro e w0 ⟨B, Bt, rfl, h0, hb0⟩
  have HA0 := Lib.hid h0
  have HB0 := Lib.hid hb0
  have HBt : Hid (g0 ≤ Bt) := Lib.hid h0.tmine.1
  clear h0 hb0 HN
  go_wp2
  go_loopw [17] (fun iv wr => ∃ k : Nat, k ≤ n ∧ iv = .int .i64 (k : Int) ∧ Hid (SAt (fun j => g0 ≤ j) wr B Bt ((⟨mo, [], 0⟩ : Sm).opens (l.take k))) ∧ Hid (Below g0 w wr) ∧ Hid (∀ x ∈ l.take k, x.id ≤ last)) (fun iv _ => n - (intOf iv).toNat)
  case atStart => exact ⟨0, Nat.zero_le _, rfl, HA0, HB0, Lib.hid (fun x hx => by simp at hx)⟩
  case round =>
    obtain ⟨k, hk, rfl, hat, hb, hle⟩ := hrel
    by_cases hlt : k < n
    · have hkl : k < l.length := by have := HL.out; omega
      have hbz : g0 ≤ wr.heap.size := by have := hb.out.size; have := HG.out; omega
      obtain ⟨bb, off, rfl, hbl, hit⟩ := (HS.out.below (by rw [HG.out]; exact hb.out)).at_ hlt hkl
      have hst := opens_take hkl (⟨mo, [], 0⟩ : Sm)
      have hbad := fun (z : SmLoad mo l last) => load_open z hkl (load_opens z k (by omega)).1 (load_opens z k (by omega)).2
      have hxi := HIn.out _ (List.getElem_mem hkl)
      have htk : l.take (k + 1) = l.take k ++ [l[k]] := List.take_succ_eq_append_getElem hkl
      have hmem : l[k] ∈ l := List.getElem_mem hkl
      obtain ⟨x, hx⟩ : ∃ x, l[k] = x := ⟨_, rfl⟩
      obtain ⟨tk, htk2⟩ : ∃ tk, (⟨mo, [], 0⟩ : Sm).opens (l.take k) = tk := ⟨_, rfl⟩
      rw [hx] at hit hst hbad hxi htk hmem
      rw [htk2] at hat hst hbad
      obtain ⟨e0, e1, e2, e3⟩ := sn_cells hit
      obtain ⟨W1, hW1⟩ : ∃ W1, wr.alloc (.cells #[.int .u64 (x.id : Int), .int .i64 x.node, .int .u64 (x.made : Int), .int .u64 (x.ix : Int)] TSn) = W1 := ⟨_, rfl⟩
      have hb1 : Below wr.heap.size wr W1 := by rw [← hW1]; exact below1 _ _ _
      have hkx : W1.heap[wr.heap.size]? = some (.cells #[.int .u64 (x.id : Int), .int .i64 x.node, .int .u64 (x.made : Int), .int .u64 (x.ix : Int)] TSn (0, 0)) := by rw [← hW1]; exact heap_alloc_new wr _
      obtain ⟨y0, y1, y2, y3⟩ := sn_blk hkx
      have HOp := Lib.hid (sopen_any x.node x.id (hat.out.below hb1) hxi.id)
      obtain ⟨er, her⟩ : ∃ er, (tk.openS x.node x.id).1.2 = er := ⟨_, rfl⟩
      obtain ⟨rn, hrn⟩ : ∃ rn, (tk.openS x.node x.id).1.1 = rn := ⟨_, rfl⟩
      rw [her, hrn] at HOp
      rw [her] at hbad
      have HKx := Lib.hid hkx
      have HSt := Lib.hid hst
      have HBad := Lib.hid hbad
      have HTk := Lib.hid htk
      have HMem := Lib.hid hmem
      have HB1 : Hid (Below g0 w W1) := Lib.hid (hb.out.trans (hb1.mono hbz))
      have HBz : Hid (g0 ≤ W1.heap.size ∧ wr.heap.size < W1.heap.size ∧ g0 ≤ wr.heap.size) := Lib.hid (by have := block_lt hkx; omega)
      have HXn : Hid (wr.heap.size ≠ Bt) := Lib.hid (by have := hat.out.tlt; omega)
      clear hb1 hit hst hbad hx htk2 hat her hrn hkx hbz htk hmem hxi
      go_wp2_with fail
      refine HOp.out.mono ?_
      rintro e w2 ⟨rfl, h2, hb2⟩
      obtain ⟨y0, y1, y2, y3⟩ := sn_blk ((hb2.block wr.heap.size (block_lt HKx.out) HXn.out).trans HKx.out)
      have HA2 : Hid (SAt (fun j => g0 ≤ j) w2 B Bt (tk.openS x.node x.id).2) := Lib.hid (h2.narrow fun j _ z => z.elim id fun z => Nat.le_trans HBz.out.1 z)
      have HB2 : Hid (Below g0 w w2) := Lib.hid (HB1.out.trans (hb2.below HBz.out.1 fun j hj e => by have := HBt.out; omega))
      have HLe := Lib.hid hle.out
      clear h2 hb2 HOp HKx HB1 hle
      by_cases he : er = 0
      · subst he
        clear HBad
        by_cases hla : last < x.id
        · have d1 : decide (last < x.id) = true := decide_eq_true hla
          have q1 : (last : Int) < (x.id : Int) := by omega
          have HNo : Hid (¬ SmLoad mo l last) := Lib.hid fun z => by
            have := (gdS_iff.1 (z.2.2 x HMem.out)).2.2.2.2
            omega
          go_wp2
          go_ret2
          exact ⟨HB2.out, .inr ⟨HNo.out, rfl⟩⟩
        · have d1 : decide (last < x.id) = false := decide_eq_false hla
          have q1 : ¬ (last : Int) < (x.id : Int) := by omega
          have HLe2 : Hid (∀ y ∈ l.take (k + 1), y.id ≤ last) := Lib.hid fun y hy => by
            rw [HTk.out] at hy
            rcases List.mem_append.1 hy with hy | hy
            · exact HLe.out y hy
            · simp only [List.mem_cons, List.not_mem_nil, or_false] at hy
              subst hy
              omega
          rw [← HSt.out] at HA2
          go_wp2
          go_roundw
          case rel => exact ⟨k + 1, by omega, by go_num, HA2, HB2, HLe2⟩
          case measure => simp [intOf]; omega
      · have q0 : ((er : Int) != 0) = true := by rw [bne_iff_ne]; omega
        have HNo : Hid (¬ SmLoad mo l last) := Lib.hid fun z => he (HBad.out z).1
        clear he HBad
        go_wp2
        go_ret2
        exact ⟨HB2.out, .inr ⟨HNo.out, rfl⟩⟩
    · obtain rfl : k = n := by omega
      have htk : l.take k = l := List.take_of_length_le (by have := HL.out; omega)
      rw [htk] at hat hle
      have hfin := fun (z : ((⟨mo, [], 0⟩ : Sm).opens l).l = l) => opened_load hat.out.ok opens_most z hle.out (opens_le hle.out (Nat.zero_le _))
      have hbad := fun (z : SmLoad mo l last) => (load_opens z l.length (Nat.le_refl _)).1.trans (List.take_of_length_le (Nat.le_refl _))
      rw [List.take_of_length_le (Nat.le_refl _)] at hbad
      obtain ⟨tk, htk2⟩ : ∃ tk, (⟨mo, [], 0⟩ : Sm).opens l = tk := ⟨_, rfl⟩
      rw [htk2] at hat hfin hbad
      have HF := Lib.hid hfin
      have HBad := Lib.hid hbad
      have HLi := Lib.hid (slist_any hat.out)
      have HAt := Lib.hid hat.out
      have HB := Lib.hid hb.out
      have HLen : Hid (tk.l.length ≤ maxLen) := Lib.hid (by have := hat.out.ok.len; have := hat.out.ok.most.2; unfold maxLen; omega)
      have hbz : g0 ≤ wr.heap.size := by have := hb.out.size; have := HG.out; omega
      clear htk hfin hbad htk2 hat hb hle
      go_wp2_with fail
      refine HLi.out.mono ?_
      rintro e w2 ⟨u, rfl, hrow, hb2⟩
      obtain ⟨A2, c2, rfl, h1, h3, h4, h5⟩ := SK.of_row snC_len hrow
      have HB2 : Hid (Below g0 w w2) := Lib.hid (HB.out.trans (hb2.mono hbz))
      have HA2 := Lib.hid (HAt.out.below hb2)
      have HEq := Lib.hid (sequal_any A2 tk.l.length c2 tk.l A k c l w2 h1 (HS.out.below (by rw [HG.out]; exact HB2.out)) HLen.out HNn.out)
      have hbz2 : g0 ≤ w2.heap.size := by have := hb2.size; omega
      obtain ⟨L2, hL2⟩ : ∃ L2, tk.l.length = L2 := ⟨_, rfl⟩
      rw [hL2] at HEq ⊢
      clear hrow h1 h3 h4 h5 hb2 HLi hL2
      go_wp2_with fail
      refine HEq.out.mono ?_
      rintro e w3 ⟨b, rfl, hbi, hb3⟩
      have HB3 : Hid (Below g0 w w3) := Lib.hid (HB2.out.trans (hb3.mono hbz2))
      have HA3 := Lib.hid (HA2.out.below hb3)
      have HBi := Lib.hid hbi
      clear hbi hb3 HEq
      cases b with
      | false =>
        have HNo : Hid (¬ SmLoad mo l last) := Lib.hid fun z => by have := HBi.out.2 (HBad.out z); cases this
        clear HBi HBad HF
        go_wp2
        go_ret2
        exact ⟨HB3.out, .inr ⟨HNo.out, rfl⟩⟩
      | true =>
        obtain ⟨hY, hT⟩ := HF.out (HBi.out.1 rfl)
        have HY := Lib.hid hY
        have HRa := Lib.hid (SAt.raised last HA3.out HLa.out)
        rw [hT] at HRa
        have c0 := cellsN HA3.out.ptr 0 _ rfl
        have hbz3 : g0 ≤ w3.heap.size := by have := HB3.out.size; have := HG.out; omega
        clear HBi HBad HF hY hT
        go_wp2_with fail
        refine HRa.out.mono ?_
        rintro e w4 ⟨rfl, h4, hb4⟩
        have HA4 := Lib.hid h4
        have HB4 : Hid (Below g0 w w4) := Lib.hid (HB3.out.trans (hb4.below hbz3 fun j hj e => by have := HBt.out; omega))
        clear h4 hb4 HRa
        go_wp2
        go_ret2
        exact ⟨HB4.out, .inl ⟨HY.out, B, Bt, rfl, HA4.out⟩⟩
end Go.Proofs.Ytnobpbbedclbkaa
