/-
  The program's Load, walked (layer 17).
-/
import Derived.Test.YtmegfkclpjddgaaZj19
import Derived.Test.YtmegfkclpjddgaaZj39
import Derived.Test.YtmegfkclpjddgaaZj42
namespace Go.Proofs.Ytmegfkclpjddgaa
open Go.RowKit
set_option linter.unusedSimpArgs false
set_option linter.unusedVariables false

set_option maxHeartbeats 8000000 in
set_option maxRecDepth 100000 in
theorem load_any (m : Int) (hm : -9223372036854775808 ≤ m ∧ m ≤ 9223372036854775807) (A : Option Addr) (n c : Nat) (l : List Ir) (last : Nat) (w : World) (hS : SK irC 5 w A n l) (hn : n ≤ maxLen) (hin : ∀ x ∈ l, x.In) (hlast : last < 18446744073709551616) :
    Calls Try.prog 26 #[.int .i64 m, .slice A n c, .int .u64 (last : Int)] w fun e w' => Below w.heap.size w w' ∧ ((ImLoad (mostT m) l last ∧ ∃ B Bt, e = .returned (.tuple #[.pointer (some ⟨B, 0, none⟩), .int .i64 0]) ∧ InAt (fun k => w.heap.size ≤ k) w' B Bt ⟨mostT m, l, last⟩) ∨ (¬ ImLoad (mostT m) l last ∧ e = .returned (.tuple #[.pointer none, .int .i64 2]))) := by
  have HNn := Lib.hid hn
  unfold maxLen at hn
  have hn' : n ≤ 9223372036854775807 := by omega
  obtain ⟨g0, hg0⟩ : ∃ g0, w.heap.size = g0 := ⟨_, rfl⟩
  obtain ⟨mo, hmo⟩ : ∃ mo, mostT m = mo := ⟨_, rfl⟩
  have HN := Lib.hid (inew_any m w hm)
  rw [hg0, hmo] at HN
  rw [hg0, hmo]
  have HG0 := Lib.hid hg0
  have HS := Lib.hid hS
  have HL := Lib.hid hS.1
  have HIn := Lib.hid hin
  have HLa := Lib.hid hlast
  clear hm hS hn hin hlast hg0 hmo
  go_enter Try.func26, Try.ntmps26
  go_wp2_with fail
  refine HN.out.mono ?_
  rintro e w1 ⟨B, Bt, rfl, hp, hb1⟩
  have HP := Lib.hid hp
  have HB1 := Lib.hid hb1
  clear HN hp hb1
  go_wp2
  go_loopw [15] (fun iv wr => ∃ (k : Nat) (t : Im), k ≤ n ∧ iv = .int .i64 (k : Int) ∧ Hid (InAt (fun k => g0 ≤ k) wr B Bt t) ∧ Hid (LdK l mo last k t) ∧ Hid (Below g0 w wr)) (fun iv _ => n - (intOf iv).toNat)
  case atStart => exact ⟨0, _, Nat.zero_le _, rfl, HP, Lib.hid (LdK.start _ _ _), HB1⟩
  case round =>
    obtain ⟨k, t, hk, rfl, hat, hld, hb⟩ := hrel
    have hz3 : g0 ≤ wr.heap.size := by have := hb.out.size; have := HG0.out; omega
    by_cases hlt : k < n
    · have hkl : k < l.length := by rw [HL.out]; exact hlt
      obtain ⟨b, off, rfl, hbl, hit⟩ := (HS.out.below (w' := wr) (by rw [HG0.out]; exact hb.out)).at_ hlt hkl
      have hxi := HIn.out l[k] (List.getElem_mem _)
      have hnx := hld.out.next hkl
      have hbad := hld.out.bad hkl
      have hfull := hld.out.full hkl
      obtain ⟨x, hx⟩ : ∃ x, l[k] = x := ⟨_, rfl⟩
      rw [hx] at hit hxi hnx hbad hfull
      obtain ⟨e0, e1, e2, e3, e4⟩ := ir_cells hit
      obtain ⟨X, hX⟩ : ∃ X, wr.heap.size = X := ⟨_, rfl⟩
      obtain ⟨W1, hW1⟩ : ∃ W1, wr.alloc (.cells #[.string x.src, .string x.dst, .bool x.allow, .int .u64 (x.made : Int), .int .u64 (x.ix : Int)] TIn) = W1 := ⟨_, rfl⟩
      have hk1 : W1.heap[X]? = some (.cells #[.string x.src, .string x.dst, .bool x.allow, .int .u64 (x.made : Int), .int .u64 (x.ix : Int)] TIn (0, 0)) := by rw [← hW1, ← hX]; exact heap_alloc_new wr _
      have hbw : Below X wr W1 := by rw [← hW1, ← hX]; exact below1 _ _ _
      have hs1 : W1.heap.size = X + 1 := by rw [← hW1]; simp [hX]
      obtain ⟨gd, hgd⟩ : ∃ gd, gdI x last = gd := ⟨_, rfl⟩
      have HLo := Lib.hid (loadable_any x last W1 hxi.src hxi.dst)
      rw [hgd] at HLo hnx hbad
      have hpp : gd = true → patsI x.src x.dst = true := fun h => (gdI_iff.1 (hgd.trans h)).1
      obtain ⟨x0, x1, x2, x3, x4⟩ := ir_blk hk1
      have HK1 := Lib.hid hk1
      have HW1 := Lib.hid hW1
      have HX := Lib.hid hX
      have HX1 := Lib.hid hs1
      have HBw := Lib.hid hbw
      have HNx := Lib.hid hnx
      have HBad := Lib.hid hbad
      have HFull := Lib.hid hfull
      have HPp := Lib.hid hpp
      have HXi := Lib.hid hxi
      have q0 : (0 : Int) ≤ (k : Int) := by omega
      have q1 : (k : Int) < (n : Int) := by omega
      have htl := hat.out.tlt
      rw [hX] at htl hz3
      have htg := hat.out.tmine.1
      unfold irV at HLo
      clear hx hit hX hW1 hk1 hbw hs1 hgd hnx hbad hfull hpp hxi
      go_wp2_with fail
      rw [HW1.out, HX.out]
      go_wp2_with fail
      refine HLo.out.mono ?_
      rintro e w2 ⟨rfl, hb2⟩
      have HB2 : Hid (Below g0 w w2) := Lib.hid ((hb.out.trans (HBw.out.mono hz3)).trans (hb2.mono (by have := HX1.out; omega)))
      have hk2 := (hb2.block X (by have := HX1.out; omega)).trans HK1.out
      have HAt2 : Hid (InAt (fun k => g0 ≤ k) w2 B Bt t) := Lib.hid ((hat.out.below (by rw [HX.out]; exact HBw.out)).below hb2)
      clear x0 x1 x2 x3 x4 e0 e1 e2 e3 e4
      obtain ⟨x0, x1, x2, x3, x4⟩ := ir_blk hk2
      have HK2 := Lib.hid hk2
      have hz2 : g0 ≤ w2.heap.size := by have := HB2.out.size; have := HG0.out; omega
      clear hb2 hk2 HLo
      cases gd with
      | false =>
        have HBd := Lib.hid (HBad.out rfl)
        clear HBad HPp HNx
        go_wp2
        go_ret2
        exact ⟨HB2.out, .inr ⟨HBd.out, rfl⟩⟩
      | true =>
        have hpt := HPp.out rfl
        have HLy := Lib.hid (lay_any x x.made HAt2.out hpt HXi.out.made)
        obtain ⟨c1, hc1⟩ : ∃ c1, (t.layI x.src x.dst x.allow x.made).1 = c1 := ⟨_, rfl⟩
        obtain ⟨t1, ht1⟩ : ∃ t1, (t.layI x.src x.dst x.allow x.made).2 = t1 := ⟨_, rfl⟩
        have hfu := HFull.out
        have hnx := HNx.out rfl
        rw [hc1, ht1] at HLy
        rw [hc1] at hfu
        rw [ht1] at hnx
        have HFu := Lib.hid hfu
        have HNx2 := Lib.hid hnx
        have HPt := Lib.hid hpt
        unfold irV at HLy
        clear hc1 ht1 hfu hnx hpt HNx HFull HBad HPp
        by_cases hc : c1 = 0
        · subst hc
          have zc : (((0 : Nat) : Int) != 0) = false := rfl
          go_wp2_with fail
          refine HLy.out.mono ?_
          rintro e w3 ⟨rfl, hat3, hb3⟩
          have HB3 : Hid (Below g0 w w3) := Lib.hid (HB2.out.trans (hb3.below hz2 fun j hj e => by omega))
          have hk3 := (hb3.block X (block_lt HK2.out) fun e => by omega).trans HK2.out
          have HAt3 : Hid (InAt (fun k => g0 ≤ k) w3 B Bt t1) := Lib.hid (hat3.narrow fun j _ h => by rcases h with h | h <;> omega)
          clear x0 x1 x2 x3 x4
          obtain ⟨x0, x1, x2, x3, x4⟩ := ir_blk hk3
          have hz4 : g0 ≤ w3.heap.size := by have := HB3.out.size; have := HG0.out; omega
          have HLy2 := Lib.hid (lay_any x x.ix HAt3.out HPt.out HXi.out.ix)
          obtain ⟨c2, hc2⟩ : ∃ c2, (t1.layI x.src x.dst x.allow x.ix).1 = c2 := ⟨_, rfl⟩
          obtain ⟨t2, ht2⟩ : ∃ t2, (t1.layI x.src x.dst x.allow x.ix).2 = t2 := ⟨_, rfl⟩
          have hnx := HNx2.out
          rw [hc2, ht2] at HLy2
          rw [ht2] at hnx
          have HNx3 := Lib.hid hnx
          unfold irV at HLy2
          clear hat3 hb3 hk3 hc2 ht2 hnx HLy HNx2
          go_wp2_with fail
          refine HLy2.out.mono ?_
          rintro e w5 ⟨rfl, hat5, hb5⟩
          have HB5 : Hid (Below g0 w w5) := Lib.hid (HB3.out.trans (hb5.below hz4 fun j hj e => by omega))
          have HAt5 : Hid (InAt (fun k => g0 ≤ k) w5 B Bt t2) := Lib.hid (hat5.narrow fun j _ h => by rcases h with h | h <;> omega)
          clear hat5 hb5 HLy2
          go_wp2
          go_roundw
          case rel => exact ⟨k + 1, t2, by omega, by go_num, HAt5, HNx3, HB5⟩
          case measure => simp [intOf]; omega
        · have zc : ((c1 : Int) != 0) = true := by rw [bne_iff_ne]; omega
          have HFu2 := Lib.hid (HFu.out hc)
          go_wp2_with fail
          refine HLy.out.mono ?_
          rintro e w3 ⟨rfl, hat3, hb3⟩
          have HB3 : Hid (Below g0 w w3) := Lib.hid (HB2.out.trans (hb3.below hz2 fun j hj e => by omega))
          clear hat3 hb3 x0 x1 x2 x3 x4
          go_wp2
          go_ret2
          exact ⟨HB3.out, .inr ⟨HFu2.out, rfl⟩⟩
    · have q1 : ¬ (k : Int) < (n : Int) := by omega
      have HDn := Lib.hid (hld.out.done (by rw [HL.out]; omega) hat.out.ok)
      have hml : t.l.length ≤ maxLen := by
        have h1 := hat.out.ok.len
        have h2 := hat.out.ok.most
        unfold maxLen
        omega
      have HLi := Lib.hid (ilist_any hat.out)
      have HRz : Hid (t.l = l → t.raise last = ⟨mo, l, last⟩) := Lib.hid hld.out.raised
      obtain ⟨M, hM⟩ : ∃ M, t.l = M := ⟨_, rfl⟩
      rw [hM] at HDn hml HLi HRz
      have HMl := Lib.hid hml
      clear hM hml
      go_wp2_with fail
      refine HLi.out.mono ?_
      rintro e w3 ⟨v, rfl, hr3, hb3⟩
      obtain ⟨A3, c3, rfl, s3, _⟩ := SK.of_row irC_len hr3
      have HB3 : Hid (Below g0 w w3) := Lib.hid (hb.out.trans (hb3.mono hz3))
      have HAt3 := Lib.hid (hat.out.below hb3)
      have HEq := Lib.hid (iequal_any A3 _ c3 M A n c l w3 s3 (HS.out.below (by rw [HG0.out]; exact HB3.out)) HMl.out HNn.out)
      clear hr3 hb3 s3 HLi
      go_wp2_with fail
      refine HEq.out.mono ?_
      rintro e w4 ⟨u, rfl, hu, hb4⟩
      have hz4 : g0 ≤ w3.heap.size := by have := HB3.out.size; have := HG0.out; omega
      have HB4 : Hid (Below g0 w w4) := Lib.hid (HB3.out.trans (hb4.mono hz4))
      have HAt4 := Lib.hid (HAt3.out.below hb4)
      have HU := Lib.hid hu
      clear hb4 hu HEq
      cases u with
      | false =>
        have HNo : Hid (¬ ImLoad mo l last) := Lib.hid fun h => by
          have := HU.out.2 (HDn.out.2 h)
          cases this
        go_wp2
        go_ret2
        exact ⟨HB4.out, .inr ⟨HNo.out, rfl⟩⟩
      | true =>
        have hml2 := HU.out.1 rfl
        have HYes := Lib.hid (HDn.out.1 hml2)
        have HRz2 := Lib.hid (HRz.out hml2)
        obtain ⟨hmi, kb, T, hr, ht⟩ := HAt4.out
        have c0 := cellsN kb 0 _ rfl
        have HRr := Lib.hid (It.raise_any last ht HLa.out)
        have HRel := Lib.hid (hr.raise HLa.out)
        have hz5 : g0 ≤ w4.heap.size := by have := HB4.out.size; have := HG0.out; omega
        have htg := HAt4.out.tmine.1
        clear hml2 hmi kb hr ht
        go_wp2_with fail
        refine HRr.out.mono ?_
        rintro e w5 ⟨rfl, ht5, hb5⟩
        have HB5 : Hid (Below g0 w w5) := Lib.hid (HB4.out.trans (hb5.below hz5 fun j hj e => by omega))
        have hat5 := HAt4.out.turned HRel.out (ht5.narrow fun _ _ z => .inl z) hb5
        rw [HRz2.out] at hat5
        have HAt5 : Hid (InAt (fun k => g0 ≤ k) w5 B Bt ⟨mo, l, last⟩) := Lib.hid (hat5.narrow fun j _ h => by rcases h with h | h <;> omega)
        clear hat5 hb5 ht5 c0 HRr
        go_wp2
        go_ret2
        exact ⟨HB5.out, .inl ⟨HYes.out, B, Bt, rfl, HAt5.out⟩⟩
end Go.Proofs.Ytmegfkclpjddgaa
