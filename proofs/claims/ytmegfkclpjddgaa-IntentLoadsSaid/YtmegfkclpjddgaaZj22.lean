/-
  What slices.Values yields of a table's rows, walked.
-/
import Derived.Test.YtmegfkclpjddgaaZj21
import Derived.Shelf.Abstract
import Derived.Shelf.RegionOpen
import Derived.OwnWalkIn
import Derived.TacticsInMore
import Derived.LoopNIn
import Derived.LoopIn
namespace Go.Proofs.Ytmegfkclpjddgaa.It
open Go.RowKit Go.Shelf Go.Rel
attribute [local go_sem] Oper.semAt_some
set_option linter.unusedSimpArgs false
set_option linter.unusedVariables false

def rwEncs (x : Rw Rl) : Array Value := #[trV x]
set_option maxHeartbeats 4000000 in
set_option maxRecDepth 100000 in
theorem values_tells (D : Nat → Prop) (k : Nat) (hk : 1 ≤ k) (Bx c : Nat) (A : Option Addr) (l : List (Rw Rl)) (w : World) (hl : l.length ≤ 1000) (hD : ∀ k, RowsB A l.length k → ¬ D k) (hBx : w.heap[Bx]? = some (.cells #[.slice A l.length c] 75 (0, 0))) (hR : SK trC 6 w A l.length l) :
    SeqP Fence.wide k Try.prog 97 #[.pointer (some ⟨Bx, 0, none⟩)] rwEncs (nextIs l) (KpD D) (fun xs => xs = l) (fun pre => ∃ j, pre = l.take j) l.length w := fun lp J Jx W hW hJ hJx hY h0 => by
  have cb := cellsN ((hW.block _ (block_lt hBx)).trans hBx) 0 _ rfl
  have HR := Lib.hid (hR.below hW)
  have HDD := Lib.hid hD
  have HY := Lib.hid hY
  have HJ := Lib.hid hJ
  have HH0 := Lib.hid h0
  obtain ⟨L, hL⟩ : ∃ L, l.length = L := ⟨_, rfl⟩
  rw [hL] at cb hl
  have HL := Lib.hid hL
  clear hBx hR hD hW hJ hJx hY h0 hL
  refine callsIn_of_wp Try.func97 rfl trivial ?_ rfl
  simp only [Try.ntmps97, List.size_toArray, List.length_cons, List.length_nil, Nat.reduceAdd, Nat.reduceSub, Array.replicate_succ, Array.replicate_zero, List.push_toArray, List.append_toArray, List.nil_append, List.cons_append]
  gi_wp2
  clear cb
  gi_loopw [7] (fun s7 wr => ∃ j : Nat, j ≤ L ∧ s7 = .int .i64 (j : Int) ∧ Hid (J (l.take j) wr) ∧ Hid (KpD D W wr)) (fun s7 _ => L - (intOf s7).toNat)
  case atStart => exact ⟨0, Nat.zero_le _, rfl, HH0, Lib.hid ⟨Nat.le_refl _, fun _ _ _ h _ => h⟩⟩
  case round =>
    obtain ⟨j, hj, rfl, hJs, hkp⟩ := hrel
    by_cases hlt : j < L
    · have hjl : j < l.length := by rw [HL.out]; exact hlt
      have hr := HR.out.kpD (fun r => by rw [trC_len]; decide) HDD.out hkp.out
      obtain ⟨b, off, rfl, hbl, hit⟩ := hr.at_ hjl hjl
      have hst : l.take (j + 1) = l.take j ++ [l[j]] := List.take_succ_eq_append_getElem hjl
      obtain ⟨x, hx⟩ : ∃ x, l[j] = x := ⟨_, rfl⟩
      rw [hx] at hit hst
      obtain ⟨e0, e1, e2, e3, e4, e5⟩ := tr_cells hit
      have hb3 := below1 wr #[.string x.key, .string x.val.src, .string x.val.dst, .bool x.val.allow, .int .u64 (x.made : Int), .int .u64 (x.ix : Int)] 78
      have hn := heap_alloc_new wr (.cells #[.string x.key, .string x.val.src, .string x.val.dst, .bool x.val.allow, .int .u64 (x.made : Int), .int .u64 (x.ix : Int)] 78)
      obtain ⟨W3, hW3⟩ : ∃ W3, wr.alloc (.cells #[.string x.key, .string x.val.src, .string x.val.dst, .bool x.val.allow, .int .u64 (x.made : Int), .int .u64 (x.ix : Int)] 78) = W3 := ⟨_, rfl⟩
      have hJ3 : J (l.take j) W3 := by rw [← hW3]; exact HJ.out.alloc _ hJs.out
      rw [hW3] at hb3 hn
      obtain ⟨d0, d1, d2, d3, d4, d5⟩ := blk hn
      have HK3 : Hid (KpD D W W3) := Lib.hid (kpD_t hkp.out (kpD_of hb3))
      obtain ⟨fn, tmps, assign, body, hy, hRd⟩ := HY.out (l.take j) x W3 hJ3 ⟨j, hjl, rfl, hx⟩ (by rw [List.length_take]; omega)
      simp only [rwEncs, trV] at hy
      have HRd := Lib.hid hRd
      have HSt := Lib.hid hst
      clear hb3 hn hJ3 hRd hst hit hx hr
      gi_wp2
      refine HRd.out.mono ?_
      rintro e W4 ⟨hkf, (⟨rfl, hJ4, hk4⟩ | ⟨rfl, hJx4⟩)⟩
      · rw [← HSt.out] at hJ4
        have HJ4 := Lib.hid hJ4
        have HK4 : Hid (KpD D W W4) := Lib.hid (kpD_t HK3.out hk4)
        clear hJ4 hk4 hy hkf d0 d1 d2 d3 d4 d5 hW3
        gi_wp2
        go_roundw
        case rel => exact ⟨j + 1, by omega, by go_num, HJ4, HK4⟩
        case measure => simp [intOf]; omega
      · have HJx4 := Lib.hid hJx4
        clear hJx4 hy hkf d0 d1 d2 d3 d4 d5 hW3
        gi_wp2
        refine bodyPost_ret (results_none rfl _ _ _) rfl ?_
        exact ⟨⟨_, rfl⟩, .inr ⟨l.take j ++ [x], ⟨j + 1, HSt.out.symm⟩, HJx4.out⟩⟩
    · have he : l.take j = l := List.take_of_length_le (by rw [HL.out]; omega)
      rw [he] at hJs
      clear he
      gi_wp2
      refine bodyPost_end (results_none rfl _ _ _) rfl ?_
      exact ⟨⟨_, rfl⟩, .inl ⟨l, rfl, hJs.out⟩⟩
theorem twRow.slice {w w' : World} {u : Value} {l : List (Rw Rl)} {base : Nat} (h : twRow w' base u l) : ∃ A c, u = .slice A l.length c ∧ SK trC 6 w' A l.length l ∧ l.length ≤ c ∧ c ≤ maxLen ∧ ∀ b off, A = some ⟨b, off, none⟩ → base ≤ b := SK.of_row trC_len h
end Go.Proofs.Ytmegfkclpjddgaa.It
/-
  slices.AppendSeq and Collect at a table's rows; List, walked.
-/
namespace Go.Proofs.Ytmegfkclpjddgaa.It
open Go.RowKit Go.Shelf Go.Rel
attribute [local go_sem] Oper.semAt_some
set_option linter.unusedSimpArgs false
set_option linter.unusedVariables false

def apMk (X : Nat) (fv : Value) (x : Rw Rl) (Bx : Nat) : Act := { tmps := #[.slice none 0 0, fv, .pointer (some ⟨X, 0, none⟩), undef, .slice none 0 0, .pointer (some ⟨Bx, 0, none⟩), fv, .agg #[.string x.key, .string x.val.src, .string x.val.dst, .bool x.val.allow, .int .u64 (x.made : Int), .int .u64 (x.ix : Int)], undef, undef, undef, undef, undef], defers := [] }
set_option maxHeartbeats 4000000 in
set_option maxRecDepth 100000 in
theorem append_seq_any (k : Nat) (hk : 2 ≤ k) (lb : Array Value) (l : List (Rw Rl)) (hN : l.length ≤ 1000) (w : World) (hseq : SeqP Fence.wide (k - 1) Try.prog 97 lb rwEncs (nextIs l) (KpD (fun k => w.heap.size ≤ k)) (fun xs => xs = l) (fun pre => ∃ j, pre = l.take j) l.length w) :
    CallsIn Fence.wide k Try.prog 79 #[.slice none 0 0, .func (.func 97) #[] lb] w fun e w' => ∃ v, e = .returned v ∧ twRow w' w.heap.size v l ∧ Below w.heap.size w w' := by
  obtain ⟨i0, hi, hz0, hz1, hz2⟩ := info_parts tw_info
  obtain ⟨X, hX⟩ : ∃ X, w.heap.size = X := ⟨_, rfl⟩
  have b1 := below1 w #[.slice none 0 0] 75
  have k1 := Boxed.new w 75 (.slice none 0 0)
  obtain ⟨W1, hW1⟩ : ∃ W1, w.alloc (.cells #[.slice none 0 0] 75) = W1 := ⟨_, rfl⟩
  have s1 : W1.heap.size = X + 1 := by rw [← hW1, ← hX]; simp
  rw [hW1] at b1 k1
  rw [hX] at k1
  have HB1 := Lib.hid b1
  have HW1 := Lib.hid hW1
  have HX := Lib.hid hX
  have HS1 := Lib.hid s1
  have HK1 := Lib.hid k1
  have HSeq := Lib.hid hseq
  have hk1 : 1 ≤ k := by omega
  clear hX b1 k1 hW1 s1 hseq
  refine callsIn_of_wp_marks Try.func79 rfl trivial ?_ rfl
  simp only [Try.ntmps79, List.size_toArray, List.length_cons, List.length_nil, Nat.reduceAdd, Nat.reduceSub, Array.replicate_succ, Array.replicate_zero, List.push_toArray, List.append_toArray, List.nil_append, List.cons_append]
  gi_wp2
  rw [HW1.out, HX.out]
  refine wpIn_range_p rfl hk1 (gf := 97) (lb := lb) (by simp [go_sem]) trivial (enters_of Try.func97 (by kernel_rfl) rfl) HSeq.out kpD_t (fun W o' o h => kpD_b W o' o h) HB1.out (fun _ => rfl)
    (fun pre Wc => (∃ v, Boxed Wc X 75 v ∧ Wc.ownsRow w.heap.size 78 6 v pre.length (pre.flatMap trC) ∧ True) ∧ Below w.heap.size w Wc)
    (fun _ _ _ => False)
    (OwnFrom.and (Own.from (holdsRow_own w.heap.size X 75 78 6 (fun pre : List (Rw Rl) => pre.length) (fun pre => pre.flatMap trC) (fun _ _ => True)) _) (ownFrom_below (Nat.le_refl _) (by have := HS1.out; have := HX.out; omega)))
    (fun _ _ _ _ _ hs _ _ => hs)
    ⟨⟨_, HK1.out, World.ownsRow_nil _ _ _ _, trivial⟩, HB1.out⟩
    (rwAx (fun x => #[.string x.key, .string x.val.src, .string x.val.dst, .bool x.val.allow, .int .u64 (x.made : Int), .int .u64 (x.ix : Int)]) 78 l (apMk X (.func (.func 97) #[] lb)))
    (rwAx_own _ _ _ _ _) ?assign ?body ?done ?stop
  case assign =>
    rintro l2 pre x Wc K ⟨⟨v, hv, hrow, _⟩, hB⟩ hnx hK
    unfold rwEncs trV
    have hb := below1 Wc #[.string x.key, .string x.val.src, .string x.val.dst, .bool x.val.allow, .int .u64 (x.made : Int), .int .u64 (x.ix : Int)] 78
    have hn := heap_alloc_new Wc (.cells #[.string x.key, .string x.val.src, .string x.val.dst, .bool x.val.allow, .int .u64 (x.made : Int), .int .u64 (x.ix : Int)] 78)
    have hkk : KpD (fun k => w.heap.size ≤ k) Wc (Wc.alloc (.cells #[.string x.key, .string x.val.src, .string x.val.dst, .bool x.val.allow, .int .u64 (x.made : Int), .int .u64 (x.ix : Int)] 78)) := kpD_of hb
    have H := Lib.hid (And.intro hb (And.intro hn hkk))
    have HKK := Lib.hid hK
    have HV := Lib.hid hv
    have HRow := Lib.hid hrow
    have HBB := Lib.hid hB
    clear hb hn hK hv hrow hB hkk
    gi_wp2
    exact HKK.out _ _ (keepsFrom_below H.out.1) H.out.2.2 ⟨⟨v, HV.out.alloc _, HRow.out.alloc _, trivial⟩, HBB.out.alloc HBB.out.size _⟩ ⟨hnx, _, H.out.2.1, rfl⟩
  case body =>
    rintro l2 pre x a' W hl ⟨r0, hr0⟩ ⟨⟨v, hv, hrow, _⟩, hB⟩ ⟨_, Bx, hx, rfl⟩ hlt
    have hcL := hv.cell
    obtain ⟨c0, c1, c2, c3, c4, c5⟩ := blk hx
    have hBsz := hB.size
    have HRow := Lib.hid hrow
    have HV := Lib.hid hv
    have HBB := Lib.hid hB
    unfold apMk
    clear hrow hv hB hr0 hx
    gi_wp2_with (gi_at_builtin; refine wpListIn_append_own _ rfl _ _ 75 rfl w.heap.size 78 i0 (.agg #[.string ⟨#[]⟩, .string ⟨#[]⟩, .string ⟨#[]⟩, .bool false, .int .u64 0, .int .u64 0]) 6 72 Try.underlying75 hi hz0 hz1 hz2 rfl (by decide) _ _ _ rfl (HRow.out.alloc _) ⟨W.heap.size, 0, none⟩ 1 1 [.string x.key, .string x.val.src, .string x.val.dst, .bool x.val.allow, .int .u64 (x.made : Int), .int .u64 (x.ix : Int)] rfl rfl (fun j q hq => cellN_new _ #[.string x.key, .string x.val.src, .string x.val.dst, .bool x.val.allow, .int .u64 (x.made : Int), .int .u64 (x.ix : Int)] _ j q (by rw [← Array.getElem?_toList]; exact hq)) (by simp [Value.oneCell']) (by unfold maxLen; omega) (by omega) (by simp; omega) ?_; intro v' w1 hown' hgrow _; obtain ⟨g', cap', rfl⟩ := ownsRow_succ hown'; obtain ⟨hv1, hv2, hr2, hk2, hb2⟩ := HV.out.appended (by decide) HRow.out hBsz (by have := HX.out; omega) hown' hgrow; have hc1 := hv1.cell; have hf1 := hv1.frozen; have HV1 := Lib.hid hv1; have HV2 := Lib.hid hv2; have HR2' := Lib.hid hr2; have HK2 := Lib.hid hk2; have HB2' := Lib.hid hb2; have HG := Lib.hid hgrow; clear hv1 hv2 hr2 hk2 hb2 hgrow hown')
    refine ⟨HK2.out.from _, kpD_above HB2'.out, ⟨⟨_, HV2.out, ?_, trivial⟩, HBB.out.trans HB2'.out⟩⟩
    have := HR2'.out
    rw [List.length_append, List.flatMap_append]
    simpa [trC] using this
  case done =>
    rintro D ys Wc hD hS ⟨⟨v, hv, hrow, _⟩, hB⟩ hK
    have HSS := Lib.hid hS
    have hrow' : twRow (Wc.putObj D (.deferred none)) w.heap.size v ys := ownsRow_putObj hrow (.deferred none) hK rfl
    have hcL := hv.cell
    have HD : Hid (Below w.heap.size w (Wc.putObj D (.deferred none))) := Lib.hid (hB.trans (belowK_b (w := w) (Nat.le_refl _) Wc D _ _ (by have := HS1.out; have := HX.out; omega) hK rfl rfl))
    have HR := Lib.hid hrow'
    clear hrow' hrow hB hv hS
    gi_wp2
    refine ⟨by simp, .inl ⟨_, _, rfl, run_takeDeferred hK, ?_⟩⟩
    exact ⟨_, results_tmp rfl _ _ _, v, rfl, by rw [← HSS.out]; exact HR.out, HD.out⟩
  case stop =>
    rintro D c' pre W _ _ h _
    exact h.elim
set_option maxHeartbeats 2000000 in
theorem collect_any (k : Nat) (hk : 3 ≤ k) (lb : Array Value) (l : List (Rw Rl)) (hN : l.length ≤ 1000) (w : World) (hseq : SeqP Fence.wide (k - 1 - 1) Try.prog 97 lb rwEncs (nextIs l) (KpD (fun k => w.heap.size ≤ k)) (fun xs => xs = l) (fun pre => ∃ j, pre = l.take j) l.length w) :
    CallsIn Fence.wide k Try.prog 64 #[.func (.func 97) #[] lb] w fun e w' => ∃ v, e = .returned v ∧ twRow w' w.heap.size v l ∧ Below w.heap.size w w' := by
  have HA := Lib.hid (append_seq_any (k - 1) (by omega) lb l hN w hseq)
  have hk1 : 1 ≤ k := by omega
  clear hseq
  refine callsIn_of_wp Try.func64 rfl trivial ?_ rfl
  simp only [Try.ntmps64, List.size_toArray, List.length_cons, List.length_nil, Nat.reduceAdd, Nat.reduceSub, Array.replicate_succ, Array.replicate_zero, List.push_toArray, List.append_toArray, List.nil_append, List.cons_append]
  gi_wp2_with fail
  refine ⟨trivial, HA.out.mono ?_⟩
  rintro e w' ⟨v, rfl, hrow, hb⟩
  have H := Lib.hid (And.intro hrow hb)
  clear hrow hb
  gi_wp2
  go_ret
  exact ⟨v, rfl, H.out⟩
/-- All that a function yields, collected. -/
theorem collect_now {w w' : World} {v : Value} {l : List (Rw Rl)} {Bx : Nat} {A : Option Addr} {c : Nat} (h : Now w w' v l Bx A c) (hl : l.length ≤ 1000) :
    Calls Try.prog 64 #[v] w' fun e w2 => ∃ u, e = .returned u ∧ twRow w2 w'.heap.size u l ∧ Below w'.heap.size w' w2 := by
  rw [h.val]
  exact (callsIn_wide (n := 5)).1 (collect_any 5 (by omega) _ l hl w' (values_tells (fun k => w'.heap.size ≤ k) 3 (by omega) Bx c A l w' hl (fun k hk => by have := h.row.rowsB k hk; omega) h.box h.row))
section
variable {S : Nat → Prop} {w : World} {B : Nat} {t : Tb Rl}
theorem now_t (h : TAt S w B t) : Calls Try.prog 65 #[.pointer (some ⟨B, 0, none⟩)] w fun e w' => ∃ v Bx A c, e = .returned v ∧ Now w w' v t.l Bx A c := by
  obtain ⟨hok, A, c, h1⟩ := h
  exact (now_is h1 hok.most.1).mono fun e w' ⟨v, Bx, a, b⟩ => ⟨v, Bx, A, c, a, b⟩
theorem list_any (h : TAt S w B t) : Calls Try.prog 40 #[.pointer (some ⟨B, 0, none⟩)] w (New w t.l) := by
  have h64 : t.l.length ≤ 1000 := by have := h.1.len; have := h.1.most.2; omega
  have HN := Lib.hid (now_t h)
  have HL := Lib.hid h64
  clear h h64
  go_enter Try.func40, Try.ntmps40
  go_wp2_with fail
  refine HN.out.mono ?_
  rintro e w1 ⟨v, Bx, A, c, rfl, hn⟩
  have HC := Lib.hid (collect_now hn HL.out)
  have HB1 := Lib.hid hn.below
  clear hn HN
  go_wp2_with fail
  refine HC.out.mono ?_
  rintro e w2 ⟨u, rfl, hrow, hb⟩
  have HR := Lib.hid hrow
  have HB2 := Lib.hid (HB1.out.trans (hb.mono HB1.out.size))
  clear hrow hb HC
  go_wp2
  go_ret
  obtain ⟨A2, c2, rfl, h1, h2, h3, h4⟩ := twRow.slice (w := w) HR.out
  exact ⟨A2, c2, rfl, h1, h2, h3, fun b off e => Nat.le_trans HB1.out.size (h4 b off e), HB2.out⟩
theorem list_no {p : Option Addr} (h : NoTp 98 w p) : Calls Try.prog 40 #[.pointer p] w (New w []) := by
  have HN := Lib.hid (now_no h)
  clear h
  go_enter Try.func40, Try.ntmps40
  go_wp2_with fail
  refine HN.out.mono ?_
  rintro e w1 ⟨v, Bx, A, c, rfl, hn⟩
  have HC := Lib.hid (collect_now hn (by simp))
  have HB1 := Lib.hid hn.below
  clear hn HN
  go_wp2_with fail
  refine HC.out.mono ?_
  rintro e w2 ⟨u, rfl, hrow, hb⟩
  have HR := Lib.hid hrow
  have HB2 := Lib.hid (HB1.out.trans (hb.mono HB1.out.size))
  clear hrow hb HC
  go_wp2
  go_ret
  obtain ⟨A2, c2, rfl, h1, h2, h3, h4⟩ := twRow.slice (w := w) HR.out
  exact ⟨A2, c2, rfl, h1, h2, h3, fun b off e => Nat.le_trans HB1.out.size (h4 b off e), HB2.out⟩
end
end Go.Proofs.Ytmegfkclpjddgaa.It
