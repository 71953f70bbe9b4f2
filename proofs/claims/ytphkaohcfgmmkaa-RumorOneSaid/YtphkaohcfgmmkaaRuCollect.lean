/-
  slices.AppendSeq and slices.Collect of what waits (layer 10).
-/
import Derived.Test.YtphkaohcfgmmkaaRuIter
namespace Go.Proofs.Ytphkaohcfgmmkaa
open Go.RowKit Go.Shelf Go.Rel Go.Maps
set_option linter.unusedSimpArgs false
set_option linter.unusedVariables false
attribute [local go_sem] Oper.semAt_some

theorem cell5_new (w : World) (x y z u v : Value) (t : TypeId) (j : Nat) (q : Value) (h : [x, y, z, u, v][j]? = some q) : (w.alloc (.cells #[x, y, z, u, v] t)).cell? ((⟨w.heap.size, 0, none⟩ : Addr).add j) = some q := by
  rw [plain_add, Nat.zero_add, cell_of_row _ w.heap.size j _ _ (0, 0) (heap_alloc_new w _)]
  simpa using h
theorem keepsFrom_below {B : Nat} {W W' : World} (h : Below W.heap.size W W') : KeepsFrom B W W' := ⟨h.size, fun k o _ hk _ => (h.block k (block_lt hk)).trans hk⟩
/-- What a round's frame knows of what waits. -/
def ruAx (mk : Ru → Nat → Act) (x : Ru) (a : Act) (W : World) : Prop := ∃ Bx, W.heap[Bx]? = some (.cells #[.int .i64 x.u.node, .int .u32 (x.u.inc : Int), .int .i64 x.u.st, .int .i64 (x.sent : Int), .int .i64 (x.wh : Int)] 53 (0, 0)) ∧ a = mk x Bx
theorem ruAx_own (B : Nat) (mk : Ru → Nat → Act) (x : Ru) (a : Act) : OwnFrom B (fun (_ : Unit) W => ruAx mk x a W) := fun _ _ _ _ ⟨Bx, h, e⟩ hg hr =>
  ⟨Bx, (grownBy_keeps_cells hg (fun r e => (hr r e).2) h rfl).trans h, e⟩
def apMk (X : Nat) (fv : Value) (x : Ru) (Bx : Nat) : Act := { tmps := #[.slice none 0 0, fv, .pointer (some ⟨X, 0, none⟩), undef, .slice none 0 0, .pointer (some ⟨Bx, 0, none⟩), fv, .agg #[.int .i64 x.u.node, .int .u32 (x.u.inc : Int), .int .i64 x.u.st, .int .i64 (x.sent : Int), .int .i64 (x.wh : Int)], undef, undef, undef, undef, undef], defers := [] }
abbrev valIt : Nat := 27
set_option maxHeartbeats 4000000 in
set_option maxRecDepth 100000 in
theorem append_seq_any (k : Nat) (hk : 2 ≤ k) (lb : Array Value) (S : List Ru → Prop) (N : Nat) (hN : N ≤ 1000) (w : World) (hseq : SeqO Fence.wide (k - 1) Try.prog valIt lb ruEncs (fun _ _ => True) KeepsWalks S (fun _ => True) N w) :
    CallsIn Fence.wide k Try.prog 29 #[.slice none 0 0, .func (.func valIt) #[] lb] w fun e w' => ∃ v xs, e = .returned v ∧ S xs ∧ wtRow w' w.heap.size v xs ∧ Below w.heap.size w w' := by
  obtain ⟨i0, hi, hz0, hz1, hz2⟩ := info_parts wt_info
  obtain ⟨X, hX⟩ : ∃ X, w.heap.size = X := ⟨_, rfl⟩
  have b1 := below1 w (.cells #[.slice none 0 0] 50)
  have k1 := Boxed.new w 50 (.slice none 0 0)
  obtain ⟨W1, hW1⟩ : ∃ W1, w.alloc (.cells #[.slice none 0 0] 50) = W1 := ⟨_, rfl⟩
  have s1 : W1.heap.size = X + 1 := by rw [← hW1, ← hX]; simp
  rw [hW1] at b1 k1
  rw [hX] at k1
  have HB1 := Lib.hid b1
  have HW1 := Lib.hid hW1
  have HX := Lib.hid hX
  have HS1 := Lib.hid s1
  have HK1 := Lib.hid k1
  have HSeq := Lib.hid hseq
  have hk1 : 1 ≤ k := by omega
  clear hX b1 k1 hW1 s1 hseq
  refine callsIn_of_wp_marks Try.func29 rfl trivial ?_ rfl
  simp only [Try.ntmps29, List.size_toArray, List.length_cons, List.length_nil, Nat.reduceAdd, Nat.reduceSub, Array.replicate_succ, Array.replicate_zero, List.push_toArray, List.append_toArray, List.nil_append, List.cons_append]
  gi_wp2
  rw [HW1.out, HX.out]
  refine wpIn_range_o rfl hk1 (gf := valIt) (lb := lb) (by simp [go_sem]) trivial (enters_of Try.func27 (by kernel_rfl) rfl) HSeq.out walksK_t (fun W o' o h => KeepsWalks.putObj _ h rfl) HB1.out (fun _ => rfl)
    (fun pre Wc => (∃ v, Boxed Wc X 50 v ∧ Wc.ownsRow w.heap.size 53 5 v pre.length (pre.flatMap ruC) ∧ True) ∧ Below w.heap.size w Wc)
    (fun _ _ _ => False)
    (OwnFrom.and (Own.from (holdsRow_own w.heap.size X 50 53 5 (fun pre : List Ru => pre.length) (fun pre => pre.flatMap ruC) (fun _ _ => True)) _) (ownFrom_below (Nat.le_refl _) (by have := HS1.out; have := HX.out; omega)))
    (fun _ _ _ _ _ hs _ _ => hs)
    ⟨⟨_, HK1.out, World.ownsRow_nil _ _ _ _, trivial⟩, HB1.out⟩
    (ruAx (apMk X (.func (.func valIt) #[] lb)))
    (ruAx_own _ _) ?assign ?body ?done ?stop
  case assign =>
    rintro l2 pre x Wc K ⟨⟨v, hv, hrow, _⟩, hB⟩ _ hK
    unfold ruEncs
    have hb := below1 Wc (.cells #[.int .i64 x.u.node, .int .u32 (x.u.inc : Int), .int .i64 x.u.st, .int .i64 (x.sent : Int), .int .i64 (x.wh : Int)] 53)
    have hn := heap_alloc_new Wc (.cells #[.int .i64 x.u.node, .int .u32 (x.u.inc : Int), .int .i64 x.u.st, .int .i64 (x.sent : Int), .int .i64 (x.wh : Int)] 53)
    have H := Lib.hid (And.intro hb hn)
    have HKK := Lib.hid hK
    have HV := Lib.hid hv
    have HRow := Lib.hid hrow
    have HBB := Lib.hid hB
    clear hb hn hK hv hrow hB
    gi_wp2
    exact HKK.out _ _ (keepsFrom_below H.out.1) (KeepsWalks.alloc _ _) ⟨⟨v, HV.out.alloc _, HRow.out.alloc _, trivial⟩, HBB.out.alloc HBB.out.size _⟩ ⟨_, H.out.2, rfl⟩
  case body =>
    rintro l2 pre x a' W hl ⟨r0, hr0⟩ ⟨⟨v, hv, hrow, _⟩, hB⟩ ⟨Bx, hx, rfl⟩ hlt
    have hcL := hv.cell
    obtain ⟨c0, c1, c2, c3, c4⟩ := blk5 hx
    have hBsz := hB.size
    have HRow := Lib.hid hrow
    have HV := Lib.hid hv
    have HBB := Lib.hid hB
    unfold apMk
    clear hrow hv hB hr0 hx
    gi_wp2_with (gi_at_builtin; refine wpListIn_append_own _ rfl _ _ 50 rfl w.heap.size 53 i0 (.agg #[.int .i64 0, .int .u32 0, .int .i64 0, .int .i64 0, .int .i64 0]) 5 40 Try.underlying50 hi hz0 hz1 hz2 rfl (by decide) _ _ _ rfl (HRow.out.alloc _) ⟨W.heap.size, 0, none⟩ 1 1 [.int .i64 x.u.node, .int .u32 (x.u.inc : Int), .int .i64 x.u.st, .int .i64 (x.sent : Int), .int .i64 (x.wh : Int)] rfl rfl (cell5_new _ _ _ _ _ _ _) (by simp [Value.oneCell']) (by unfold maxLen; omega) (by omega) (by simp; omega) ?_; intro v' w1 hown' hgrow _; obtain ⟨g', cap', rfl⟩ := ownsRow_succ hown'; obtain ⟨hv1, hv2, hr2, hk2, hb2⟩ := HV.out.appended (by decide) HRow.out hBsz (by have := HX.out; omega) hown' hgrow; have hc1 := hv1.cell; have hf1 := hv1.frozen; have HV1 := Lib.hid hv1; have HV2 := Lib.hid hv2; have HR2' := Lib.hid hr2; have HK2 := Lib.hid hk2; have HB2' := Lib.hid hb2; have HG := Lib.hid hgrow; clear hv1 hv2 hr2 hk2 hb2 hgrow hown')
    refine ⟨HK2.out.from _, HK2.out.walks, ⟨⟨_, HV2.out, ?_, trivial⟩, HBB.out.trans HB2'.out⟩⟩
    have := HR2'.out
    rw [List.length_append, List.flatMap_append]
    simpa [ruC] using this
  case done =>
    rintro D ys Wc hD hS ⟨⟨v, hv, hrow, _⟩, hB⟩ hK
    have HSS := Lib.hid hS
    have hrow' : wtRow (Wc.putObj D (.deferred none)) w.heap.size v ys := ownsRow_putObj hrow (.deferred none) hK rfl
    have hcL := hv.cell
    have HD : Hid (Below w.heap.size w (Wc.putObj D (.deferred none))) := Lib.hid (hB.trans (belowK_b (w := w) (Nat.le_refl _) Wc D _ _ (by have := HS1.out; have := HX.out; omega) hK rfl rfl))
    have HR := Lib.hid hrow'
    clear hrow' hrow hB hv hS
    gi_wp2
    refine ⟨by simp, .inl ⟨_, _, rfl, run_takeDeferred hK, ?_⟩⟩
    exact ⟨_, results_tmp rfl _ _ _, v, ys, rfl, HSS.out, HR.out, HD.out⟩
  case stop =>
    rintro D c' pre W _ _ h _
    exact h.elim
set_option maxHeartbeats 2000000 in
theorem collect_any (k : Nat) (hk : 3 ≤ k) (lb : Array Value) (S : List Ru → Prop) (N : Nat) (hN : N ≤ 1000) (w : World) (hseq : SeqO Fence.wide (k - 1 - 1) Try.prog valIt lb ruEncs (fun _ _ => True) KeepsWalks S (fun _ => True) N w) :
    CallsIn Fence.wide k Try.prog 25 #[.func (.func valIt) #[] lb] w fun e w' => ∃ v xs, e = .returned v ∧ S xs ∧ wtRow w' w.heap.size v xs ∧ Below w.heap.size w w' := by
  have HA := Lib.hid (append_seq_any (k - 1) (by omega) lb S N hN w hseq)
  have hk1 : 1 ≤ k := by omega
  clear hseq
  refine callsIn_of_wp Try.func25 rfl trivial ?_ rfl
  simp only [Try.ntmps25, List.size_toArray, List.length_cons, List.length_nil, Nat.reduceAdd, Nat.reduceSub, Array.replicate_succ, Array.replicate_zero, List.push_toArray, List.append_toArray, List.nil_append, List.cons_append]
  gi_wp2_with fail
  refine ⟨trivial, HA.out.mono ?_⟩
  rintro e w' ⟨v, xs, rfl, hS, hrow, hb⟩
  have H := Lib.hid (And.intro hS (And.intro hrow hb))
  clear hS hrow hb
  gi_wp2
  go_ret
  exact ⟨v, xs, rfl, H.out⟩
end Go.Proofs.Ytphkaohcfgmmkaa
