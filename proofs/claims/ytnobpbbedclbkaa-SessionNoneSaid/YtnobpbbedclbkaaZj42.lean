/-
  CloseNode, walked (layer 18).
-/
import Derived.Test.YtnobpbbedclbkaaZj40
import Derived.Test.YtnobpbbedclbkaaZj41
import Derived.Maps.OwnIn
namespace Go.Proofs.Ytnobpbbedclbkaa
open Go.RowKit Go.Shelf Go.Rel
attribute [local go_sem] Oper.semAt_some
set_option linter.unusedSimpArgs false
set_option linter.unusedVariables false

def scnE (B : Nat) (Bt : Nat) (g : Nat) (Bs : Nat) (i : Nat) (x : Rw Int) (k : ByteArray) (b : Bool) : Nat → Value
  | 0 | 1 | 2 => .pointer (some ⟨B, 0, none⟩)
  | 3 => .pointer (some ⟨Bt, 0, none⟩)
  | 4 => .pointer (some ⟨Bs, 0, none⟩)
  | 5 => .int .u64 (x.made : Int)
  | 6 => .string k
  | 7 => .int .u64 (i : Int)
  | 8 => .bool b
  | _ => undef
def cnMk (B : Nat) (node : Int) (i g X7 : Nat) (fv : Value) (x : Rw Int) (Bs : Nat) : Act := { tmps := #[.pointer (some ⟨B, 0, none⟩), .int .i64 node, .int .u64 (i : Int), .pointer (some ⟨g, 0, none⟩), .pointer (some ⟨g + 1, 0, none⟩), .pointer (some ⟨g + 1 + 1, 0, none⟩), .slice none 0 0, .pointer (some ⟨X7, 0, none⟩), .pointer (some ⟨Bs, 0, none⟩), .pointer (some ⟨B, 0, none⟩), fv, .agg #[.int .u64 (x.made : Int), .int .i64 x.val, .int .u64 (x.made : Int), .int .u64 (x.ix : Int)], undef, undef, undef, undef, undef, undef, undef, undef, undef, undef, undef, undef, undef, undef, undef, undef, undef, undef, undef], defers := [] }
section
variable {S : Nat → Prop} {w : World} {B Bt : Nat} {t : Sm}
set_option maxHeartbeats 8000000 in
set_option maxRecDepth 100000 in
theorem snode_any (node : Int) (i : Nat) (h : SAt S w B Bt t) (hi : i < 18446744073709551616) : Calls Try.prog 14 #[.pointer (some ⟨B, 0, none⟩), .int .i64 node, .int .u64 (i : Int)] w fun e w' => ∃ v, e = .returned v ∧ nuRow w' w.heap.size v (t.closeN node i).1 ∧ SAt (fun k => S k ∨ w.heap.size ≤ k) w' B Bt (t.closeN node i).2 ∧ But (· = Bt) w w' := by
  refine (callsIn_wide (n := 9)).1 ?_
  obtain ⟨i0, hi0, hz0, hz1, hz2⟩ := info_parts nu_info
  obtain ⟨g, hg⟩ : ∃ g, w.heap.size = g := ⟨_, rfl⟩
  obtain ⟨W1, hW1⟩ : ∃ W1, (((w.alloc (.cells #[.pointer (some ⟨B, 0, none⟩)] 23)).alloc (.cells #[.int .i64 node] 3)).alloc (.cells #[.int .u64 (i : Int)] 27)).alloc (.cells #[.slice none 0 0] 38) = W1 := ⟨_, rfl⟩
  have s1 : W1.heap.size = g + 1 + 1 + 1 + 1 := by rw [← hW1]; simp [hg]
  have b1 : Below w.heap.size w W1 := by rw [← hW1]; exact ((((Below.refl _ w).alloc (Nat.le_refl _) _).alloc (by simp) _).alloc (by simp; omega) _).alloc (by simp; omega) _
  have k3 : W1.heap[g]? = some (.cells #[.pointer (some ⟨B, 0, none⟩)] 23 (0, 0)) := by
    rw [← hW1, ← hg]
    exact ((((below1 _ _ _).block _ (by simp; omega)).trans ((below1 _ _ _).block _ (by simp; omega))).trans ((below1 _ _ _).block _ (by simp))).trans (heap_alloc_new w _)
  have k4 : W1.heap[g + 1]? = some (.cells #[.int .i64 node] 3 (0, 0)) := by
    rw [← hW1]
    have := heap_alloc_new (w.alloc (.cells #[.pointer (some ⟨B, 0, none⟩)] 23)) (.cells #[.int .i64 node] 3)
    rw [World.size_alloc, hg] at this
    exact (((below1 _ _ _).block _ (by simp; omega)).trans ((below1 _ _ _).block _ (by simp; omega))).trans this
  have k5 : W1.heap[g + 1 + 1]? = some (.cells #[.int .u64 (i : Int)] 27 (0, 0)) := by
    rw [← hW1]
    have := heap_alloc_new ((w.alloc (.cells #[.pointer (some ⟨B, 0, none⟩)] 23)).alloc (.cells #[.int .i64 node] 3)) (.cells #[.int .u64 (i : Int)] 27)
    rw [World.size_alloc, World.size_alloc, hg] at this
    exact ((below1 _ _ _).block _ (by simp; omega)).trans this
  have k7 : Boxed W1 (g + 1 + 1 + 1) 38 (.slice none 0 0) := by
    have := heap_alloc_new (((w.alloc (.cells #[.pointer (some ⟨B, 0, none⟩)] 23)).alloc (.cells #[.int .i64 node] 3)).alloc (.cells #[.int .u64 (i : Int)] 27)) (.cells #[.slice none 0 0] 38)
    rw [World.size_alloc, World.size_alloc, World.size_alloc, hg, hW1] at this
    exact this
  obtain ⟨S0, hS0⟩ : ∃ S0 : Nat → Prop, S0 = fun k => S k ∧ k < g := ⟨_, rfl⟩
  have h0 : SAt S0 w B Bt t := h.narrow fun k hk z => by rw [hS0]; exact ⟨z, hg ▸ hk⟩
  have h1 := h0.below b1
  have HSz : Hid (∀ k, S0 k → S k ∧ k < g) := Lib.hid fun k hk => by rw [hS0] at hk; exact hk
  have HE := Lib.hid (each_any h1)
  have HBlt : Hid (B < g ∧ Bt < g ∧ Bt ≠ B) := Lib.hid ⟨hg ▸ h.lt, hg ▸ h.tlt, h.tmine.2⟩
  have HAll := Lib.hid h.ok.all
  have HLen : Hid (t.l.length ≤ 64) := Lib.hid (by have := h.ok.len; have := h.ok.most.2; omega)
  have H1 := Lib.hid h1
  have HK3 := Lib.hid k3
  have HK4 := Lib.hid k4
  have HK5 := Lib.hid k5
  have HK7 := Lib.hid k7
  have HW1 := Lib.hid hW1
  have HG := Lib.hid hg
  have HS1 := Lib.hid s1
  have HB1 := Lib.hid b1
  have HI := Lib.hid hi
  rw [hg]
  clear h hg hW1 s1 b1 k3 k4 k5 k7 hS0 h0 h1 hi
  refine callsIn_of_wp_marks Try.func14 rfl trivial ?_ rfl
  simp only [Try.ntmps14, List.size_toArray, List.length_cons, List.length_nil, Nat.reduceAdd, Nat.reduceSub, Array.replicate_succ, Array.replicate_zero, List.push_toArray, List.append_toArray, List.nil_append, List.cons_append]
  have c3 := cellsN HK3.out 0 _ rfl
  gi_wp2_with fail
  rw [HW1.out, HG.out]
  refine ⟨trivial, (callsIn_wide.2 HE.out).mono ?_⟩
  rintro e W2 ⟨v, l, X, A, c, rfl, he, hl⟩
  have hz2 := he.below.size
  have hs1 := HS1.out
  have hll : l.length ≤ 64 := by rw [← List.length_map (f := snR), hl]; exact HLen.out
  obtain ⟨X7, hX7⟩ : ∃ X7, g + 1 + 1 + 1 = X7 := ⟨_, rfl⟩
  have HX7 : Hid (g < X7 ∧ X7 < W2.heap.size ∧ g + 1 < X7 ∧ g + 1 + 1 < X7) := Lib.hid (by omega)
  have HCn0 : Hid (Cn B Bt X7 S0 W2 t node i [] W2) := Lib.hid (Cn.start (by rw [← hX7]; exact (he.below.block _ (by omega)).trans HK7.out) (H1.out.below he.below) fun k hk => by have := (HSz.out k hk).2; omega)
  have HK3' := Lib.hid ((he.below.block g (by omega)).trans HK3.out)
  have HK4' := Lib.hid ((he.below.block (g + 1) (by omega)).trans HK4.out)
  have HK5' := Lib.hid ((he.below.block (g + 1 + 1) (by omega)).trans HK5.out)
  have HSeq := Lib.hid (each_tells (fun k => k < W1.heap.size ∨ W2.heap.size ≤ k) 8 (by omega) X c A l W2 (by omega) (fun k hk z => by
    obtain ⟨off, e, hn⟩ := hk
    have h1 := he.own k off e
    have h2 := he.row.rowsB k ⟨off, e, hn⟩
    omega) he.box he.row)
  have HB2 : Hid (Below g w W2) := Lib.hid (by rw [← HG.out]; exact HB1.out.trans (he.below.mono HB1.out.size))
  have HL := Lib.hid hl
  have HLl := Lib.hid hll
  have HZ2 : Hid (W1.heap.size ≤ W2.heap.size ∧ g < W1.heap.size ∧ X7 < W1.heap.size ∧ X7 = g + 1 + 1 + 1) := Lib.hid (by omega)
  have hv := he.val
  subst hv
  rw [hX7]
  clear he hl hll hz2 hs1 HE HK3 HK4 HK5 HK7 H1 HS1 hX7 c3 HW1
  gi_wp2
  refine wpIn_range_p rfl (by omega) (gf := 43) (lb := #[.pointer (some ⟨X, 0, none⟩)]) (by simp [go_sem]) trivial (enters_of Try.func43 (by kernel_rfl) rfl) HSeq.out kpD_t (fun W o' o h => kpD_b W o' o h) (Below.refl _ _) (fun _ => rfl)
    (Cn B Bt X7 S0 W2 t node i) (fun _ _ _ => False) (Cn.own HX7.out.2.1) (fun _ _ _ _ _ hs _ _ => hs) HCn0.out
    (rwAx (fun x => #[.int .u64 (x.made : Int), .int .i64 x.val, .int .u64 (x.made : Int), .int .u64 (x.ix : Int)]) TSn l (cnMk B node i g X7 (.func (.func 43) #[] #[.pointer (some ⟨X, 0, none⟩)])))
    (rwAx_own _ _ _ _ _) ?assign ?body ?done ?stop
  case assign =>
    rintro l2 pre x Wc K hcn hnx hK
    unfold snEncs snV
    simp only [snOf]
    have hb := below1 Wc #[.int .u64 (x.made : Int), .int .i64 x.val, .int .u64 (x.made : Int), .int .u64 (x.ix : Int)] TSn
    have hn := heap_alloc_new Wc (.cells #[.int .u64 (x.made : Int), .int .i64 x.val, .int .u64 (x.made : Int), .int .u64 (x.ix : Int)] TSn)
    have H := Lib.hid (And.intro hb hn)
    have HKK := Lib.hid hK
    have HCn := Lib.hid ((Cn.own HX7.out.2.1).alloc (.cells #[.int .u64 (x.made : Int), .int .i64 x.val, .int .u64 (x.made : Int), .int .u64 (x.ix : Int)] TSn) hcn)
    clear hb hn hK hcn
    gi_wp2
    exact HKK.out _ _ (keepsFrom_below H.out.1) (kpD_of H.out.1) HCn.out ⟨hnx, _, H.out.2, rfl⟩
  case body =>
    rintro l2 pre x a' W hl ⟨r0, hr0⟩ hcn ⟨hnx, Bs, hx, rfl⟩ hlt
    obtain ⟨s0, s1, s2, s3⟩ := sn_blk hx
    have hgz := HZ2.out
    have hbl := HBlt.out
    have hk3 := (hcn.but.block g (by omega) (by omega)).trans HK3'.out
    have hk4 := (hcn.but.block (g + 1) (by omega) (by omega)).trans HK4'.out
    have hk5 := (hcn.but.block (g + 1 + 1) (by omega) (by omega)).trans HK5'.out
    have c4 := cellsN hk4 0 _ rfl
    by_cases hn : x.val = node
    · have q : (x.val == node) = true := by rw [hn]; simp
      have hxm : snR x ∈ t.l := by rw [← HL.out]; exact List.mem_map_of_mem hnx.mem
      have hlt2 : x.made < 18446744073709551616 := (HAll.out _ hxm).2.2.2.2
      obtain ⟨⟨v, Sy, h1, h2, h3, h4, h5⟩, hb⟩ := hcn
      have hzb := hb.size
      obtain ⟨hm, kb, T, hr, ht⟩ := h3
      have HBs : Hid (Bs ≠ Bt) := Lib.hid fun e => by
        obtain ⟨_, A9, c9, h9⟩ := ht
        have := h9.blk
        rw [← e, hx] at this
        simp at this
      obtain ⟨hrel, -⟩ := hr.off (nid := x.made) hlt2 HI.out
      obtain ⟨k, hk⟩ : ∃ k, keyS digH x.made = k := ⟨_, rfl⟩
      have HKey := Lib.hid (fun W => key_any x.made W hlt2)
      rw [hk] at HKey hrel
      obtain ⟨b, hb9⟩ : ∃ b, (getR T.l k).isSome = b := ⟨_, rfl⟩
      obtain ⟨T', hT'⟩ : ∃ T', T.dropT k i = T' := ⟨_, rfl⟩
      rw [hT'] at hrel
      obtain ⟨S1, hS1⟩ : ∃ S1 : Nat → Prop, S1 = fun k => Sy k ∧ k ≠ B := ⟨_, rfl⟩
      have HDr := Lib.hid (fun W' (hw : Below W.heap.size W W') => (by
        have := Sx.drop_any k i (ht.below hw) HI.out
        rw [hT', hb9] at this
        rw [hS1]
        exact this : Calls Try.prog 31 #[.pointer (some ⟨Bt, 0, none⟩), .string k, .int .u64 (i : Int)] W' fun e w' => e = .returned (.bool b) ∧ Sx.TAt (fun k => S1 k ∨ W'.heap.size ≤ k) w' Bt T' ∧ But (· = Bt) W' w'))
      have HS1 : Hid (∀ k, S1 k → Sy k ∧ k ≠ B) := Lib.hid fun k hk => by rw [hS1] at hk; exact hk
      have HMu : Hid (∀ k, k = Bt → k < W.heap.size) := Lib.hid fun k e => by omega
      have HKb := Lib.hid kb
      have HK3 := Lib.hid hk3
      have HK5 := Lib.hid hk5
      have HKs := Lib.hid hx
      have HM := Lib.hid hm
      have HRel := Lib.hid hrel
      have H1 := Lib.hid h1
      have H2 := Lib.hid h2
      have H4 := Lib.hid h4
      have H5 := Lib.hid h5
      have HB := Lib.hid hb
      have HN := Lib.hid hn
      have hids : (idsS (pre.map snR) node).length ≤ 64 := by
        have := ids_length (pre.map snR) node
        rw [List.length_map] at this
        have := HLl.out
        omega
      have HIds := Lib.hid hids
      have HBB : Hid (B < W.heap.size ∧ W2.heap.size ≤ W.heap.size) := Lib.hid ⟨block_lt kb, hzb⟩
      unfold cnMk
      clear h1 h2 h4 h5 hb hm kb hr ht hrel hk hb9 hT' hS1 hk3 hk5 hk4 hxm hlt2 hnx hr0 hn hids hx hgz hbl hzb
      gi_wp2_with fail
      have hre : ∀ w : World, (But (OldB W)) w w := (fun w => But.refl _ w)
      have hrd : ∀ (ops9 : Array Oper) (f9 : Nat → Bool) (e9 : Nat → Value) (w9 : World) (i9 : Nat) (v9 : Value) (e8 : Nat → Value), [8].contains i9 = false → ((fun f9 (_ : Nat → Value) w9 => TI 8 W (fun w => Sx.TAt (fun k => (S1 k ∨ W.heap.size ≤ k) ∧ k < w.heap.size) w Bt T' ∧ But (· = Bt) W w) f9 w9)) f9 e9 w9 → Go.Rel.Put ops9 i9 e9 v9 e8 → ((fun f9 (_ : Nat → Value) w9 => TI 8 W (fun w => Sx.TAt (fun k => (S1 k ∨ W.heap.size ≤ k) ∧ k < w.heap.size) w Bt T' ∧ But (· = Bt) W w) f9 w9)) (Go.Rel.upd f9 i9) e8 w9 := (fun _ _ _ _ i9 _ _ hj h _ => h.read (fun e => by rw [e] at hj; exact absurd hj (by decide)))
      refine Go.Rel.wpIn_tabe (by kernel_rfl) (by kernel_rfl) ((fun f9 (_ : Nat → Value) w9 => TI 8 W (fun w => Sx.TAt (fun k => (S1 k ∨ W.heap.size ≤ k) ∧ k < w.heap.size) w Bt T' ∧ But (· = Bt) W w) f9 w9)) (But (OldB W)) hre ((fun _ _ _ h k => h.trans k)) (OldB.drew) (fun _ => TI.start) (scnE B Bt g Bs i x k b) (fun _ _ _ => True) (fun i => ([] : List Nat).contains i) (fun i => ([0, 3, 5, 6, 7, 8] : List Nat).contains i) (by kernel_rfl) (fun _ _ _ _ h _ => h) [8] (by decide) (hrd _) ?_ (Go.Rel.AllOf.get ?_) ?_
      · repeat (refine .cons (by first | exact Go.Rel.pure_sp rfl | exact Go.Rel.pure_yes (by kernel_rfl) (fun _ => by kernel_rfl) | exact Go.Rel.pure_no (by kernel_rfl) rfl) ?_)
        exact .nil
      · refine ⟨?_, ?_, ?_, ?_, ?_, ?_, trivial⟩
        · exact SpecE.ld (hrd _) hre (q := .pointer (some ⟨g, 0, none⟩)) (h := fun _ w' _ hI _ hdesc _ _ => by have cb := cellsN ((hI.ahead (hdesc 60 8 (by kernel_rfl))).block g (block_lt HK3.out) |>.trans HK3.out) 0 _ rfl; go_simp; rfl)
        · exact SpecE.ld (hrd _) hre (q := .pointer (some ⟨B, 0, none⟩)) (h := fun _ w' _ hI _ hdesc _ _ => by have cb := cellsN ((hI.ahead (hdesc 60 8 (by kernel_rfl))).block B (block_lt HKb.out) |>.trans HKb.out) 0 _ rfl; go_simp; rfl)
        · exact SpecE.ld (hrd _) hre (q := .pointer (some ⟨Bs, 0, none⟩)) (h := fun _ w' _ hI _ hdesc _ _ => by have cb := cellsN ((hI.ahead (hdesc 60 8 (by kernel_rfl))).block Bs (block_lt HKs.out) |>.trans HKs.out) 0 _ rfl; go_simp; rfl)
        · refine SpecE.gen (fun e => [(21, .int .u64 (x.made : Int))]) rfl rfl (fun _ => by kernel_rfl) fun f w' e hI hf hdesc hanc hle hX K hK => ?_
          go_simp
          have zL : f 8 = false := hdesc 60 8 (by kernel_rfl)
          refine (HKey.out w').mono ?_
          rintro e9 w9 ⟨rfl, hb9⟩
          exact hK _ _ (But.of_below hb9) (fun _ _ => hI.below zL hb9 (by decide)) rfl
        · exact SpecE.ld (hrd _) hre (q := .pointer (some ⟨(g + 1 + 1), 0, none⟩)) (h := fun _ w' _ hI _ hdesc _ _ => by have cb := cellsN ((hI.ahead (hdesc 60 8 (by kernel_rfl))).block (g + 1 + 1) (block_lt HK5.out) |>.trans HK5.out) 0 _ rfl; go_simp; rfl)
        · refine SpecE.gen (fun e => [(19, .pointer (some ⟨Bt, 0, none⟩)), (22, .string k), (23, .int .u64 (i : Int))]) rfl rfl (fun _ => by kernel_rfl) fun f w' e hI hf hdesc hanc hle hX K hK => ?_
          go_simp
          refine (HDr.out w' (hI.ahead hf)).mono ?_
          rintro e9 w9 ⟨rfl, h9, hb9⟩
          exact hK _ _ (But.oldB hb9 HMu.out) (fun _ _ => TI.last ⟨h9.narrow fun k hk z => ⟨z.imp id fun z => Nat.le_trans (hI.ahead hf).size z, hk⟩, (But.of_below (hI.ahead hf)).trans hb9⟩) rfl
      · intro f w3 e hall hJ hle hv
        have HJ := Lib.hid (hJ.done_ (hall 8 (by decide)))
        simp only [Go.Rel.finL, List.setIfInBounds_toArray, List.set_cons_succ, List.set_cons_zero]
        have hgz := HZ2.out
        have hbl := HBlt.out
        have hb3 : But (· = Bt) W w3 := HJ.out.2
        have H3 : Hid (SAt (fun k => (Sy k ∨ W.heap.size ≤ k) ∧ k < w3.heap.size) w3 B Bt ((t.closesS i (idsS (pre.map snR) node)).closeS x.made i).2) := Lib.hid (by
          have hz3 := hb3.size
          have hB := HBB.out
          refine ⟨⟨.inl HM.out, by omega⟩, (hb3.block B hB.1 fun e => hbl.2.2 e.symm).trans HKb.out, T', HRel.out, HJ.out.1.narrow fun k _ z => ?_⟩
          rcases z.1 with y | y
          · exact ⟨⟨.inl (HS1.out k y).1, z.2⟩, (HS1.out k y).2⟩
          · exact ⟨⟨.inr y, z.2⟩, by omega⟩)
        have hfrom : ∀ b, v.ownBlock = some b → W2.heap.size ≤ b ∧ b < W.heap.size := fun b e => rowK.from H2.out b e
        have HRow : Hid (nuRow w3 W2.heap.size v (idsS (pre.map snR) node)) := Lib.hid (own_but H2.out hb3 fun j hj e => absurd (hfrom j hj).1 (by omega))
        have hbx : Boxed w3 X7 38 v := (hb3.block X7 (by have := HBB.out; omega) (by omega)).trans H1.out
        have hcL := hbx.cell
        obtain ⟨e0, e1, e2, e3⟩ := sn_blk ((hb3.block Bs (block_lt HKs.out) (fun e => HBs.out e)).trans HKs.out)
        have HB3 := Lib.hid hb3
        have HBx := Lib.hid hbx
        have hids := HIds.out
        have hzz := HRow.out
        have hz3 : W2.heap.size ≤ w3.heap.size := by have := hb3.size; have := HBB.out; omega
        clear hv hall hle hJ HJ hfrom hb3 hbx HDr HKey hzz hgz hbl
        gi_wp2_with (gi_at_builtin; refine wpListIn_append_own_at _ rfl _ _ 38 rfl W2.heap.size 27 i0 (.int .u64 0) 1 8 Try.underlying38 hi0 hz0 hz1 hz2 rfl (by decide) _ _ _ rfl (HRow.out.below (below1 _ _ _)) ⟨w3.heap.size, 0, none⟩ 1 1 [.int .u64 (x.made : Int)] rfl rfl (fun j q hq => cellN_new _ #[.int .u64 (x.made : Int)] _ j q (by rw [← Array.getElem?_toList]; exact hq)) (by simp [Value.oneCell']) (by unfold maxLen; omega) (by omega) (by simp; omega) ?_; intro v' w5 hown hgr _ hw; obtain ⟨g', cap', rfl⟩ := ownsRow_succ hown; obtain ⟨hb6, hv5, hcn6⟩ := Cn.step HN.out HX7.out.2.1 (fun z => by have := (HSz.out X7 z).2; have := HX7.out; omega) (by have := HZ2.out; have := HBlt.out; omega) (by have := HZ2.out; have := HBlt.out; omega) HB.out H1.out H2.out H4.out H5.out H3.out HB3.out (show nuRow w5 W2.heap.size _ (idsS (pre.map snR) node ++ [x.made]) from by unfold nuRow rowK; rw [List.length_append, List.flatMap_append]; exact hown) hgr hw; have hc1 := hv5.cell; have hf1 := hv5.frozen; have HB6 := Lib.hid hb6; have HC6 := Lib.hid hcn6; clear hb6 hv5 hcn6 hown hgr hw)
        have hfr : ∀ b, v.ownBlock = some b → W2.heap.size ≤ b ∧ b < W.heap.size := fun b e => rowK.from H2.out b e
        have hgz := HZ2.out
        have hbl := HBlt.out
        refine ⟨keepsFrom_but HB6.out fun j o hj hjg ho => ?_, kpD_but (HB6.out.mono fun j hj => ?_), HC6.out⟩
        · rcases hj with z | z | z
          · omega
          · obtain ⟨cur, hc⟩ := rowK.cells_ H2.out z
            rw [ho] at hc
            cases hc
            rfl
          · have := HX7.out
            omega
        · rcases hj with z | z | z
          · exact .inl (by omega)
          · exact .inr (hfr j z).1
          · exact .inl (by omega)
    · have q : (x.val == node) = false := by rw [beq_eq_false_iff_ne]; exact hn
      have HCn := Lib.hid (hcn.skip (x := x) hn)
      unfold cnMk
      clear hcn hk3 hk4 hk5 hr0 hx hnx hgz hbl
      gi_wp2
      exact ⟨KeepsFrom.refl _ _, kpD_refl _ _, HCn.out⟩
  case done =>
    rintro D ys Wc hD hS hcn hK
    have hys : ys.map snR = t.l := by rw [hS]; exact HL.out
    have HCn := Lib.hid ((Cn.own HX7.out.2.1).putObj (.deferred none) hcn hD hK rfl)
    obtain ⟨⟨v, Sy, hv, _⟩, _⟩ := hcn
    have hcL := hv.cell
    have HV : Hid (Boxed (Wc.putObj D (.deferred none)) X7 38 v) := Lib.hid ((World.putObj_heap_other (by have := HX7.out; omega)).trans hv)
    have HY := Lib.hid hys
    clear hv hys hS
    gi_wp2
    refine ⟨by simp, .inl ⟨_, _, rfl, run_takeDeferred hK, ?_⟩⟩
    obtain ⟨⟨v2, Sy, h1, h2, h3, h4, h5⟩, hb⟩ := HCn.out
    obtain rfl : v2 = v := by
      have e1 : (Wc.putObj D (.deferred none)).heap[X7]? = _ := h1
      rw [show (Wc.putObj D (.deferred none)).heap[X7]? = _ from HV.out] at e1
      simp only [Option.some.injEq, Obj.cells.injEq, Array.mk.injEq, List.cons.injEq] at e1
      exact e1.1.1.symm
    have hgz := HZ2.out
    have hgw := HG.out
    rw [HY.out] at h2 h3
    refine ⟨_, results_tmp rfl _ _ _, v2, rfl, rowK.base_le h2 (by omega), h3.narrow fun k _ z => ?_, (But.of_below (hgw ▸ HB2.out)).then_ hb fun k e hk => ?_⟩
    · rcases (h4 k z).2 with y | y
      · exact .inl (HSz.out k y).1
      · exact .inr (by omega)
    · rcases e with e | e
      · exact e
      · omega
  case stop =>
    rintro D c' pre W _ _ h _
    exact h.elim
set_option maxHeartbeats 4000000 in
set_option maxRecDepth 100000 in
theorem snode_no {p : Option Addr} (node : Int) (i : Nat) (h : NoS w p) : Calls Try.prog 14 #[.pointer p, .int .i64 node, .int .u64 (i : Int)] w fun e w' => ∃ A c, e = .returned (.slice A 0 c) ∧ Below w.heap.size w w' := by
  refine (callsIn_wide (n := 9)).1 ?_
  obtain ⟨g, hg⟩ : ∃ g, w.heap.size = g := ⟨_, rfl⟩
  obtain ⟨W1, hW1⟩ : ∃ W1, (((w.alloc (.cells #[.pointer p] 23)).alloc (.cells #[.int .i64 node] 3)).alloc (.cells #[.int .u64 (i : Int)] 27)).alloc (.cells #[.slice none 0 0] 38) = W1 := ⟨_, rfl⟩
  have s1 : W1.heap.size = g + 1 + 1 + 1 + 1 := by rw [← hW1]; simp [hg]
  have b1 : Below w.heap.size w W1 := by rw [← hW1]; exact ((((Below.refl _ w).alloc (Nat.le_refl _) _).alloc (by simp) _).alloc (by simp; omega) _).alloc (by simp; omega) _
  have k3 : W1.heap[g]? = some (.cells #[.pointer p] 23 (0, 0)) := by
    rw [← hW1, ← hg]
    exact ((((below1 _ _ _).block _ (by simp; omega)).trans ((below1 _ _ _).block _ (by simp; omega))).trans ((below1 _ _ _).block _ (by simp))).trans (heap_alloc_new w _)
  have k4 : W1.heap[g + 1]? = some (.cells #[.int .i64 node] 3 (0, 0)) := by
    rw [← hW1]
    have := heap_alloc_new (w.alloc (.cells #[.pointer p] 23)) (.cells #[.int .i64 node] 3)
    rw [World.size_alloc, hg] at this
    exact (((below1 _ _ _).block _ (by simp; omega)).trans ((below1 _ _ _).block _ (by simp; omega))).trans this
  have k5 : W1.heap[g + 1 + 1]? = some (.cells #[.int .u64 (i : Int)] 27 (0, 0)) := by
    rw [← hW1]
    have := heap_alloc_new ((w.alloc (.cells #[.pointer p] 23)).alloc (.cells #[.int .i64 node] 3)) (.cells #[.int .u64 (i : Int)] 27)
    rw [World.size_alloc, World.size_alloc, hg] at this
    exact ((below1 _ _ _).block _ (by simp; omega)).trans this
  have k7 : Boxed W1 (g + 1 + 1 + 1) 38 (.slice none 0 0) := by
    have := heap_alloc_new (((w.alloc (.cells #[.pointer p] 23)).alloc (.cells #[.int .i64 node] 3)).alloc (.cells #[.int .u64 (i : Int)] 27)) (.cells #[.slice none 0 0] 38)
    rw [World.size_alloc, World.size_alloc, World.size_alloc, hg, hW1] at this
    exact this
  have HE := Lib.hid (each_no (h.below b1))
  have HK3 := Lib.hid k3
  have HK7 := Lib.hid k7
  have HW1 := Lib.hid hW1
  have HG := Lib.hid hg
  have HS1 := Lib.hid s1
  have HB1 := Lib.hid b1
  rw [hg]
  clear h hg hW1 s1 b1 k3 k4 k5 k7
  refine callsIn_of_wp_marks Try.func14 rfl trivial ?_ rfl
  simp only [Try.ntmps14, List.size_toArray, List.length_cons, List.length_nil, Nat.reduceAdd, Nat.reduceSub, Array.replicate_succ, Array.replicate_zero, List.push_toArray, List.append_toArray, List.nil_append, List.cons_append]
  have c3 := cellsN HK3.out 0 _ rfl
  gi_wp2_with fail
  rw [HW1.out, HG.out]
  refine ⟨trivial, (callsIn_wide.2 HE.out).mono ?_⟩
  rintro e W2 ⟨v, l, X, A, c, rfl, he, hl⟩
  obtain rfl : l = [] := List.map_eq_nil_iff.1 hl
  have hz2 := he.below.size
  have hs1 := HS1.out
  have hg1 := HG.out
  obtain ⟨X7, hX7⟩ : ∃ X7, g + 1 + 1 + 1 = X7 := ⟨_, rfl⟩
  have HX7 : Hid (X7 < W2.heap.size ∧ g ≤ X7) := Lib.hid (by omega)
  have HK7' : Hid (Boxed W2 X7 38 (.slice none 0 0)) := Lib.hid (by rw [← hX7]; exact (he.below.block _ (by omega)).trans HK7.out)
  have HSeq := Lib.hid (each_tells (fun _ => False) 8 (by omega) X c A [] W2 (by simp) (fun _ _ z => z) he.box he.row)
  have HB2 : Hid (Below g w W2) := Lib.hid (by rw [← HG.out]; exact HB1.out.trans (he.below.mono HB1.out.size))
  have hv := he.val
  subst hv
  rw [hX7]
  clear he hl hz2 hs1 HE HK3 HK7 HS1 hX7 c3 HW1 hg1
  gi_wp2
  refine wpIn_range_p rfl (by omega) (gf := 43) (lb := #[.pointer (some ⟨X, 0, none⟩)]) (by simp [go_sem]) trivial (enters_of Try.func43 (by kernel_rfl) rfl) HSeq.out kpD_t (fun W o' o h => kpD_b W o' o h) (Below.refl _ _) (fun _ => rfl)
    (fun _ W => Boxed W X7 38 (.slice none 0 0) ∧ Below g w W) (fun _ _ _ => False) ?own (fun _ _ _ _ _ hs _ _ => hs) ⟨HK7'.out, HB2.out⟩
    (fun _ _ _ _ => False) (fun _ _ _ _ _ _ _ h _ _ => h.elim) ?assign (fun _ _ _ _ _ _ _ _ h _ => h.elim) ?done (fun _ _ _ _ _ _ h _ => h.elim)
  case own =>
    rintro pre W W' row ⟨h1, h2⟩ hg2 hr
    exact ⟨(hg2.block X7 h1.lt (fun e => by have := (hr X7 e.symm).1; have := HX7.out; omega)).trans h1, h2.grown hg2 (by have := h2.size; have := HG.out; omega) fun k e => by have := (hr k e).1; have := HX7.out; omega⟩
  case assign =>
    rintro l2 pre x W K hi hn hK
    exact absurd hn.mem (by simp)
  case done =>
    rintro D ys Wc hD hS ⟨hv, hB⟩ hK
    have hcL := hv.cell
    have HD : Hid (Below g w (Wc.putObj D (.deferred none))) := Lib.hid (hB.grown (grownBy_putObj' Wc D (.deferred none)) (by have := hB.size; have := HG.out; omega) fun k e => by cases e; have := HX7.out; omega)
    clear hv hB hS
    gi_wp2
    refine ⟨by simp, .inl ⟨_, _, rfl, run_takeDeferred hK, ?_⟩⟩
    exact ⟨_, results_tmp rfl _ _ _, none, 0, rfl, HD.out⟩
end
end Go.Proofs.Ytnobpbbedclbkaa
