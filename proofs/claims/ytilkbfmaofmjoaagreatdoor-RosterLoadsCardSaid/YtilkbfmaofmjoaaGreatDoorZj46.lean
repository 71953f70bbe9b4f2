import Derived.Test.YtilkbfmaofmjoaaGreatDoorZj45
import Derived.BigQuiet
import Derived.Deep.DeepCutAuto
namespace Go.Proofs.YtilkbfmaofmjoaaGreatDoor
open Go.RowKit Go.Rel
set_option linter.unusedSimpArgs false
set_option linter.unusedVariables false
def rdl00E (D : Nat) (Y : Nat) (L : Nat) (bk : Nat) (off : Nat) (k : Nat) (n1 : Nat) (c1 : Nat) (a1 : Nat) (x : Rw NdA) (er : Nat) : Nat → Value
  | 0 => .int .i64 (k : Int)
  | 1 | 2 | 12 | 13 | 18 | 19 | 20 | 25 | 26 | 27 => .bool false
  | 14 | 33 => .pointer (some ⟨Y, 2, none⟩)
  | 15 | 34 => .int .u64 (x.made : Int)
  | 16 | 21 => .pointer (some ⟨Y, 3, none⟩)
  | 17 | 22 => .int .u64 (x.ix : Int)
  | 23 => .pointer (some ⟨L, 0, none⟩)
  | 24 => .int .u64 (a1 : Int)
  | 28 => .pointer (some ⟨D, 0, none⟩)
  | 29 => .pointer (some ⟨Y, 0, none⟩)
  | 30 => .int .i64 x.val.node
  | 31 => .pointer (some ⟨Y, 1, none⟩)
  | 32 => .string x.val.addr
  | 35 => .int .i64 (er : Int)
  | 36 | 37 | 38 | 48 => .bool true
  | _ => undef
def rdl01E (D : Nat) (Y : Nat) (L : Nat) (bk : Nat) (off : Nat) (k : Nat) (n1 : Nat) (c1 : Nat) (a1 : Nat) (x : Rw NdA) : Nat → Value
  | 0 => .int .i64 (k : Int)
  | 1 | 2 | 12 | 13 | 18 | 19 | 20 | 25 | 26 | 27 | 36 | 37 | 38 | 47 | 48 => .bool false
  | 14 | 33 => .pointer (some ⟨Y, 2, none⟩)
  | 15 | 34 => .int .u64 (x.made : Int)
  | 16 | 21 | 44 => .pointer (some ⟨Y, 3, none⟩)
  | 17 | 22 | 45 => .int .u64 (x.ix : Int)
  | 23 => .pointer (some ⟨L, 0, none⟩)
  | 24 => .int .u64 (a1 : Int)
  | 28 | 39 => .pointer (some ⟨D, 0, none⟩)
  | 29 | 40 => .pointer (some ⟨Y, 0, none⟩)
  | 30 | 41 => .int .i64 x.val.node
  | 31 | 42 => .pointer (some ⟨Y, 1, none⟩)
  | 32 | 43 => .string x.val.addr
  | 35 | 46 => .int .i64 0
  | _ => undef
def rdl10E (D : Nat) (Y : Nat) (L : Nat) (bk : Nat) (off : Nat) (k : Nat) (n1 : Nat) (c1 : Nat) (a1 : Nat) (x : Rw NdA) (y : Rw NdA) (er : Nat) : Nat → Value
  | 0 | 4 => .int .i64 (k : Int)
  | 1 | 2 | 36 | 37 | 38 | 48 => .bool true
  | 3 => .slice (some ⟨bk, off, none⟩) n1 c1
  | 5 => .int .i64 ((k : Int) - 1)
  | 6 | 7 => .pointer (some ⟨bk, off + (k - 1) * 4, none⟩)
  | 8 => .int .i64 y.val.node
  | 9 | 29 => .pointer (some ⟨Y, 0, none⟩)
  | 10 | 30 => .int .i64 x.val.node
  | 11 | 12 | 13 | 18 | 19 | 20 | 25 | 26 | 27 => .bool false
  | 14 | 33 => .pointer (some ⟨Y, 2, none⟩)
  | 15 | 34 => .int .u64 (x.made : Int)
  | 16 | 21 => .pointer (some ⟨Y, 3, none⟩)
  | 17 | 22 => .int .u64 (x.ix : Int)
  | 23 => .pointer (some ⟨L, 0, none⟩)
  | 24 => .int .u64 (a1 : Int)
  | 28 => .pointer (some ⟨D, 0, none⟩)
  | 31 => .pointer (some ⟨Y, 1, none⟩)
  | 32 => .string x.val.addr
  | 35 => .int .i64 (er : Int)
  | _ => undef
def rdl11E (D : Nat) (Y : Nat) (L : Nat) (bk : Nat) (off : Nat) (k : Nat) (n1 : Nat) (c1 : Nat) (a1 : Nat) (x : Rw NdA) (y : Rw NdA) : Nat → Value
  | 0 | 4 => .int .i64 (k : Int)
  | 1 | 2 => .bool true
  | 3 => .slice (some ⟨bk, off, none⟩) n1 c1
  | 5 => .int .i64 ((k : Int) - 1)
  | 6 | 7 => .pointer (some ⟨bk, off + (k - 1) * 4, none⟩)
  | 8 => .int .i64 y.val.node
  | 9 | 29 | 40 => .pointer (some ⟨Y, 0, none⟩)
  | 10 | 30 | 41 => .int .i64 x.val.node
  | 11 | 12 | 13 | 18 | 19 | 20 | 25 | 26 | 27 | 36 | 37 | 38 | 47 | 48 => .bool false
  | 14 | 33 => .pointer (some ⟨Y, 2, none⟩)
  | 15 | 34 => .int .u64 (x.made : Int)
  | 16 | 21 | 44 => .pointer (some ⟨Y, 3, none⟩)
  | 17 | 22 | 45 => .int .u64 (x.ix : Int)
  | 23 => .pointer (some ⟨L, 0, none⟩)
  | 24 => .int .u64 (a1 : Int)
  | 28 | 39 => .pointer (some ⟨D, 0, none⟩)
  | 31 | 42 => .pointer (some ⟨Y, 1, none⟩)
  | 32 | 43 => .string x.val.addr
  | 35 | 46 => .int .i64 0
  | _ => undef
set_option maxHeartbeats 16000000 in
set_option maxRecDepth 100000 in
theorem rdload_any (mo : Int) (hm : -9223372036854775808 ≤ mo ∧ mo ≤ 9223372036854775807) (A1 A2 A3 : Option Addr) (n1 n2 n3 c1 c2 c3 : Nat) (ns : List (Rw NdA)) (ls : List (Rw SvW)) (ss : List (Rw SvA)) (cs : List (Rw CkA)) (a1 a2 a3 : Nat) (w : World)
    (h1 : SK ndC 4 w A1 n1 ns) (h2 : SK svC 7 w A2 n2 ls) (h3 : SK ckC 7 w A3 n3 cs) (hss : ls.map (rwMap (fun v : SvW => v.a)) = ss) (k1 : ∀ x ∈ ns, x.key = x.val.key) (k2 : ∀ x ∈ ls, x.key = x.val.a.key) (k3 : ∀ x ∈ cs, x.key = x.val.key)
    (i1 : ∀ x ∈ ns, LdN x) (i2 : ∀ x ∈ ls, LdS w x) (i3 : ∀ x ∈ cs, LdC x) (hn1 : n1 ≤ maxLen) (hn2 : n2 ≤ maxLen) (hn3 : n3 ≤ maxLen) (ha1 : a1 < 18446744073709551616) (ha2 : a2 < 18446744073709551616) (ha3 : a3 < 18446744073709551616) :
    Calls Tryz.prog 23 #[.int .i64 mo, .slice A1 n1 c1, .slice A2 n2 c2, .slice A3 n3 c3, .agg #[.int .u64 (a1 : Int), .int .u64 (a2 : Int), .int .u64 (a3 : Int)]] w (RdLoPost w (mostT mo) (LoadOk (mostT mo) ns ss cs a1 a2 a3) (Ro.loaded (mostT mo) ns ss cs a1 a2 a3)) := by
  unfold maxLen at hn1 hn2 hn3
  have hn1' : (n1 : Int) ≤ 9223372036854775807 := by omega
  have hn2' : (n2 : Int) ≤ 9223372036854775807 := by omega
  have hn3' : (n3 : Int) ≤ 9223372036854775807 := by omega
  obtain ⟨L, hL⟩ : ∃ L, w.heap.size = L := ⟨_, rfl⟩
  have b1 := below1 w #[.int .u64 (a1 : Int), .int .u64 (a2 : Int), .int .u64 (a3 : Int)] 55
  have kl := heap_alloc_new w (.cells #[.int .u64 (a1 : Int), .int .u64 (a2 : Int), .int .u64 (a3 : Int)] 55)
  obtain ⟨W1, hW1⟩ : ∃ W1, w.alloc (.cells #[.int .u64 (a1 : Int), .int .u64 (a2 : Int), .int .u64 (a3 : Int)] 55) = W1 := ⟨_, rfl⟩
  have s1 : W1.heap.size = L + 1 := by rw [← hW1, ← hL]; simp
  rw [hW1] at b1 kl
  rw [hL] at kl
  have HNew := Lib.hid (rdnew_any mo W1 w.heap.size hm (by omega))
  obtain ⟨m, hmm⟩ : ∃ m, mostT mo = m := ⟨_, rfl⟩
  rw [hmm] at HNew ⊢
  have HKyn := Lib.hid k1
  have HKys : Hid (∀ x ∈ ss, x.key = x.val.key) := Lib.hid (fun x hx => by
    rw [← hss] at hx
    obtain ⟨y, hy, rfl⟩ := List.mem_map.1 hx
    exact k2 y hy)
  have HKyc := Lib.hid k3
  have HAll := Lib.hid (And.intro h1 (And.intro h2 h3))
  have HIs := Lib.hid (And.intro i1 (And.intro i2 i3))
  have HAs := Lib.hid (And.intro ha1 (And.intro ha2 ha3))
  have HTg := Lib.hid (fun x (hx : x ∈ ls) => (⟨(i2 x hx).s.tx, fun b off e hn => (i2 x hx).s.tx.block e hn⟩ : TgAt (fun k => k < w.heap.size) w x.val))
  have HSs := Lib.hid hss
  have HB1 := Lib.hid b1
  have HKl0 := Lib.hid kl
  have HW1 := Lib.hid hW1
  have HL := Lib.hid hL
  have HS1 := Lib.hid s1
  clear h1 h2 h3 hss k1 k2 k3 i1 i2 i3 ha1 ha2 ha3 b1 kl hW1 hL s1 hm hmm hn1 hn2 hn3
  go_enter Tryz.func23, Tryz.ntmps23
  go_wp2_with fail
  rw [HW1.out, HL.out]
  refine HNew.out.mono ?_
  rintro e w2 ⟨rfl, hro, hb2⟩
  obtain ⟨D, hD⟩ : ∃ D, W1.heap.size = D := ⟨_, rfl⟩
  rw [hD] at hro ⊢
  have HLd : Hid (LdD w.heap.size w2 D m L #[.int .u64 (a1 : Int), .int .u64 (a2 : Int), .int .u64 (a3 : Int)] 55 (Ro.new m) w2) := Lib.hid (LdD.start hro ((hb2.block L (by have := HS1.out; omega)).trans HKl0.out) (by have := HS1.out; omega))
  have HB2 := Lib.hid (HB1.out.trans (hb2.mono HB1.out.size))
  have HBl := Lib.hid (fun W (hW : But (· = D) w2 W) => (HB2.out.trans (hW.below HB2.out.size fun k hk e => by have h1 := HB1.out.size; rw [e] at hk; omega) : Below w.heap.size w W))
  clear hro hb2 hD HNew
  go_wp2
  go_loopw [12] (fun iv wr => ∃ k b : Nat, k ≤ n1 ∧ iv = .int .i64 (k : Int) ∧ Hid (b ≤ a1) ∧ Hid (Gd wrongN NdA.key m (ns.take k) a1) ∧ Hid (LdD w.heap.size w2 D m L #[.int .u64 (a1 : Int), .int .u64 (a2 : Int), .int .u64 (a3 : Int)] 55 (⟨(⟨m, ns.take k, b⟩ : Tb NdA), ⟨m, [], 0⟩, ⟨m, [], 0⟩⟩ : Ro) wr)) (fun iv _ => n1 - (intOf iv).toNat)
  case atStart => exact ⟨0, 0, Nat.zero_le _, rfl, Lib.hid (Nat.zero_le _), Lib.hid ⟨Nat.zero_le _, .nil, fun x hx => by simp at hx⟩, HLd⟩
  case round =>
    obtain ⟨k, b, hk, rfl, hble, hgd, hld⟩ := hrel
    have hbw := HBl.out wr hld.out.but
    by_cases hlt : k < n1
    · as_aux_lemma =>
      have hkl0 : k < ns.length := by rw [HAll.out.1.1]; exact hlt
      have hkl := hkl0
      obtain ⟨bk, off, rfl, hbl, hit⟩ := (HAll.out.1.below hbw).at_ hlt hkl0
      have hmem : ns[k] ∈ ns := List.getElem_mem _
      have hin := HIs.out.1 _ hmem
      have hNb := fun h1 h2 => Gd.ord_bad (wr := wrongN) (ky := NdA.key) (m := m) (a := a1) (nd := NdA.node) (idd := (fun _ => noT)) (fun _ => rfl) wrongN_nd h1 hkl HKyn.out h2
      have hOk := fun h1 h2 => Gd.ord_ok (nd := NdA.node) (idd := (fun _ => noT)) (fun _ => rfl) wrongN_nd hgd.out hkl HKyn.out h1 h2
      have hky0 := HKyn.out _ (List.getElem_mem hkl)
      have h00 : ltT noT ns[k].key = true := by rw [hky0]; exact key_pos _ _
      have hNo := fun hc => Gd.not (wr := wrongN) (ky := NdA.key) (m := m) (a := a1) (b := b) hkl hky0 h00 hc
      have hYes := fun h1 h2 h3 h4 => Gd.yes (wr := wrongN) (ky := NdA.key) (m := m) (a := a1) (b := b) hgd.out hkl hky0 h1 h2 h3 h4
      obtain ⟨x, hx⟩ : ∃ x, ns[k] = x := ⟨_, rfl⟩
      rw [hx] at hit hin
      rw [hx] at hNo hYes hOk hNb
      obtain ⟨Y, hY⟩ : ∃ Y, wr.heap.size = Y := ⟨_, rfl⟩
      obtain ⟨W0, hW0⟩ : ∃ W0, wr.alloc (.cells #[.int .i64 x.val.node, .string x.val.addr, .int .u64 (x.made : Int), .int .u64 (x.ix : Int)] TNd) = W0 := ⟨_, rfl⟩
      have b5 : Below wr.heap.size wr W0 := by rw [← hW0]; exact below1 _ _ _
      have k5 : W0.heap[Y]? = some (.cells #[.int .i64 x.val.node, .string x.val.addr, .int .u64 (x.made : Int), .int .u64 (x.ix : Int)] TNd (0, 0)) := by rw [← hW0, ← hY]; exact heap_alloc_new wr _
      have HLd0 := Lib.hid (hld.out.below b5)
      have hYd : Y ≠ D := by have := hld.out.ne; have := hld.out.but.size; omega
      have HKy := Lib.hid k5
      have HYd := Lib.hid hYd
      have HIn := Lib.hid hin
      have HNo := Lib.hid hNo
      have HYes := Lib.hid hYes
      have HNb := Lib.hid hNb
      have HOk := Lib.hid hOk
      have HGd := hgd
      have HBle := hble
      have HW0 := Lib.hid hW0
      have HY := Lib.hid hY
      have HB0w := Lib.hid (hbw.trans (b5.mono hbw.size))
      have ee := nd_cells hit
      have p1 : (k : Int) < (n1 : Int) := by omega
      have p0 : (0 : Int) ≤ (k : Int) := by omega
      have hprev : 0 < k → ∃ y : Rw NdA, (∃ h : k - 1 < ns.length, ns[k - 1]'h = y) ∧ ∀ W, But (· = D) W0 W → ItAt ndC W bk (off + (k - 1) * 4) y := fun h0 => ⟨_, ⟨by omega, rfl⟩, fun W hW => by
        obtain ⟨b9, off9, e9, _, h9⟩ := (HAll.out.1.below (HBl.out W ((hld.out.but.trans (But.of_below b5)).trans hW))).at_ (j := k - 1) (by omega) (by omega)
        cases e9
        exact h9⟩
      have HPrev := Lib.hid hprev
      clear hit hmem hin hx hky0 h00 hNo hYes hNb hOk hgd hble hld hW0 hY b5 k5 hYd hbw hprev
      have hLay := fun (W : World) (t : Tb NdA) (i : Nat) (h9 : RdAt w.heap.size (fun q => q = D ∨ w2.heap.size ≤ q) W D m (⟨t, ⟨m, [], 0⟩, ⟨m, [], 0⟩⟩ : Ro)) (hi : i < 18446744073709551616) => (by
        have h8 := rdnode_any x.val.node x.val.addr i h9 HIn.out.addr hi
        rw [show ((⟨x.val.node, x.val.addr⟩ : NdA)) = x.val from rfl, Ro.node_lay] at h8
        exact h8 : Calls Tryz.prog 36 #[.pointer (some ⟨D, 0, none⟩), .int .i64 x.val.node, .string x.val.addr, .int .u64 (i : Int)] W fun e w' => e = .returned (.int .i64 ((layT wrongN NdA.key t x.val i).1 : Int)) ∧ RdAt w.heap.size (fun q => (q = D ∨ w2.heap.size ≤ q) ∨ W.heap.size ≤ q) w' D m (⟨(layT wrongN NdA.key t x.val i).2, ⟨m, [], 0⟩, ⟨m, [], 0⟩⟩ : Ro) ∧ But (· = D) W w')
      have HLay := Lib.hid hLay
      have HSz := Lib.hid (fun W (hW : But (· = D) W0 W) => (show w2.heap.size ≤ W.heap.size ∧ w.heap.size ≤ D ∧ w.heap.size ≤ w2.heap.size from ⟨Nat.le_trans HLd0.out.but.size hW.size, HLd0.out.ne.2.2.1, HLd0.out.ne.2.2.2⟩))
      clear hLay
      go_wp2
      rw [HW0.out, HY.out]
      by_cases hk0 : 0 < k
      · obtain ⟨y, ⟨hkp, hyx⟩, hpv⟩ := HPrev.out hk0
        have HPv := Lib.hid hpv
        have hNb9 := HNb.out hk0
        have hOk9 := HOk.out
        rw [hyx] at hNb9 hOk9
        have HNb9 := Lib.hid hNb9
        have HOk9 := Lib.hid hOk9
        have HF4 : Hid (IntKind.i64.wrap ((k : Int) - 1) = (k : Int) - 1) := Lib.hid (by simp [IntKind.wrap, IntKind.bits, IntKind.signed]; omega)
        have HF8 : Hid ((1 : Int) ≤ (k : Int)) := Lib.hid (by omega)
        have HF5 : Hid (0 ≤ (k : Int) - 1 ∧ (k : Int) - 1 < (n1 : Int) ∧ ((k : Int) - 1).toNat = k - 1) := Lib.hid ⟨by omega, by omega, by omega⟩
        clear hyx hpv hNb9 hOk9
        have HF1 : Hid (decide (0 < k) = true ∧ decide ((0 : Int) < (k : Int)) = true) := Lib.hid ⟨decide_eq_true (by omega), decide_eq_true (by omega)⟩
        by_cases hq : x.val.node ≤ y.val.node
        case pos =>
          have HNo : Hid (¬ LoadOk m ns ss cs a1 a2 a3) := Lib.hid (fun z => (HNb9.out (by show badB y.val.node noT x.val.node noT = true; rw [badN_is]; exact decide_eq_true hq)) z.1)
          have u6 : decide (x.val.node ≤ y.val.node) = true := decide_eq_true hq
          clear hq
          have u1 := HF1.out.1
          have u1' := HF1.out.2
          have cy := nd_blk HKy.out
          have cl := cellsN HLd0.out.bl 0 _ rfl
          have cp := nd_cells (HPv.out W0 (But.refl _ _))
          have u4 := HF4.out
          have u5 := HF5.out.1
          have u5a := HF5.out.2.1
          have u5b := HF5.out.2.2
          have u5c := HF8.out
          go_quiet (fail)
          generalize hWq : W0.drewN _ = wq
          have HBq : Hid (Below w.heap.size w wq) := Lib.hid (by rw [← hWq]; exact below_drewN HB0w.out _)
          clear hWq
          go_wp2
          go_ret
          exact RdLoPost.no HBq.out HNo.out
        have HF6 : Hid (decide (x.val.node ≤ y.val.node) = false) := Lib.hid (decide_eq_false hq)
        have HOr : Hid (wrongN x.val = 0 → ltT (befK ns k) x.key = true) := Lib.hid (fun hz => HOk9.out hz (.inr ⟨hk0, by show badB y.val.node noT x.val.node noT = false; rw [badN_is]; exact decide_eq_false hq⟩))
        clear hq
        by_cases hc2 : x.made ≤ x.ix
        case neg =>
          have HNo : Hid (¬ LoadOk m ns ss cs a1 a2 a3) := Lib.hid (fun z => (HNo.out (fun z => hc2 z.2.1)) z.1)
          have u2 : decide (x.ix < x.made) = true := decide_eq_true (by omega)
          clear hc2
          have u1 := HF1.out.1
          have u1' := HF1.out.2
          have cy := nd_blk HKy.out
          have cl := cellsN HLd0.out.bl 0 _ rfl
          have cp := nd_cells (HPv.out W0 (But.refl _ _))
          have u4 := HF4.out
          have u5 := HF5.out.1
          have u5a := HF5.out.2.1
          have u5b := HF5.out.2.2
          have u5c := HF8.out
          have u6 := HF6.out
          go_quiet (fail)
          generalize hWq : W0.drewN _ = wq
          have HBq : Hid (Below w.heap.size w wq) := Lib.hid (by rw [← hWq]; exact below_drewN HB0w.out _)
          clear hWq
          go_wp2
          go_ret
          exact RdLoPost.no HBq.out HNo.out
        have HF2 : Hid (decide (x.ix < x.made) = false ∧ decide ((x.ix : Int) < (x.made : Int)) = false) := Lib.hid ⟨decide_eq_false (by omega), decide_eq_false (by omega)⟩
        by_cases hc3 : x.ix ≤ a1
        case neg =>
          have HNo : Hid (¬ LoadOk m ns ss cs a1 a2 a3) := Lib.hid (fun z => (HNo.out (fun z => hc3 z.2.2.1)) z.1)
          have u2 := HF2.out.1
          have u3 : decide (a1 < x.ix) = true := decide_eq_true (by omega)
          clear hc2 hc3
          have u1 := HF1.out.1
          have u1' := HF1.out.2
          have cy := nd_blk HKy.out
          have cl := cellsN HLd0.out.bl 0 _ rfl
          have cp := nd_cells (HPv.out W0 (But.refl _ _))
          have u4 := HF4.out
          have u5 := HF5.out.1
          have u5a := HF5.out.2.1
          have u5b := HF5.out.2.2
          have u5c := HF8.out
          have u6 := HF6.out
          go_quiet (fail)
          generalize hWq : W0.drewN _ = wq
          have HBq : Hid (Below w.heap.size w wq) := Lib.hid (by rw [← hWq]; exact below_drewN HB0w.out _)
          clear hWq
          go_wp2
          go_ret
          exact RdLoPost.no HBq.out HNo.out
        have HF3 : Hid (decide (a1 < x.ix) = false ∧ decide ((a1 : Int) < (x.ix : Int)) = false) := Lib.hid ⟨decide_eq_false (by omega), decide_eq_false (by omega)⟩
        obtain ⟨r9, hr9⟩ : ∃ r, layT wrongN NdA.key (⟨m, ns.take k, b⟩ : Tb NdA) x.val x.made = r := ⟨_, rfl⟩
        by_cases h0 : r9.1 = 0
        case neg =>
          have HNo : Hid (¬ LoadOk m ns ss cs a1 a2 a3) := Lib.hid (fun z => (HNo.out (fun z => h0 ((congrArg Prod.fst hr9).symm.trans z.2.2.2))) z.1)
          obtain ⟨er, her⟩ : ∃ er, r9.1 = er := ⟨_, rfl⟩
          have HF7 : Hid (((er : Int) != 0) = true) := Lib.hid (by rw [her] at h0; simp; omega)
          have HC1 := Lib.hid (fun W (h9 : RdAt w.heap.size (fun q => q = D ∨ w2.heap.size ≤ q) W D m (⟨(⟨m, ns.take k, b⟩ : Tb NdA), ⟨m, [], 0⟩, ⟨m, [], 0⟩⟩ : Ro)) (_ : But (· = D) W0 W) => ((HLay.out W _ x.made h9 HIn.out.made).mono fun e w' h8 => by rw [hr9, her] at h8; exact h8 : Calls Tryz.prog 36 #[.pointer (some ⟨D, 0, none⟩), .int .i64 x.val.node, .string x.val.addr, .int .u64 (x.made : Int)] W fun e w' => e = .returned (.int .i64 (er : Int)) ∧ RdAt w.heap.size (fun q => (q = D ∨ w2.heap.size ≤ q) ∨ W.heap.size ≤ q) w' D m (⟨r9.2, ⟨m, [], 0⟩, ⟨m, [], 0⟩⟩ : Ro) ∧ But (· = D) W w'))
          clear hr9 h0 her hc2 hc3
          have hre : ∀ w : World, ((fun _ _ : World => True)) w w := (fun _ => trivial)
          have hrd : ∀ (ops9 : Array Oper) (f9 : Nat → Bool) (e9 : Nat → Value) (w9 : World) (i9 : Nat) (v9 : Value) (e8 : Nat → Value), [35].contains i9 = false → (fun (f : Nat → Bool) (_ : Nat → Value) (wz : World) => LdQ1 w.heap.size w2 D m W0 (⟨(⟨m, ns.take k, b⟩ : Tb NdA), ⟨m, [], 0⟩, ⟨m, [], 0⟩⟩ : Ro) 35 f wz) f9 e9 w9 → Go.Rel.Put ops9 i9 e9 v9 e8 → (fun (f : Nat → Bool) (_ : Nat → Value) (wz : World) => LdQ1 w.heap.size w2 D m W0 (⟨(⟨m, ns.take k, b⟩ : Tb NdA), ⟨m, [], 0⟩, ⟨m, [], 0⟩⟩ : Ro) 35 f wz) (Go.Rel.upd f9 i9) e8 w9 := (fun _ _ _ _ _ _ _ hj h _ => h.keep hj)
          refine Go.Rel.wp_tabe (by kernel_rfl) (by kernel_rfl) (fun (f : Nat → Bool) (_ : Nat → Value) (wz : World) => LdQ1 w.heap.size w2 D m W0 (⟨(⟨m, ns.take k, b⟩ : Tb NdA), ⟨m, [], 0⟩, ⟨m, [], 0⟩⟩ : Ro) 35 f wz) ((fun _ _ : World => True)) hre ((fun _ _ _ _ _ => trivial)) (trivial) (fun _ => LdQ1.start HLd0.out.ro) (rdl10E D Y L bk off k n1 c1 a1 x y er) (fun _ _ _ => True) (fun i => ([] : List Nat).contains i) (fun i => ([1, 5, 6, 8, 10, 11, 15, 17, 18, 22, 24, 25, 30, 32, 34, 35, 36] : List Nat).contains i) (by kernel_rfl) (fun _ _ _ _ h _ => h) [35] (by decide) (hrd _) ?_ (Go.Rel.AllOf.get ?_) ?_
          · iterate 1 refine .cons (Go.Rel.pure_yes (by kernel_rfl) (fun _ => by kernel_rfl)) ?_
            iterate 1 refine .cons (Go.Rel.pure_sp rfl) ?_
            iterate 3 refine .cons (Go.Rel.pure_yes (by kernel_rfl) (fun _ => by kernel_rfl)) ?_
            iterate 2 refine .cons (Go.Rel.pure_sp rfl) ?_
            iterate 1 refine .cons (Go.Rel.pure_yes (by kernel_rfl) (fun _ => by kernel_rfl)) ?_
            iterate 1 refine .cons (Go.Rel.pure_sp rfl) ?_
            iterate 1 refine .cons (Go.Rel.pure_yes (by kernel_rfl) (fun _ => by kernel_rfl)) ?_
            iterate 2 refine .cons (Go.Rel.pure_sp rfl) ?_
            iterate 3 refine .cons (Go.Rel.pure_yes (by kernel_rfl) (fun _ => by kernel_rfl)) ?_
            iterate 1 refine .cons (Go.Rel.pure_sp rfl) ?_
            iterate 1 refine .cons (Go.Rel.pure_yes (by kernel_rfl) (fun _ => by kernel_rfl)) ?_
            iterate 2 refine .cons (Go.Rel.pure_sp rfl) ?_
            iterate 3 refine .cons (Go.Rel.pure_yes (by kernel_rfl) (fun _ => by kernel_rfl)) ?_
            iterate 1 refine .cons (Go.Rel.pure_sp rfl) ?_
            iterate 1 refine .cons (Go.Rel.pure_yes (by kernel_rfl) (fun _ => by kernel_rfl)) ?_
            iterate 2 refine .cons (Go.Rel.pure_sp rfl) ?_
            iterate 4 refine .cons (Go.Rel.pure_yes (by kernel_rfl) (fun _ => by kernel_rfl)) ?_
            iterate 1 refine .cons (Go.Rel.pure_sp rfl) ?_
            iterate 1 refine .cons (Go.Rel.pure_yes (by kernel_rfl) (fun _ => by kernel_rfl)) ?_
            iterate 1 refine .cons (Go.Rel.pure_sp rfl) ?_
            iterate 1 refine .cons (Go.Rel.pure_yes (by kernel_rfl) (fun _ => by kernel_rfl)) ?_
            iterate 3 refine .cons (Go.Rel.pure_sp rfl) ?_
            iterate 2 refine .cons (Go.Rel.pure_yes (by kernel_rfl) (fun _ => by kernel_rfl)) ?_
            iterate 9 refine .cons (Go.Rel.pure_no (by kernel_rfl) rfl) ?_
            iterate 1 refine .cons (Go.Rel.pure_yes (by kernel_rfl) (fun _ => by kernel_rfl)) ?_
            exact .nil
          · refine ⟨?_, ?_, ?_, ?_, ?_, ?_, ?_, ?_, ?_, ?_, ?_, ?_, ?_, ?_, ?_, ?_, ?_, trivial⟩
            · refine SpecE.gen (fun e => [(30, .int .i64 (k : Int))]) rfl rfl (fun _ => by kernel_rfl) fun f w' e hI hf hdesc hanc hle hX K hK => ?_
              have u1 := HF1.out.1
              have u1' := HF1.out.2
              go_simp
              exact hK _ _ (hre w') (fun e' hp => hrd _ f e w' 1 _ e' rfl hI hp) rfl
            · refine SpecE.gen (fun e => [(34, .int .i64 (k : Int))]) rfl rfl (fun _ => by kernel_rfl) fun f w' e hI hf hdesc hanc hle hX K hK => ?_
              have u4 := HF4.out
              go_simp
              exact hK _ _ (hre w') (fun e' hp => hrd _ f e w' 5 _ e' rfl hI hp) rfl
            · refine SpecE.gen (fun e => [(33, .slice (some ⟨bk, off, none⟩) n1 c1), (35, .int .i64 ((k : Int) - 1))]) rfl rfl (fun _ => by kernel_rfl) fun f w' e hI hf hdesc hanc hle hX K hK => ?_
              have u5 := HF5.out.1
              have u5a := HF5.out.2.1
              have u5b := HF5.out.2.2
              have u5c := HF8.out
              go_simp
              exact hK _ _ (hre w') (fun e' hp => hrd _ f e w' 6 _ e' rfl hI hp) rfl
            · exact SpecE.ld (hrd _) hre (q := .pointer (some ⟨bk, off + (k - 1) * 4, none⟩)) (h := fun _ w' _ hI _ _ _ _ => by have cp := nd_cells (HPv.out w' hI.but); go_simp; rfl)
            · exact SpecE.ld (hrd _) hre (q := .pointer (some ⟨Y, 0, none⟩)) (h := fun _ w' _ hI _ _ _ _ => by have cy := nd_blk (hI.blk HKy.out HYd.out); go_simp; rfl)
            · refine SpecE.gen (fun e => [(38, .int .i64 y.val.node), (40, .int .i64 x.val.node)]) rfl rfl (fun _ => by kernel_rfl) fun f w' e hI hf hdesc hanc hle hX K hK => ?_
              have u6 := HF6.out
              go_simp
              exact hK _ _ (hre w') (fun e' hp => hrd _ f e w' 11 _ e' rfl hI hp) rfl
            · exact SpecE.ld (hrd _) hre (q := .pointer (some ⟨Y, 2, none⟩)) (h := fun _ w' _ hI _ _ _ _ => by have cy := nd_blk (hI.blk HKy.out HYd.out); go_simp; rfl)
            · exact SpecE.ld (hrd _) hre (q := .pointer (some ⟨Y, 3, none⟩)) (h := fun _ w' _ hI _ _ _ _ => by have cy := nd_blk (hI.blk HKy.out HYd.out); go_simp; rfl)
            · refine SpecE.gen (fun e => [(45, .int .u64 (x.made : Int)), (47, .int .u64 (x.ix : Int))]) rfl rfl (fun _ => by kernel_rfl) fun f w' e hI hf hdesc hanc hle hX K hK => ?_
              have u2 := HF2.out.1
              have u2' := HF2.out.2
              go_simp
              exact hK _ _ (hre w') (fun e' hp => hrd _ f e w' 18 _ e' rfl hI hp) rfl
            · exact SpecE.ld (hrd _) hre (q := .pointer (some ⟨Y, 3, none⟩)) (h := fun _ w' _ hI _ _ _ _ => by have cy := nd_blk (hI.blk HKy.out HYd.out); go_simp; rfl)
            · exact SpecE.ld (hrd _) hre (q := .pointer (some ⟨L, 0, none⟩)) (h := fun _ w' _ hI _ _ _ _ => by have cl := cellsN (hI.blk HLd0.out.bl HLd0.out.ne.1) 0 _ rfl; go_simp; rfl)
            · refine SpecE.gen (fun e => [(52, .int .u64 (x.ix : Int)), (54, .int .u64 (a1 : Int))]) rfl rfl (fun _ => by kernel_rfl) fun f w' e hI hf hdesc hanc hle hX K hK => ?_
              have u3 := HF3.out.1
              have u3' := HF3.out.2
              go_simp
              exact hK _ _ (hre w') (fun e' hp => hrd _ f e w' 25 _ e' rfl hI hp) rfl
            · exact SpecE.ld (hrd _) hre (q := .pointer (some ⟨Y, 0, none⟩)) (h := fun _ w' _ hI _ _ _ _ => by have cy := nd_blk (hI.blk HKy.out HYd.out); go_simp; rfl)
            · exact SpecE.ld (hrd _) hre (q := .pointer (some ⟨Y, 1, none⟩)) (h := fun _ w' _ hI _ _ _ _ => by have cy := nd_blk (hI.blk HKy.out HYd.out); go_simp; rfl)
            · exact SpecE.ld (hrd _) hre (q := .pointer (some ⟨Y, 2, none⟩)) (h := fun _ w' _ hI _ _ _ _ => by have cy := nd_blk (hI.blk HKy.out HYd.out); go_simp; rfl)
            · refine SpecE.gen (fun e => [(58, .pointer (some ⟨D, 0, none⟩)), (60, .int .i64 x.val.node), (62, .string x.val.addr), (64, .int .u64 (x.made : Int))]) rfl rfl (fun _ => by kernel_rfl) fun f w' e hI hf hdesc hanc hle hX K hK => ?_
              go_simp
              refine (HC1.out w' (hI.a hf) hI.but).mono ?_
              rintro e9 w9 ⟨rfl, h9, hb9⟩
              exact hK _ _ trivial (fun e' hp => hI.m1 hb9) rfl
            · refine SpecE.gen (fun e => [(65, .int .i64 (er : Int))]) rfl rfl (fun _ => by kernel_rfl) fun f w' e hI hf hdesc hanc hle hX K hK => ?_
              have u7 := HF7.out
              go_simp
              exact hK _ _ (hre w') (fun e' hp => hrd _ f e w' 36 _ e' rfl hI hp) rfl
          · intro f w3 e hall hJ hle hv
            have HBq := Lib.hid (HBl.out w3 (HLd0.out.but.trans hJ.but))
            have v9 := hv 48 rfl
            simp only [List.append_eq, List.cons_append, List.nil_append, Go.Rel.finL, List.setIfInBounds_toArray, List.set_cons_succ, List.set_cons_zero]
            rw [show e 48 = .bool true from v9]
            clear hv hall hJ hle v9
            go_wp2
            go_ret
            exact RdLoPost.no HBq.out HNo.out
        have hw9 : wrongN x.val = 0 := by
          have h9 := (congrArg Prod.fst hr9).trans h0
          unfold layT at h9
          split at h9
          · exact h9
          · rename_i e; simpa using e
        obtain ⟨g1, g2, g3⟩ := HYes.out (HOr.out hw9) hc2 hc3 ((congrArg Prod.fst hr9).trans h0)
        have hl2 := g3 (max b x.made)
        have HC1 := Lib.hid (fun W (h9 : RdAt w.heap.size (fun q => q = D ∨ w2.heap.size ≤ q) W D m (⟨(⟨m, ns.take k, b⟩ : Tb NdA), ⟨m, [], 0⟩, ⟨m, [], 0⟩⟩ : Ro)) (_ : But (· = D) W0 W) => ((HLay.out W _ x.made h9 HIn.out.made).mono fun e w' h8 => by rw [g2] at h8; exact h8 : Calls Tryz.prog 36 #[.pointer (some ⟨D, 0, none⟩), .int .i64 x.val.node, .string x.val.addr, .int .u64 (x.made : Int)] W fun e w' => e = .returned (.int .i64 0) ∧ RdAt w.heap.size (fun q => (q = D ∨ w2.heap.size ≤ q) ∨ W.heap.size ≤ q) w' D m (⟨(⟨m, ns.take k ++ [({ x with ix := x.made } : Rw NdA)], max b x.made⟩ : Tb NdA), ⟨m, [], 0⟩, ⟨m, [], 0⟩⟩ : Ro) ∧ But (· = D) W w'))
        have HC2 := Lib.hid (fun W (h9 : RdAt w.heap.size (fun q => q = D ∨ w2.heap.size ≤ q) W D m (⟨(⟨m, ns.take k ++ [({ x with ix := x.made } : Rw NdA)], max b x.made⟩ : Tb NdA), ⟨m, [], 0⟩, ⟨m, [], 0⟩⟩ : Ro)) (_ : But (· = D) W0 W) => ((HLay.out W _ x.ix h9 HIn.out.ix).mono fun e w' h8 => by rw [hl2] at h8; exact h8 : Calls Tryz.prog 36 #[.pointer (some ⟨D, 0, none⟩), .int .i64 x.val.node, .string x.val.addr, .int .u64 (x.ix : Int)] W fun e w' => e = .returned (.int .i64 0) ∧ RdAt w.heap.size (fun q => (q = D ∨ w2.heap.size ≤ q) ∨ W.heap.size ≤ q) w' D m (⟨(⟨m, ns.take (k + 1), max (max b x.made) x.ix⟩ : Tb NdA), ⟨m, [], 0⟩, ⟨m, [], 0⟩⟩ : Ro) ∧ But (· = D) W w'))
        have HGd9 := Lib.hid g1
        have hle9 : max (max b x.made) x.ix ≤ a1 := by have := HBle.out; omega
        clear hr9 h0 hw9 g1 g2 g3 hl2 hc2 hc3
        have hre : ∀ w : World, ((fun _ _ : World => True)) w w := (fun _ => trivial)
        have hrd : ∀ (ops9 : Array Oper) (f9 : Nat → Bool) (e9 : Nat → Value) (w9 : World) (i9 : Nat) (v9 : Value) (e8 : Nat → Value), [35, 46].contains i9 = false → (fun (f : Nat → Bool) (_ : Nat → Value) (wz : World) => LdQ2 w.heap.size w2 D m W0 (⟨(⟨m, ns.take k, b⟩ : Tb NdA), ⟨m, [], 0⟩, ⟨m, [], 0⟩⟩ : Ro) (⟨(⟨m, ns.take k ++ [({ x with ix := x.made } : Rw NdA)], max b x.made⟩ : Tb NdA), ⟨m, [], 0⟩, ⟨m, [], 0⟩⟩ : Ro) (⟨(⟨m, ns.take (k + 1), max (max b x.made) x.ix⟩ : Tb NdA), ⟨m, [], 0⟩, ⟨m, [], 0⟩⟩ : Ro) 35 46 f wz) f9 e9 w9 → Go.Rel.Put ops9 i9 e9 v9 e8 → (fun (f : Nat → Bool) (_ : Nat → Value) (wz : World) => LdQ2 w.heap.size w2 D m W0 (⟨(⟨m, ns.take k, b⟩ : Tb NdA), ⟨m, [], 0⟩, ⟨m, [], 0⟩⟩ : Ro) (⟨(⟨m, ns.take k ++ [({ x with ix := x.made } : Rw NdA)], max b x.made⟩ : Tb NdA), ⟨m, [], 0⟩, ⟨m, [], 0⟩⟩ : Ro) (⟨(⟨m, ns.take (k + 1), max (max b x.made) x.ix⟩ : Tb NdA), ⟨m, [], 0⟩, ⟨m, [], 0⟩⟩ : Ro) 35 46 f wz) (Go.Rel.upd f9 i9) e8 w9 := (fun _ _ _ _ _ _ _ hj h _ => h.keep hj)
        refine Go.Rel.wp_tabe (by kernel_rfl) (by kernel_rfl) (fun (f : Nat → Bool) (_ : Nat → Value) (wz : World) => LdQ2 w.heap.size w2 D m W0 (⟨(⟨m, ns.take k, b⟩ : Tb NdA), ⟨m, [], 0⟩, ⟨m, [], 0⟩⟩ : Ro) (⟨(⟨m, ns.take k ++ [({ x with ix := x.made } : Rw NdA)], max b x.made⟩ : Tb NdA), ⟨m, [], 0⟩, ⟨m, [], 0⟩⟩ : Ro) (⟨(⟨m, ns.take (k + 1), max (max b x.made) x.ix⟩ : Tb NdA), ⟨m, [], 0⟩, ⟨m, [], 0⟩⟩ : Ro) 35 46 f wz) ((fun _ _ : World => True)) hre ((fun _ _ _ _ _ => trivial)) (trivial) (fun _ => LdQ2.start HLd0.out.ro) (rdl11E D Y L bk off k n1 c1 a1 x y) (fun _ _ _ => True) (fun i => ([] : List Nat).contains i) (fun i => ([1, 5, 6, 8, 10, 11, 15, 17, 18, 22, 24, 25, 30, 32, 34, 35, 41, 43, 45, 46] : List Nat).contains i) (by kernel_rfl) (fun _ _ _ _ h _ => h) [35, 46] (by decide) (hrd _) ?_ (Go.Rel.AllOf.get ?_) ?_
        · repeat (refine .cons (by first | exact Go.Rel.pure_sp rfl | exact Go.Rel.pure_yes (by kernel_rfl) (fun _ => by kernel_rfl) | exact Go.Rel.pure_no (by kernel_rfl) rfl) ?_)
          exact .nil
        · refine ⟨?_, ?_, ?_, ?_, ?_, ?_, ?_, ?_, ?_, ?_, ?_, ?_, ?_, ?_, ?_, ?_, ?_, ?_, ?_, ?_, trivial⟩
          · refine SpecE.gen (fun e => [(30, .int .i64 (k : Int))]) rfl rfl (fun _ => by kernel_rfl) fun f w' e hI hf hdesc hanc hle hX K hK => ?_
            have u1 := HF1.out.1
            have u1' := HF1.out.2
            go_simp
            exact hK _ _ (hre w') (fun e' hp => hrd _ f e w' 1 _ e' rfl hI hp) rfl
          · refine SpecE.gen (fun e => [(34, .int .i64 (k : Int))]) rfl rfl (fun _ => by kernel_rfl) fun f w' e hI hf hdesc hanc hle hX K hK => ?_
            have u4 := HF4.out
            go_simp
            exact hK _ _ (hre w') (fun e' hp => hrd _ f e w' 5 _ e' rfl hI hp) rfl
          · refine SpecE.gen (fun e => [(33, .slice (some ⟨bk, off, none⟩) n1 c1), (35, .int .i64 ((k : Int) - 1))]) rfl rfl (fun _ => by kernel_rfl) fun f w' e hI hf hdesc hanc hle hX K hK => ?_
            have u5 := HF5.out.1
            have u5a := HF5.out.2.1
            have u5b := HF5.out.2.2
            have u5c := HF8.out
            go_simp
            exact hK _ _ (hre w') (fun e' hp => hrd _ f e w' 6 _ e' rfl hI hp) rfl
          · exact SpecE.ld (hrd _) hre (q := .pointer (some ⟨bk, off + (k - 1) * 4, none⟩)) (h := fun _ w' _ hI _ _ _ _ => by have cp := nd_cells (HPv.out w' hI.but); go_simp; rfl)
          · exact SpecE.ld (hrd _) hre (q := .pointer (some ⟨Y, 0, none⟩)) (h := fun _ w' _ hI _ _ _ _ => by have cy := nd_blk (hI.blk HKy.out HYd.out); go_simp; rfl)
          · refine SpecE.gen (fun e => [(38, .int .i64 y.val.node), (40, .int .i64 x.val.node)]) rfl rfl (fun _ => by kernel_rfl) fun f w' e hI hf hdesc hanc hle hX K hK => ?_
            have u6 := HF6.out
            go_simp
            exact hK _ _ (hre w') (fun e' hp => hrd _ f e w' 11 _ e' rfl hI hp) rfl
          · exact SpecE.ld (hrd _) hre (q := .pointer (some ⟨Y, 2, none⟩)) (h := fun _ w' _ hI _ _ _ _ => by have cy := nd_blk (hI.blk HKy.out HYd.out); go_simp; rfl)
          · exact SpecE.ld (hrd _) hre (q := .pointer (some ⟨Y, 3, none⟩)) (h := fun _ w' _ hI _ _ _ _ => by have cy := nd_blk (hI.blk HKy.out HYd.out); go_simp; rfl)
          · refine SpecE.gen (fun e => [(45, .int .u64 (x.made : Int)), (47, .int .u64 (x.ix : Int))]) rfl rfl (fun _ => by kernel_rfl) fun f w' e hI hf hdesc hanc hle hX K hK => ?_
            have u2 := HF2.out.1
            have u2' := HF2.out.2
            go_simp
            exact hK _ _ (hre w') (fun e' hp => hrd _ f e w' 18 _ e' rfl hI hp) rfl
          · exact SpecE.ld (hrd _) hre (q := .pointer (some ⟨Y, 3, none⟩)) (h := fun _ w' _ hI _ _ _ _ => by have cy := nd_blk (hI.blk HKy.out HYd.out); go_simp; rfl)
          · exact SpecE.ld (hrd _) hre (q := .pointer (some ⟨L, 0, none⟩)) (h := fun _ w' _ hI _ _ _ _ => by have cl := cellsN (hI.blk HLd0.out.bl HLd0.out.ne.1) 0 _ rfl; go_simp; rfl)
          · refine SpecE.gen (fun e => [(52, .int .u64 (x.ix : Int)), (54, .int .u64 (a1 : Int))]) rfl rfl (fun _ => by kernel_rfl) fun f w' e hI hf hdesc hanc hle hX K hK => ?_
            have u3 := HF3.out.1
            have u3' := HF3.out.2
            go_simp
            exact hK _ _ (hre w') (fun e' hp => hrd _ f e w' 25 _ e' rfl hI hp) rfl
          · exact SpecE.ld (hrd _) hre (q := .pointer (some ⟨Y, 0, none⟩)) (h := fun _ w' _ hI _ _ _ _ => by have cy := nd_blk (hI.blk HKy.out HYd.out); go_simp; rfl)
          · exact SpecE.ld (hrd _) hre (q := .pointer (some ⟨Y, 1, none⟩)) (h := fun _ w' _ hI _ _ _ _ => by have cy := nd_blk (hI.blk HKy.out HYd.out); go_simp; rfl)
          · exact SpecE.ld (hrd _) hre (q := .pointer (some ⟨Y, 2, none⟩)) (h := fun _ w' _ hI _ _ _ _ => by have cy := nd_blk (hI.blk HKy.out HYd.out); go_simp; rfl)
          · refine SpecE.gen (fun e => [(58, .pointer (some ⟨D, 0, none⟩)), (60, .int .i64 x.val.node), (62, .string x.val.addr), (64, .int .u64 (x.made : Int))]) rfl rfl (fun _ => by kernel_rfl) fun f w' e hI hf hdesc hanc hle hX K hK => ?_
            go_simp
            have z2 : f 46 = false := hdesc 60 46 (by kernel_rfl)
            refine (HC1.out w' (hI.a hf) hI.but).mono ?_
            rintro e9 w9 ⟨rfl, h9, hb9⟩
            exact hK _ _ trivial (fun e' hp => hI.m1 (by decide) z2 (HSz.out w' hI.but) hb9 h9) rfl
          · exact SpecE.ld (hrd _) hre (q := .pointer (some ⟨Y, 0, none⟩)) (h := fun _ w' _ hI _ _ _ _ => by have cy := nd_blk (hI.blk HKy.out HYd.out); go_simp; rfl)
          · exact SpecE.ld (hrd _) hre (q := .pointer (some ⟨Y, 1, none⟩)) (h := fun _ w' _ hI _ _ _ _ => by have cy := nd_blk (hI.blk HKy.out HYd.out); go_simp; rfl)
          · exact SpecE.ld (hrd _) hre (q := .pointer (some ⟨Y, 3, none⟩)) (h := fun _ w' _ hI _ _ _ _ => by have cy := nd_blk (hI.blk HKy.out HYd.out); go_simp; rfl)
          · refine SpecE.gen (fun e => [(69, .pointer (some ⟨D, 0, none⟩)), (71, .int .i64 x.val.node), (73, .string x.val.addr), (75, .int .u64 (x.ix : Int))]) rfl rfl (fun _ => by kernel_rfl) fun f w' e hI hf hdesc hanc hle hX K hK => ?_
            go_simp
            have y1 : f 35 = true := hanc 60 35 (by kernel_rfl)
            refine (HC2.out w' (hI.b y1 hf) hI.but).mono ?_
            rintro e9 w9 ⟨rfl, h9, hb9⟩
            exact hK _ _ trivial (fun e' hp => hI.m2 (by decide) y1 (HSz.out w' hI.but) hb9 h9) rfl
        · intro f w3 e hall hJ hle hv
          have HL9 := Lib.hid (HLd0.out.of hJ.but (hJ.c (hall 46 (by decide))))
          have v9 := hv 48 rfl
          simp only [List.append_eq, List.cons_append, List.nil_append, Go.Rel.finL, List.setIfInBounds_toArray, List.set_cons_succ, List.set_cons_zero]
          rw [show e 48 = .bool false from v9]
          clear hv hall hJ hle v9
          go_wp2
          go_roundw
          case rel => exact ⟨k + 1, max (max b x.made) x.ix, by omega, by go_num, Lib.hid hle9, HGd9, HL9⟩
          case measure => simp [intOf]; omega
      · have HF1 : Hid (decide (0 < k) = false ∧ decide ((0 : Int) < (k : Int)) = false) := Lib.hid ⟨decide_eq_false (by omega), decide_eq_false (by omega)⟩
        have HOr : Hid (wrongN x.val = 0 → ltT (befK ns k) x.key = true) := Lib.hid (fun hz => HOk.out hz (.inl (by omega)))
        by_cases hc2 : x.made ≤ x.ix
        case neg =>
          have HNo : Hid (¬ LoadOk m ns ss cs a1 a2 a3) := Lib.hid (fun z => (HNo.out (fun z => hc2 z.2.1)) z.1)
          have u2 : decide (x.ix < x.made) = true := decide_eq_true (by omega)
          clear hc2
          have u1 := HF1.out.1
          have u1' := HF1.out.2
          have cy := nd_blk HKy.out
          have cl := cellsN HLd0.out.bl 0 _ rfl
          go_quiet (fail)
          generalize hWq : W0.drewN _ = wq
          have HBq : Hid (Below w.heap.size w wq) := Lib.hid (by rw [← hWq]; exact below_drewN HB0w.out _)
          clear hWq
          go_wp2
          go_ret
          exact RdLoPost.no HBq.out HNo.out
        have HF2 : Hid (decide (x.ix < x.made) = false ∧ decide ((x.ix : Int) < (x.made : Int)) = false) := Lib.hid ⟨decide_eq_false (by omega), decide_eq_false (by omega)⟩
        by_cases hc3 : x.ix ≤ a1
        case neg =>
          have HNo : Hid (¬ LoadOk m ns ss cs a1 a2 a3) := Lib.hid (fun z => (HNo.out (fun z => hc3 z.2.2.1)) z.1)
          have u2 := HF2.out.1
          have u3 : decide (a1 < x.ix) = true := decide_eq_true (by omega)
          clear hc2 hc3
          have u1 := HF1.out.1
          have u1' := HF1.out.2
          have cy := nd_blk HKy.out
          have cl := cellsN HLd0.out.bl 0 _ rfl
          go_quiet (fail)
          generalize hWq : W0.drewN _ = wq
          have HBq : Hid (Below w.heap.size w wq) := Lib.hid (by rw [← hWq]; exact below_drewN HB0w.out _)
          clear hWq
          go_wp2
          go_ret
          exact RdLoPost.no HBq.out HNo.out
        have HF3 : Hid (decide (a1 < x.ix) = false ∧ decide ((a1 : Int) < (x.ix : Int)) = false) := Lib.hid ⟨decide_eq_false (by omega), decide_eq_false (by omega)⟩
        obtain ⟨r9, hr9⟩ : ∃ r, layT wrongN NdA.key (⟨m, ns.take k, b⟩ : Tb NdA) x.val x.made = r := ⟨_, rfl⟩
        by_cases h0 : r9.1 = 0
        case neg =>
          have HNo : Hid (¬ LoadOk m ns ss cs a1 a2 a3) := Lib.hid (fun z => (HNo.out (fun z => h0 ((congrArg Prod.fst hr9).symm.trans z.2.2.2))) z.1)
          obtain ⟨er, her⟩ : ∃ er, r9.1 = er := ⟨_, rfl⟩
          have HF7 : Hid (((er : Int) != 0) = true) := Lib.hid (by rw [her] at h0; simp; omega)
          have HC1 := Lib.hid (fun W (h9 : RdAt w.heap.size (fun q => q = D ∨ w2.heap.size ≤ q) W D m (⟨(⟨m, ns.take k, b⟩ : Tb NdA), ⟨m, [], 0⟩, ⟨m, [], 0⟩⟩ : Ro)) (_ : But (· = D) W0 W) => ((HLay.out W _ x.made h9 HIn.out.made).mono fun e w' h8 => by rw [hr9, her] at h8; exact h8 : Calls Tryz.prog 36 #[.pointer (some ⟨D, 0, none⟩), .int .i64 x.val.node, .string x.val.addr, .int .u64 (x.made : Int)] W fun e w' => e = .returned (.int .i64 (er : Int)) ∧ RdAt w.heap.size (fun q => (q = D ∨ w2.heap.size ≤ q) ∨ W.heap.size ≤ q) w' D m (⟨r9.2, ⟨m, [], 0⟩, ⟨m, [], 0⟩⟩ : Ro) ∧ But (· = D) W w'))
          clear hr9 h0 her hc2 hc3
          have hre : ∀ w : World, ((fun _ _ : World => True)) w w := (fun _ => trivial)
          have hrd : ∀ (ops9 : Array Oper) (f9 : Nat → Bool) (e9 : Nat → Value) (w9 : World) (i9 : Nat) (v9 : Value) (e8 : Nat → Value), [35].contains i9 = false → (fun (f : Nat → Bool) (_ : Nat → Value) (wz : World) => LdQ1 w.heap.size w2 D m W0 (⟨(⟨m, ns.take k, b⟩ : Tb NdA), ⟨m, [], 0⟩, ⟨m, [], 0⟩⟩ : Ro) 35 f wz) f9 e9 w9 → Go.Rel.Put ops9 i9 e9 v9 e8 → (fun (f : Nat → Bool) (_ : Nat → Value) (wz : World) => LdQ1 w.heap.size w2 D m W0 (⟨(⟨m, ns.take k, b⟩ : Tb NdA), ⟨m, [], 0⟩, ⟨m, [], 0⟩⟩ : Ro) 35 f wz) (Go.Rel.upd f9 i9) e8 w9 := (fun _ _ _ _ _ _ _ hj h _ => h.keep hj)
          refine Go.Rel.wp_tabe (by kernel_rfl) (by kernel_rfl) (fun (f : Nat → Bool) (_ : Nat → Value) (wz : World) => LdQ1 w.heap.size w2 D m W0 (⟨(⟨m, ns.take k, b⟩ : Tb NdA), ⟨m, [], 0⟩, ⟨m, [], 0⟩⟩ : Ro) 35 f wz) ((fun _ _ : World => True)) hre ((fun _ _ _ _ _ => trivial)) (trivial) (fun _ => LdQ1.start HLd0.out.ro) (rdl00E D Y L bk off k n1 c1 a1 x er) (fun _ _ _ => True) (fun i => ([] : List Nat).contains i) (fun i => ([1, 15, 17, 18, 22, 24, 25, 30, 32, 34, 35, 36] : List Nat).contains i) (by kernel_rfl) (fun _ _ _ _ h _ => h) [35] (by decide) (hrd _) ?_ (Go.Rel.AllOf.get ?_) ?_
          · iterate 1 refine .cons (Go.Rel.pure_yes (by kernel_rfl) (fun _ => by kernel_rfl)) ?_
            iterate 1 refine .cons (Go.Rel.pure_sp rfl) ?_
            iterate 1 refine .cons (Go.Rel.pure_yes (by kernel_rfl) (fun _ => by kernel_rfl)) ?_
            iterate 9 refine .cons (Go.Rel.pure_no (by kernel_rfl) rfl) ?_
            iterate 3 refine .cons (Go.Rel.pure_yes (by kernel_rfl) (fun _ => by kernel_rfl)) ?_
            iterate 1 refine .cons (Go.Rel.pure_sp rfl) ?_
            iterate 1 refine .cons (Go.Rel.pure_yes (by kernel_rfl) (fun _ => by kernel_rfl)) ?_
            iterate 2 refine .cons (Go.Rel.pure_sp rfl) ?_
            iterate 3 refine .cons (Go.Rel.pure_yes (by kernel_rfl) (fun _ => by kernel_rfl)) ?_
            iterate 1 refine .cons (Go.Rel.pure_sp rfl) ?_
            iterate 1 refine .cons (Go.Rel.pure_yes (by kernel_rfl) (fun _ => by kernel_rfl)) ?_
            iterate 2 refine .cons (Go.Rel.pure_sp rfl) ?_
            iterate 4 refine .cons (Go.Rel.pure_yes (by kernel_rfl) (fun _ => by kernel_rfl)) ?_
            iterate 1 refine .cons (Go.Rel.pure_sp rfl) ?_
            iterate 1 refine .cons (Go.Rel.pure_yes (by kernel_rfl) (fun _ => by kernel_rfl)) ?_
            iterate 1 refine .cons (Go.Rel.pure_sp rfl) ?_
            iterate 1 refine .cons (Go.Rel.pure_yes (by kernel_rfl) (fun _ => by kernel_rfl)) ?_
            iterate 3 refine .cons (Go.Rel.pure_sp rfl) ?_
            iterate 2 refine .cons (Go.Rel.pure_yes (by kernel_rfl) (fun _ => by kernel_rfl)) ?_
            iterate 9 refine .cons (Go.Rel.pure_no (by kernel_rfl) rfl) ?_
            iterate 1 refine .cons (Go.Rel.pure_yes (by kernel_rfl) (fun _ => by kernel_rfl)) ?_
            exact .nil
          · refine ⟨?_, ?_, ?_, ?_, ?_, ?_, ?_, ?_, ?_, ?_, ?_, ?_, trivial⟩
            · refine SpecE.gen (fun e => [(30, .int .i64 (k : Int))]) rfl rfl (fun _ => by kernel_rfl) fun f w' e hI hf hdesc hanc hle hX K hK => ?_
              have u1 := HF1.out.1
              have u1' := HF1.out.2
              go_simp
              exact hK _ _ (hre w') (fun e' hp => hrd _ f e w' 1 _ e' rfl hI hp) rfl
            · exact SpecE.ld (hrd _) hre (q := .pointer (some ⟨Y, 2, none⟩)) (h := fun _ w' _ hI _ _ _ _ => by have cy := nd_blk (hI.blk HKy.out HYd.out); go_simp; rfl)
            · exact SpecE.ld (hrd _) hre (q := .pointer (some ⟨Y, 3, none⟩)) (h := fun _ w' _ hI _ _ _ _ => by have cy := nd_blk (hI.blk HKy.out HYd.out); go_simp; rfl)
            · refine SpecE.gen (fun e => [(45, .int .u64 (x.made : Int)), (47, .int .u64 (x.ix : Int))]) rfl rfl (fun _ => by kernel_rfl) fun f w' e hI hf hdesc hanc hle hX K hK => ?_
              have u2 := HF2.out.1
              have u2' := HF2.out.2
              go_simp
              exact hK _ _ (hre w') (fun e' hp => hrd _ f e w' 18 _ e' rfl hI hp) rfl
            · exact SpecE.ld (hrd _) hre (q := .pointer (some ⟨Y, 3, none⟩)) (h := fun _ w' _ hI _ _ _ _ => by have cy := nd_blk (hI.blk HKy.out HYd.out); go_simp; rfl)
            · exact SpecE.ld (hrd _) hre (q := .pointer (some ⟨L, 0, none⟩)) (h := fun _ w' _ hI _ _ _ _ => by have cl := cellsN (hI.blk HLd0.out.bl HLd0.out.ne.1) 0 _ rfl; go_simp; rfl)
            · refine SpecE.gen (fun e => [(52, .int .u64 (x.ix : Int)), (54, .int .u64 (a1 : Int))]) rfl rfl (fun _ => by kernel_rfl) fun f w' e hI hf hdesc hanc hle hX K hK => ?_
              have u3 := HF3.out.1
              have u3' := HF3.out.2
              go_simp
              exact hK _ _ (hre w') (fun e' hp => hrd _ f e w' 25 _ e' rfl hI hp) rfl
            · exact SpecE.ld (hrd _) hre (q := .pointer (some ⟨Y, 0, none⟩)) (h := fun _ w' _ hI _ _ _ _ => by have cy := nd_blk (hI.blk HKy.out HYd.out); go_simp; rfl)
            · exact SpecE.ld (hrd _) hre (q := .pointer (some ⟨Y, 1, none⟩)) (h := fun _ w' _ hI _ _ _ _ => by have cy := nd_blk (hI.blk HKy.out HYd.out); go_simp; rfl)
            · exact SpecE.ld (hrd _) hre (q := .pointer (some ⟨Y, 2, none⟩)) (h := fun _ w' _ hI _ _ _ _ => by have cy := nd_blk (hI.blk HKy.out HYd.out); go_simp; rfl)
            · refine SpecE.gen (fun e => [(58, .pointer (some ⟨D, 0, none⟩)), (60, .int .i64 x.val.node), (62, .string x.val.addr), (64, .int .u64 (x.made : Int))]) rfl rfl (fun _ => by kernel_rfl) fun f w' e hI hf hdesc hanc hle hX K hK => ?_
              go_simp
              refine (HC1.out w' (hI.a hf) hI.but).mono ?_
              rintro e9 w9 ⟨rfl, h9, hb9⟩
              exact hK _ _ trivial (fun e' hp => hI.m1 hb9) rfl
            · refine SpecE.gen (fun e => [(65, .int .i64 (er : Int))]) rfl rfl (fun _ => by kernel_rfl) fun f w' e hI hf hdesc hanc hle hX K hK => ?_
              have u7 := HF7.out
              go_simp
              exact hK _ _ (hre w') (fun e' hp => hrd _ f e w' 36 _ e' rfl hI hp) rfl
          · intro f w3 e hall hJ hle hv
            have HBq := Lib.hid (HBl.out w3 (HLd0.out.but.trans hJ.but))
            have v9 := hv 48 rfl
            simp only [List.append_eq, List.cons_append, List.nil_append, Go.Rel.finL, List.setIfInBounds_toArray, List.set_cons_succ, List.set_cons_zero]
            rw [show e 48 = .bool true from v9]
            clear hv hall hJ hle v9
            go_wp2
            go_ret
            exact RdLoPost.no HBq.out HNo.out
        have hw9 : wrongN x.val = 0 := by
          have h9 := (congrArg Prod.fst hr9).trans h0
          unfold layT at h9
          split at h9
          · exact h9
          · rename_i e; simpa using e
        obtain ⟨g1, g2, g3⟩ := HYes.out (HOr.out hw9) hc2 hc3 ((congrArg Prod.fst hr9).trans h0)
        have hl2 := g3 (max b x.made)
        have HC1 := Lib.hid (fun W (h9 : RdAt w.heap.size (fun q => q = D ∨ w2.heap.size ≤ q) W D m (⟨(⟨m, ns.take k, b⟩ : Tb NdA), ⟨m, [], 0⟩, ⟨m, [], 0⟩⟩ : Ro)) (_ : But (· = D) W0 W) => ((HLay.out W _ x.made h9 HIn.out.made).mono fun e w' h8 => by rw [g2] at h8; exact h8 : Calls Tryz.prog 36 #[.pointer (some ⟨D, 0, none⟩), .int .i64 x.val.node, .string x.val.addr, .int .u64 (x.made : Int)] W fun e w' => e = .returned (.int .i64 0) ∧ RdAt w.heap.size (fun q => (q = D ∨ w2.heap.size ≤ q) ∨ W.heap.size ≤ q) w' D m (⟨(⟨m, ns.take k ++ [({ x with ix := x.made } : Rw NdA)], max b x.made⟩ : Tb NdA), ⟨m, [], 0⟩, ⟨m, [], 0⟩⟩ : Ro) ∧ But (· = D) W w'))
        have HC2 := Lib.hid (fun W (h9 : RdAt w.heap.size (fun q => q = D ∨ w2.heap.size ≤ q) W D m (⟨(⟨m, ns.take k ++ [({ x with ix := x.made } : Rw NdA)], max b x.made⟩ : Tb NdA), ⟨m, [], 0⟩, ⟨m, [], 0⟩⟩ : Ro)) (_ : But (· = D) W0 W) => ((HLay.out W _ x.ix h9 HIn.out.ix).mono fun e w' h8 => by rw [hl2] at h8; exact h8 : Calls Tryz.prog 36 #[.pointer (some ⟨D, 0, none⟩), .int .i64 x.val.node, .string x.val.addr, .int .u64 (x.ix : Int)] W fun e w' => e = .returned (.int .i64 0) ∧ RdAt w.heap.size (fun q => (q = D ∨ w2.heap.size ≤ q) ∨ W.heap.size ≤ q) w' D m (⟨(⟨m, ns.take (k + 1), max (max b x.made) x.ix⟩ : Tb NdA), ⟨m, [], 0⟩, ⟨m, [], 0⟩⟩ : Ro) ∧ But (· = D) W w'))
        have HGd9 := Lib.hid g1
        have hle9 : max (max b x.made) x.ix ≤ a1 := by have := HBle.out; omega
        clear hr9 h0 hw9 g1 g2 g3 hl2 hc2 hc3
        have hre : ∀ w : World, ((fun _ _ : World => True)) w w := (fun _ => trivial)
        have hrd : ∀ (ops9 : Array Oper) (f9 : Nat → Bool) (e9 : Nat → Value) (w9 : World) (i9 : Nat) (v9 : Value) (e8 : Nat → Value), [35, 46].contains i9 = false → (fun (f : Nat → Bool) (_ : Nat → Value) (wz : World) => LdQ2 w.heap.size w2 D m W0 (⟨(⟨m, ns.take k, b⟩ : Tb NdA), ⟨m, [], 0⟩, ⟨m, [], 0⟩⟩ : Ro) (⟨(⟨m, ns.take k ++ [({ x with ix := x.made } : Rw NdA)], max b x.made⟩ : Tb NdA), ⟨m, [], 0⟩, ⟨m, [], 0⟩⟩ : Ro) (⟨(⟨m, ns.take (k + 1), max (max b x.made) x.ix⟩ : Tb NdA), ⟨m, [], 0⟩, ⟨m, [], 0⟩⟩ : Ro) 35 46 f wz) f9 e9 w9 → Go.Rel.Put ops9 i9 e9 v9 e8 → (fun (f : Nat → Bool) (_ : Nat → Value) (wz : World) => LdQ2 w.heap.size w2 D m W0 (⟨(⟨m, ns.take k, b⟩ : Tb NdA), ⟨m, [], 0⟩, ⟨m, [], 0⟩⟩ : Ro) (⟨(⟨m, ns.take k ++ [({ x with ix := x.made } : Rw NdA)], max b x.made⟩ : Tb NdA), ⟨m, [], 0⟩, ⟨m, [], 0⟩⟩ : Ro) (⟨(⟨m, ns.take (k + 1), max (max b x.made) x.ix⟩ : Tb NdA), ⟨m, [], 0⟩, ⟨m, [], 0⟩⟩ : Ro) 35 46 f wz) (Go.Rel.upd f9 i9) e8 w9 := (fun _ _ _ _ _ _ _ hj h _ => h.keep hj)
        refine Go.Rel.wp_tabe (by kernel_rfl) (by kernel_rfl) (fun (f : Nat → Bool) (_ : Nat → Value) (wz : World) => LdQ2 w.heap.size w2 D m W0 (⟨(⟨m, ns.take k, b⟩ : Tb NdA), ⟨m, [], 0⟩, ⟨m, [], 0⟩⟩ : Ro) (⟨(⟨m, ns.take k ++ [({ x with ix := x.made } : Rw NdA)], max b x.made⟩ : Tb NdA), ⟨m, [], 0⟩, ⟨m, [], 0⟩⟩ : Ro) (⟨(⟨m, ns.take (k + 1), max (max b x.made) x.ix⟩ : Tb NdA), ⟨m, [], 0⟩, ⟨m, [], 0⟩⟩ : Ro) 35 46 f wz) ((fun _ _ : World => True)) hre ((fun _ _ _ _ _ => trivial)) (trivial) (fun _ => LdQ2.start HLd0.out.ro) (rdl01E D Y L bk off k n1 c1 a1 x) (fun _ _ _ => True) (fun i => ([] : List Nat).contains i) (fun i => ([1, 15, 17, 18, 22, 24, 25, 30, 32, 34, 35, 41, 43, 45, 46] : List Nat).contains i) (by kernel_rfl) (fun _ _ _ _ h _ => h) [35, 46] (by decide) (hrd _) ?_ (Go.Rel.AllOf.get ?_) ?_
        · iterate 1 refine .cons (Go.Rel.pure_yes (by kernel_rfl) (fun _ => by kernel_rfl)) ?_
          iterate 1 refine .cons (Go.Rel.pure_sp rfl) ?_
          iterate 1 refine .cons (Go.Rel.pure_yes (by kernel_rfl) (fun _ => by kernel_rfl)) ?_
          iterate 9 refine .cons (Go.Rel.pure_no (by kernel_rfl) rfl) ?_
          iterate 3 refine .cons (Go.Rel.pure_yes (by kernel_rfl) (fun _ => by kernel_rfl)) ?_
          iterate 1 refine .cons (Go.Rel.pure_sp rfl) ?_
          iterate 1 refine .cons (Go.Rel.pure_yes (by kernel_rfl) (fun _ => by kernel_rfl)) ?_
          iterate 2 refine .cons (Go.Rel.pure_sp rfl) ?_
          iterate 3 refine .cons (Go.Rel.pure_yes (by kernel_rfl) (fun _ => by kernel_rfl)) ?_
          iterate 1 refine .cons (Go.Rel.pure_sp rfl) ?_
          iterate 1 refine .cons (Go.Rel.pure_yes (by kernel_rfl) (fun _ => by kernel_rfl)) ?_
          iterate 2 refine .cons (Go.Rel.pure_sp rfl) ?_
          iterate 4 refine .cons (Go.Rel.pure_yes (by kernel_rfl) (fun _ => by kernel_rfl)) ?_
          iterate 1 refine .cons (Go.Rel.pure_sp rfl) ?_
          iterate 1 refine .cons (Go.Rel.pure_yes (by kernel_rfl) (fun _ => by kernel_rfl)) ?_
          iterate 1 refine .cons (Go.Rel.pure_sp rfl) ?_
          iterate 1 refine .cons (Go.Rel.pure_yes (by kernel_rfl) (fun _ => by kernel_rfl)) ?_
          iterate 2 refine .cons (Go.Rel.pure_sp rfl) ?_
          iterate 5 refine .cons (Go.Rel.pure_yes (by kernel_rfl) (fun _ => by kernel_rfl)) ?_
          iterate 1 refine .cons (Go.Rel.pure_sp rfl) ?_
          iterate 1 refine .cons (Go.Rel.pure_yes (by kernel_rfl) (fun _ => by kernel_rfl)) ?_
          iterate 1 refine .cons (Go.Rel.pure_sp rfl) ?_
          iterate 1 refine .cons (Go.Rel.pure_yes (by kernel_rfl) (fun _ => by kernel_rfl)) ?_
          iterate 2 refine .cons (Go.Rel.pure_sp rfl) ?_
          iterate 2 refine .cons (Go.Rel.pure_yes (by kernel_rfl) (fun _ => by kernel_rfl)) ?_
          exact .nil
        · refine ⟨?_, ?_, ?_, ?_, ?_, ?_, ?_, ?_, ?_, ?_, ?_, ?_, ?_, ?_, ?_, trivial⟩
          · refine SpecE.gen (fun e => [(30, .int .i64 (k : Int))]) rfl rfl (fun _ => by kernel_rfl) fun f w' e hI hf hdesc hanc hle hX K hK => ?_
            have u1 := HF1.out.1
            have u1' := HF1.out.2
            go_simp
            exact hK _ _ (hre w') (fun e' hp => hrd _ f e w' 1 _ e' rfl hI hp) rfl
          · exact SpecE.ld (hrd _) hre (q := .pointer (some ⟨Y, 2, none⟩)) (h := fun _ w' _ hI _ _ _ _ => by have cy := nd_blk (hI.blk HKy.out HYd.out); go_simp; rfl)
          · exact SpecE.ld (hrd _) hre (q := .pointer (some ⟨Y, 3, none⟩)) (h := fun _ w' _ hI _ _ _ _ => by have cy := nd_blk (hI.blk HKy.out HYd.out); go_simp; rfl)
          · refine SpecE.gen (fun e => [(45, .int .u64 (x.made : Int)), (47, .int .u64 (x.ix : Int))]) rfl rfl (fun _ => by kernel_rfl) fun f w' e hI hf hdesc hanc hle hX K hK => ?_
            have u2 := HF2.out.1
            have u2' := HF2.out.2
            go_simp
            exact hK _ _ (hre w') (fun e' hp => hrd _ f e w' 18 _ e' rfl hI hp) rfl
          · exact SpecE.ld (hrd _) hre (q := .pointer (some ⟨Y, 3, none⟩)) (h := fun _ w' _ hI _ _ _ _ => by have cy := nd_blk (hI.blk HKy.out HYd.out); go_simp; rfl)
          · exact SpecE.ld (hrd _) hre (q := .pointer (some ⟨L, 0, none⟩)) (h := fun _ w' _ hI _ _ _ _ => by have cl := cellsN (hI.blk HLd0.out.bl HLd0.out.ne.1) 0 _ rfl; go_simp; rfl)
          · refine SpecE.gen (fun e => [(52, .int .u64 (x.ix : Int)), (54, .int .u64 (a1 : Int))]) rfl rfl (fun _ => by kernel_rfl) fun f w' e hI hf hdesc hanc hle hX K hK => ?_
            have u3 := HF3.out.1
            have u3' := HF3.out.2
            go_simp
            exact hK _ _ (hre w') (fun e' hp => hrd _ f e w' 25 _ e' rfl hI hp) rfl
          · exact SpecE.ld (hrd _) hre (q := .pointer (some ⟨Y, 0, none⟩)) (h := fun _ w' _ hI _ _ _ _ => by have cy := nd_blk (hI.blk HKy.out HYd.out); go_simp; rfl)
          · exact SpecE.ld (hrd _) hre (q := .pointer (some ⟨Y, 1, none⟩)) (h := fun _ w' _ hI _ _ _ _ => by have cy := nd_blk (hI.blk HKy.out HYd.out); go_simp; rfl)
          · exact SpecE.ld (hrd _) hre (q := .pointer (some ⟨Y, 2, none⟩)) (h := fun _ w' _ hI _ _ _ _ => by have cy := nd_blk (hI.blk HKy.out HYd.out); go_simp; rfl)
          · refine SpecE.gen (fun e => [(58, .pointer (some ⟨D, 0, none⟩)), (60, .int .i64 x.val.node), (62, .string x.val.addr), (64, .int .u64 (x.made : Int))]) rfl rfl (fun _ => by kernel_rfl) fun f w' e hI hf hdesc hanc hle hX K hK => ?_
            go_simp
            have z2 : f 46 = false := hdesc 60 46 (by kernel_rfl)
            refine (HC1.out w' (hI.a hf) hI.but).mono ?_
            rintro e9 w9 ⟨rfl, h9, hb9⟩
            exact hK _ _ trivial (fun e' hp => hI.m1 (by decide) z2 (HSz.out w' hI.but) hb9 h9) rfl
          · exact SpecE.ld (hrd _) hre (q := .pointer (some ⟨Y, 0, none⟩)) (h := fun _ w' _ hI _ _ _ _ => by have cy := nd_blk (hI.blk HKy.out HYd.out); go_simp; rfl)
          · exact SpecE.ld (hrd _) hre (q := .pointer (some ⟨Y, 1, none⟩)) (h := fun _ w' _ hI _ _ _ _ => by have cy := nd_blk (hI.blk HKy.out HYd.out); go_simp; rfl)
          · exact SpecE.ld (hrd _) hre (q := .pointer (some ⟨Y, 3, none⟩)) (h := fun _ w' _ hI _ _ _ _ => by have cy := nd_blk (hI.blk HKy.out HYd.out); go_simp; rfl)
          · refine SpecE.gen (fun e => [(69, .pointer (some ⟨D, 0, none⟩)), (71, .int .i64 x.val.node), (73, .string x.val.addr), (75, .int .u64 (x.ix : Int))]) rfl rfl (fun _ => by kernel_rfl) fun f w' e hI hf hdesc hanc hle hX K hK => ?_
            go_simp
            have y1 : f 35 = true := hanc 60 35 (by kernel_rfl)
            refine (HC2.out w' (hI.b y1 hf) hI.but).mono ?_
            rintro e9 w9 ⟨rfl, h9, hb9⟩
            exact hK _ _ trivial (fun e' hp => hI.m2 (by decide) y1 (HSz.out w' hI.but) hb9 h9) rfl
        · intro f w3 e hall hJ hle hv
          have HL9 := Lib.hid (HLd0.out.of hJ.but (hJ.c (hall 46 (by decide))))
          have v9 := hv 48 rfl
          simp only [List.append_eq, List.cons_append, List.nil_append, Go.Rel.finL, List.setIfInBounds_toArray, List.set_cons_succ, List.set_cons_zero]
          rw [show e 48 = .bool false from v9]
          clear hv hall hJ hle v9
          go_wp2
          go_roundw
          case rel => exact ⟨k + 1, max (max b x.made) x.ix, by omega, by go_num, Lib.hid hle9, HGd9, HL9⟩
          case measure => simp [intOf]; omega
    · have hk9 : k = n1 := by omega
      have htk : ns.take k = ns := List.take_of_length_le (by rw [HAll.out.1.1]; omega)
      rw [htk] at hgd hld
      have HGn := Lib.hid hgd.out
      obtain ⟨wo, hwo⟩ : ∃ wo : World, wr = wo := ⟨_, rfl⟩
      rw [hwo] at hld ⊢
      obtain ⟨bn, hbn⟩ : ∃ z, b = z := ⟨_, rfl⟩
      rw [hbn] at hld hble
      have HLen := Lib.hid hble.out
      have HLs := Lib.hid hld.out
      clear hk9 htk hgd hld hwo hbn hble hbw
      go_wp2
      go_loopw [14] (fun iv wr => ∃ k b : Nat, k ≤ n2 ∧ iv = .int .i64 (k : Int) ∧ Hid (b ≤ a2) ∧ Hid (Gd (Ro.wrongS ⟨⟨m, ns, a1⟩, ⟨m, [], 0⟩, ⟨m, [], 0⟩⟩) SvA.key m (ss.take k) a2) ∧ Hid (LdD w.heap.size w2 D m L #[.int .u64 (a1 : Int), .int .u64 (a2 : Int), .int .u64 (a3 : Int)] 55 (⟨⟨m, ns, bn⟩, (⟨m, ss.take k, b⟩ : Tb SvA), ⟨m, [], 0⟩⟩ : Ro) wr)) (fun iv _ => n2 - (intOf iv).toNat)
      case atStart => exact ⟨0, 0, Nat.zero_le _, rfl, Lib.hid (Nat.zero_le _), Lib.hid ⟨Nat.zero_le _, .nil, fun x hx => by simp at hx⟩, HLs⟩
      case round =>
        obtain ⟨k, b, hk, rfl, hble, hgd, hld⟩ := hrel
        have hbw := HBl.out wr hld.out.but
        by_cases hlt : k < n2
        · as_aux_lemma =>
          have hkl0 : k < ls.length := by rw [HAll.out.2.1.1]; exact hlt
          have hkl : k < ss.length := by rw [← HSs.out, List.length_map]; exact hkl0
          obtain ⟨bk, off, rfl, hbl, hit⟩ := (HAll.out.2.1.below hbw).at_ hlt hkl0
          have hmem : ls[k] ∈ ls := List.getElem_mem _
          have hin := HIs.out.2.1 _ hmem
          have hNb := fun h1 h2 => Gd.ord_bad (wr := (Ro.wrongS ⟨⟨m, ns, a1⟩, ⟨m, [], 0⟩, ⟨m, [], 0⟩⟩)) (ky := SvA.key) (m := m) (a := a2) (nd := SvA.node) (idd := SvA.id) (fun _ => rfl) (wrongS_nd _) h1 hkl HKys.out h2
          have hOk := fun h1 h2 => Gd.ord_ok (nd := SvA.node) (idd := SvA.id) (fun _ => rfl) (wrongS_nd _) hgd.out hkl HKys.out h1 h2
          have hky0 := HKys.out _ (List.getElem_mem hkl)
          have h00 : ltT noT ss[k].key = true := by rw [hky0]; exact key_pos _ _
          have hNo := fun hc => Gd.not (wr := (Ro.wrongS ⟨⟨m, ns, a1⟩, ⟨m, [], 0⟩, ⟨m, [], 0⟩⟩)) (ky := SvA.key) (m := m) (a := a2) (b := b) hkl hky0 h00 hc
          have hYes := fun h1 h2 h3 h4 => Gd.yes (wr := (Ro.wrongS ⟨⟨m, ns, a1⟩, ⟨m, [], 0⟩, ⟨m, [], 0⟩⟩)) (ky := SvA.key) (m := m) (a := a2) (b := b) hgd.out hkl hky0 h1 h2 h3 h4
          have hlx : ss[k] = rwMap (fun v : SvW => v.a) ls[k] := by simp only [← HSs.out, List.getElem_map]
          obtain ⟨x, hx⟩ : ∃ x, ls[k] = x := ⟨_, rfl⟩
          rw [hx] at hit hin hmem hlx
          rw [hlx] at hNo hYes hOk hNb
          obtain ⟨Y, hY⟩ : ∃ Y, wr.heap.size = Y := ⟨_, rfl⟩
          obtain ⟨W0, hW0⟩ : ∃ W0, wr.alloc (.cells #[.int .i64 x.val.a.node, .string x.val.a.id, .string x.val.a.name, .slice x.val.A x.val.n x.val.c, .int .i64 x.val.a.port, .int .u64 (x.made : Int), .int .u64 (x.ix : Int)] TSv) = W0 := ⟨_, rfl⟩
          have b5 : Below wr.heap.size wr W0 := by rw [← hW0]; exact below1 _ _ _
          have k5 : W0.heap[Y]? = some (.cells #[.int .i64 x.val.a.node, .string x.val.a.id, .string x.val.a.name, .slice x.val.A x.val.n x.val.c, .int .i64 x.val.a.port, .int .u64 (x.made : Int), .int .u64 (x.ix : Int)] TSv (0, 0)) := by rw [← hW0, ← hY]; exact heap_alloc_new wr _
          have HLd0 := Lib.hid (hld.out.below b5)
          have hYd : Y ≠ D := by have := hld.out.ne; have := hld.out.but.size; omega
          have HKy := Lib.hid k5
          have HYd := Lib.hid hYd
          have HIn := Lib.hid hin
          have HMem := Lib.hid hmem
          have HNo := Lib.hid hNo
          have HYes := Lib.hid hYes
          have HNb := Lib.hid hNb
          have HOk := Lib.hid hOk
          have HGd := hgd
          have HBle := hble
          have HW0 := Lib.hid hW0
          have HY := Lib.hid hY
          have HB0w := Lib.hid (hbw.trans (b5.mono hbw.size))
          have ee := sv_cells hit
          have p1 : (k : Int) < (n2 : Int) := by omega
          have p0 : (0 : Int) ≤ (k : Int) := by omega
          have hprev : 0 < k → ∃ y : Rw SvW, (∃ h : k - 1 < ls.length, ls[k - 1]'h = y) ∧ ∀ W, But (· = D) W0 W → ItAt svC W bk (off + (k - 1) * 7) y := fun h0 => ⟨_, ⟨by omega, rfl⟩, fun W hW => by
            obtain ⟨b9, off9, e9, _, h9⟩ := (HAll.out.2.1.below (HBl.out W ((hld.out.but.trans (But.of_below b5)).trans hW))).at_ (j := k - 1) (by omega) (by omega)
            cases e9
            exact h9⟩
          have HPrev := Lib.hid hprev
          clear hit hmem hin hx hky0 h00 hNo hYes hNb hOk hgd hble hld hW0 hY b5 k5 hYd hbw hprev hlx
          have HTgx := Lib.hid (HTg.out x (HMem.out))
          have HLay := Lib.hid (fun (W : World) (t : Tb SvA) (i : Nat) (h9 : RdAt w.heap.size (fun q => q = D ∨ w2.heap.size ≤ q) W D m (⟨⟨m, ns, bn⟩, t, ⟨m, [], 0⟩⟩ : Ro)) (hw : But (· = D) w2 W) (hi : i < 18446744073709551616) => (by
            have h8 := rdservice_any x i h9 (HIn.out.s.below (HBl.out W hw)) (HTgx.out.below (HBl.out W hw)) hi
            have ew : Ro.wrongS (⟨⟨m, ns, bn⟩, t, ⟨m, [], 0⟩⟩ : Ro) = (Ro.wrongS ⟨⟨m, ns, a1⟩, ⟨m, [], 0⟩, ⟨m, [], 0⟩⟩) := rfl
            rw [Ro.service_lay, ew] at h8
            unfold svV at h8
            exact h8 : Calls Tryz.prog 38 #[.pointer (some ⟨D, 0, none⟩), .agg #[.int .i64 x.val.a.node, .string x.val.a.id, .string x.val.a.name, .slice x.val.A x.val.n x.val.c, .int .i64 x.val.a.port, .int .u64 (x.made : Int), .int .u64 (x.ix : Int)], .int .u64 (i : Int)] W fun e w' => e = .returned (.int .i64 ((layT (Ro.wrongS ⟨⟨m, ns, a1⟩, ⟨m, [], 0⟩, ⟨m, [], 0⟩⟩) SvA.key t x.val.a i).1 : Int)) ∧ RdAt w.heap.size (fun q => (q = D ∨ w2.heap.size ≤ q) ∨ W.heap.size ≤ q) w' D m (⟨⟨m, ns, bn⟩, (layT (Ro.wrongS ⟨⟨m, ns, a1⟩, ⟨m, [], 0⟩, ⟨m, [], 0⟩⟩) SvA.key t x.val.a i).2, ⟨m, [], 0⟩⟩ : Ro) ∧ But (· = D) W w'))
          obtain ⟨ob, hob⟩ : ∃ ob : Bool, (if h : 0 < k then badB (SvA.node (ss[k - 1]'(by omega)).val) (SvA.id (ss[k - 1]'(by omega)).val) x.val.a.node x.val.a.id else false) = ob := ⟨_, rfl⟩
          have HOb1 : Hid (ob = true → ¬ LoadOk m ns ss cs a1 a2 a3) := Lib.hid (fun hz z => by
            rw [hz] at hob
            by_cases hk0 : 0 < k
            · rw [dif_pos hk0] at hob
              exact HNb.out hk0 hob z.2.1
            · rw [dif_neg hk0] at hob
              cases hob)
          have HOb2 : Hid (ob = false → (Ro.wrongS ⟨⟨m, ns, a1⟩, ⟨m, [], 0⟩, ⟨m, [], 0⟩⟩) x.val.a = 0 → ltT (befK ss k) x.key = true) := Lib.hid (fun hz hw => HOk.out hw (by
            rw [hz] at hob
            by_cases hk0 : 0 < k
            · rw [dif_pos hk0] at hob
              exact .inr ⟨hk0, hob⟩
            · exact .inl (by omega)))
          have HOb := Lib.hid hob
          clear hob
          go_wp2
          rw [HW0.out, HY.out]
          go_cut [123] (fun s9 wx => s9 = .bool ob ∧ Hid (Below W0.heap.size W0 wx))
          case first =>
            have hob := HOb.out
            by_cases hk0 : 0 < k
            · obtain ⟨y, ⟨hkp, hyx⟩, hpv⟩ := HPrev.out hk0
              rw [dif_pos hk0] at hob
              have cp := sv_cells (hpv W0 (But.refl _ _))
              have cy := sv_blk HKy.out
              have e1 : ss[k - 1]'(by omega) = (rwMap (fun v : SvW => v.a) y) := by simp only [← HSs.out, List.getElem_map, hyx]
              rw [e1] at hob
              have u1 : decide (0 < k) = true := decide_eq_true hk0
              have u1' : decide ((0 : Int) < (k : Int)) = true := decide_eq_true (by omega)
              have u4 : IntKind.i64.wrap ((k : Int) - 1) = (k : Int) - 1 := by simp [IntKind.wrap, IntKind.bits, IntKind.signed]; omega
              have u5 : 0 ≤ (k : Int) - 1 := by omega
              have u5a : (k : Int) - 1 < (n2 : Int) := by omega
              have u5b : ((k : Int) - 1).toNat = k - 1 := by omega
              have u5c : (1 : Int) ≤ (k : Int) := by omega
              have hob2 : badB y.val.a.node y.val.a.id x.val.a.node x.val.a.id = ob := hob
              unfold badB at hob2
              clear hyx hpv e1 hob hk0 HOb
              rcases Int.lt_trichotomy y.val.a.node x.val.a.node with q | q | q
              · have v1 : decide (x.val.a.node < y.val.a.node) = false := decide_eq_false (by omega)
                have v2 : (y.val.a.node == x.val.a.node) = false := beq_eq_false_iff_ne.2 (by omega)
                rw [v1, decide_eq_false (show ¬ y.val.a.node = x.val.a.node by omega)] at hob2
                simp only [Bool.false_and, Bool.or_self] at hob2
                subst hob2
                clear q
                go_quiet (fail)
                generalize hWq : W0.drewN _ = wq
                have HBq : Hid (Below W0.heap.size W0 wq) := Lib.hid (by rw [← hWq]; exact below_drewN (Below.refl _ _) _)
                clear hWq
                go_wp2
                go_meet
                case rel => exact ⟨rfl, HBq⟩
              · have v1 : decide (x.val.a.node < y.val.a.node) = false := decide_eq_false (by omega)
                have v2 : (y.val.a.node == x.val.a.node) = true := beq_iff_eq.2 q
                rw [v1, decide_eq_true q] at hob2
                simp only [Bool.true_and, Bool.false_or] at hob2
                obtain ⟨bl, hbl9⟩ : ∃ bl, ltT y.val.a.id x.val.a.id = bl := ⟨_, rfl⟩
                have v3 : Op.bytesLess y.val.a.id.toList x.val.a.id.toList = bl := hbl9
                rw [hbl9] at hob2
                subst hob2
                clear q hbl9
                go_quiet (fail)
                generalize hWq : W0.drewN _ = wq
                have HBq : Hid (Below W0.heap.size W0 wq) := Lib.hid (by rw [← hWq]; exact below_drewN (Below.refl _ _) _)
                clear hWq
                go_wp2
                go_meet
                case rel => exact ⟨rfl, HBq⟩
              · have v1 : decide (x.val.a.node < y.val.a.node) = true := decide_eq_true q
                rw [v1] at hob2
                simp only [Bool.true_or] at hob2
                subst hob2
                clear q
                go_quiet (fail)
                generalize hWq : W0.drewN _ = wq
                have HBq : Hid (Below W0.heap.size W0 wq) := Lib.hid (by rw [← hWq]; exact below_drewN (Below.refl _ _) _)
                clear hWq
                go_wp2
                go_meet
                case rel => exact ⟨rfl, HBq⟩
            · rw [dif_neg hk0] at hob
              have u1 : decide (0 < k) = false := decide_eq_false hk0
              have u1' : decide ((0 : Int) < (k : Int)) = false := decide_eq_false (by omega)
              subst hob
              clear hk0
              go_quiet (fail)
              generalize hWq : W0.drewN _ = wq
              have HBq : Hid (Below W0.heap.size W0 wq) := Lib.hid (by rw [← hWq]; exact below_drewN (Below.refl _ _) _)
              clear hWq
              go_wp2
              go_meet
              case rel => exact ⟨rfl, HBq⟩
          case rest =>
            obtain ⟨rfl, hbc⟩ := hcut
            have HBc := Lib.hid (HB0w.out.trans (hbc.out.mono HB0w.out.size))
            have HLd5 := Lib.hid (HLd0.out.below hbc.out)
            have HKy5 := Lib.hid ((hbc.out.block Y (block_lt HKy.out)).trans HKy.out)
            clear hbc HOb
            cases ob with
            | true =>
              have HNo := Lib.hid (HOb1.out rfl)
              go_wp2
              go_ret
              exact RdLoPost.no HBc.out HNo.out
            | false =>
              have HOr := Lib.hid (HOb2.out rfl)
              have cy := sv_blk HKy5.out
              have cl := cellsN HLd5.out.bl 1 _ rfl
              by_cases hc2 : x.made ≤ x.ix
              case neg =>
                have HNo : Hid (¬ LoadOk m ns ss cs a1 a2 a3) := Lib.hid (fun z => (HNo.out (fun z => hc2 z.2.1)) z.2.1)
                have u2 : decide (x.ix < x.made) = true := decide_eq_true (by omega)
                clear hc2
                go_wp2
                go_ret
                exact RdLoPost.no HBc.out HNo.out
              have u2 : decide (x.ix < x.made) = false := decide_eq_false (by omega)
              by_cases hc3 : x.ix ≤ a2
              case neg =>
                have HNo : Hid (¬ LoadOk m ns ss cs a1 a2 a3) := Lib.hid (fun z => (HNo.out (fun z => hc3 z.2.2.1)) z.2.1)
                have u3 : decide (a2 < x.ix) = true := decide_eq_true (by omega)
                clear hc2 hc3
                go_wp2
                go_ret
                exact RdLoPost.no HBc.out HNo.out
              have u3 : decide (a2 < x.ix) = false := decide_eq_false (by omega)
              obtain ⟨r9, hr9⟩ : ∃ r, layT (Ro.wrongS ⟨⟨m, ns, a1⟩, ⟨m, [], 0⟩, ⟨m, [], 0⟩⟩) SvA.key (⟨m, ss.take k, b⟩ : Tb SvA) x.val.a x.made = r := ⟨_, rfl⟩
              have hC1 := HLay.out wc (⟨m, ss.take k, b⟩ : Tb SvA) x.made HLd5.out.ro HLd5.out.but HIn.out.made
              rw [hr9] at hC1
              have HC1 := Lib.hid hC1
              have HR9 := Lib.hid hr9
              have HCc := Lib.hid (And.intro hc2 hc3)
              clear hC1 hr9 hc2 hc3
              go_wp2_with fail
              refine HC1.out.mono ?_
              rintro e w9 ⟨rfl, hro9, hb9⟩
              have HRo9 := Lib.hid hro9
              have HB9 := Lib.hid hb9
              have HLd9 := Lib.hid (HLd5.out.step HLd5.out.but.size hro9 hb9)
              have HKy9 := Lib.hid ((hb9.block Y (block_lt HKy5.out) HYd.out).trans HKy5.out)
              clear hro9 hb9 HC1 cy cl
              have cy := sv_blk HKy9.out
              have cl := cellsN HLd9.out.bl 1 _ rfl
              by_cases h0 : r9.1 = 0
              case neg =>
                have u7 : ((r9.1 : Int) != 0) = true := by simp; omega
                have HNo : Hid (¬ LoadOk m ns ss cs a1 a2 a3) := Lib.hid (fun z => (HNo.out (fun z => h0 ((congrArg Prod.fst HR9.out).symm.trans z.2.2.2))) z.2.1)
                have HBq := Lib.hid (HBl.out w9 HLd9.out.but)
                clear h0
                go_wp2
                go_ret
                exact RdLoPost.no HBq.out HNo.out
              have u7 : ((r9.1 : Int) != 0) = false := by rw [h0]; decide
              have hw9 : (Ro.wrongS ⟨⟨m, ns, a1⟩, ⟨m, [], 0⟩, ⟨m, [], 0⟩⟩) x.val.a = 0 := by
                have h9 := (congrArg Prod.fst HR9.out).trans h0
                unfold layT at h9
                split at h9
                · exact h9
                · rename_i e; simpa using e
              obtain ⟨g1, g2, g3⟩ := HYes.out (HOr.out hw9) HCc.out.1 HCc.out.2 ((congrArg Prod.fst HR9.out).trans h0)
              have hl2 : layT (Ro.wrongS ⟨⟨m, ns, a1⟩, ⟨m, [], 0⟩, ⟨m, [], 0⟩⟩) SvA.key (⟨m, ss.take k ++ [({ (rwMap (fun v : SvW => v.a) x) with ix := x.made } : Rw SvA)], max b x.made⟩ : Tb SvA) x.val.a x.ix = (0, (⟨m, ss.take (k + 1), max (max b x.made) x.ix⟩ : Tb SvA)) := g3 (max b x.made)
              have hro9 := HRo9.out
              rw [show r9 = (0, (⟨m, ss.take k ++ [({ (rwMap (fun v : SvW => v.a) x) with ix := x.made } : Rw SvA)], max b x.made⟩ : Tb SvA)) from HR9.out.symm.trans g2] at hro9
              have hLd9 := HLd5.out.step HLd5.out.but.size hro9 HB9.out
              have hC2 := HLay.out w9 (⟨m, ss.take k ++ [({ (rwMap (fun v : SvW => v.a) x) with ix := x.made } : Rw SvA)], max b x.made⟩ : Tb SvA) x.ix hLd9.ro hLd9.but HIn.out.ix
              rw [hl2] at hC2
              have HC2 := Lib.hid hC2
              have HLdx := Lib.hid hLd9
              have HGd9 := Lib.hid g1
              have hle9 : max (max b x.made) x.ix ≤ a2 := by have h1 := HBle.out; have h2 := HCc.out; omega
              have u8 : (((0 : Nat) : Int) != 0) = false := by decide
              clear h0 hw9 g1 g2 g3 hl2 hro9 hLd9 hC2
              go_wp2_with fail
              refine HC2.out.mono ?_
              rintro e w10 ⟨rfl, hro10, hb10⟩
              have HL9 := Lib.hid (HLdx.out.step HLdx.out.but.size hro10 hb10)
              clear hro10 hb10 HC2 cy cl
              go_wp2
              go_roundw
              case rel => first | exact ⟨k + 1, max (max b x.made) x.ix, by omega, by go_num, Lib.hid hle9, HGd9, HL9⟩ | ((repeat apply Exists.intro); exact ⟨⟨k + 1, max (max b x.made) x.ix, by omega, by go_num, Lib.hid hle9, HGd9, HL9⟩, rfl⟩)
              case measure => simp [intOf]; omega
        · have hk9 : k = n2 := by omega
          have htk : ss.take k = ss := List.take_of_length_le (by rw [← HSs.out, List.length_map, HAll.out.2.1.1]; omega)
          rw [htk] at hgd hld
          have HGs := Lib.hid hgd.out
          obtain ⟨wo, hwo⟩ : ∃ wo : World, wr = wo := ⟨_, rfl⟩
          rw [hwo] at hld ⊢
          obtain ⟨bs, hbn⟩ : ∃ z, b = z := ⟨_, rfl⟩
          rw [hbn] at hld hble
          have HLes := Lib.hid hble.out
          have HLc := Lib.hid hld.out
          clear hk9 htk hgd hld hwo hbn hble hbw
          go_wp2
          go_loopw [16] (fun iv wr => ∃ k b : Nat, k ≤ n3 ∧ iv = .int .i64 (k : Int) ∧ Hid (b ≤ a3) ∧ Hid (Gd (Ro.wrongC ⟨⟨m, ns, a1⟩, ⟨m, ss, a2⟩, ⟨m, [], 0⟩⟩) CkA.key m (cs.take k) a3) ∧ Hid (LdD w.heap.size w2 D m L #[.int .u64 (a1 : Int), .int .u64 (a2 : Int), .int .u64 (a3 : Int)] 55 (⟨⟨m, ns, bn⟩, ⟨m, ss, bs⟩, (⟨m, cs.take k, b⟩ : Tb CkA)⟩ : Ro) wr)) (fun iv _ => n3 - (intOf iv).toNat)
          case atStart => exact ⟨0, 0, Nat.zero_le _, rfl, Lib.hid (Nat.zero_le _), Lib.hid ⟨Nat.zero_le _, .nil, fun x hx => by simp at hx⟩, HLc⟩
          case round =>
            obtain ⟨k, b, hk, rfl, hble, hgd, hld⟩ := hrel
            have hbw := HBl.out wr hld.out.but
            by_cases hlt : k < n3
            · as_aux_lemma =>
              have hkl0 : k < cs.length := by rw [HAll.out.2.2.1]; exact hlt
              have hkl := hkl0
              obtain ⟨bk, off, rfl, hbl, hit⟩ := (HAll.out.2.2.below hbw).at_ hlt hkl0
              have hmem : cs[k] ∈ cs := List.getElem_mem _
              have hin := HIs.out.2.2 _ hmem
              have hNb := fun h1 h2 => Gd.ord_bad (wr := (Ro.wrongC ⟨⟨m, ns, a1⟩, ⟨m, ss, a2⟩, ⟨m, [], 0⟩⟩)) (ky := CkA.key) (m := m) (a := a3) (nd := CkA.node) (idd := CkA.id) (fun _ => rfl) (wrongC_nd _) h1 hkl HKyc.out h2
              have hOk := fun h1 h2 => Gd.ord_ok (nd := CkA.node) (idd := CkA.id) (fun _ => rfl) (wrongC_nd _) hgd.out hkl HKyc.out h1 h2
              have hky0 := HKyc.out _ (List.getElem_mem hkl)
              have h00 : ltT noT cs[k].key = true := by rw [hky0]; exact key_pos _ _
              have hNo := fun hc => Gd.not (wr := (Ro.wrongC ⟨⟨m, ns, a1⟩, ⟨m, ss, a2⟩, ⟨m, [], 0⟩⟩)) (ky := CkA.key) (m := m) (a := a3) (b := b) hkl hky0 h00 hc
              have hYes := fun h1 h2 h3 h4 => Gd.yes (wr := (Ro.wrongC ⟨⟨m, ns, a1⟩, ⟨m, ss, a2⟩, ⟨m, [], 0⟩⟩)) (ky := CkA.key) (m := m) (a := a3) (b := b) hgd.out hkl hky0 h1 h2 h3 h4
              obtain ⟨x, hx⟩ : ∃ x, cs[k] = x := ⟨_, rfl⟩
              rw [hx] at hit hin
              rw [hx] at hNo hYes hOk hNb
              obtain ⟨Y, hY⟩ : ∃ Y, wr.heap.size = Y := ⟨_, rfl⟩
              obtain ⟨W0, hW0⟩ : ∃ W0, wr.alloc (.cells #[.int .i64 x.val.node, .string x.val.id, .string x.val.svc, .string x.val.note, .int .i64 x.val.status, .int .u64 (x.made : Int), .int .u64 (x.ix : Int)] TCk) = W0 := ⟨_, rfl⟩
              have b5 : Below wr.heap.size wr W0 := by rw [← hW0]; exact below1 _ _ _
              have k5 : W0.heap[Y]? = some (.cells #[.int .i64 x.val.node, .string x.val.id, .string x.val.svc, .string x.val.note, .int .i64 x.val.status, .int .u64 (x.made : Int), .int .u64 (x.ix : Int)] TCk (0, 0)) := by rw [← hW0, ← hY]; exact heap_alloc_new wr _
              have HLd0 := Lib.hid (hld.out.below b5)
              have hYd : Y ≠ D := by have := hld.out.ne; have := hld.out.but.size; omega
              have HKy := Lib.hid k5
              have HYd := Lib.hid hYd
              have HIn := Lib.hid hin
              have HNo := Lib.hid hNo
              have HYes := Lib.hid hYes
              have HNb := Lib.hid hNb
              have HOk := Lib.hid hOk
              have HGd := hgd
              have HBle := hble
              have HW0 := Lib.hid hW0
              have HY := Lib.hid hY
              have HB0w := Lib.hid (hbw.trans (b5.mono hbw.size))
              have ee := ck_cells hit
              have p1 : (k : Int) < (n3 : Int) := by omega
              have p0 : (0 : Int) ≤ (k : Int) := by omega
              have hprev : 0 < k → ∃ y : Rw CkA, (∃ h : k - 1 < cs.length, cs[k - 1]'h = y) ∧ ∀ W, But (· = D) W0 W → ItAt ckC W bk (off + (k - 1) * 7) y := fun h0 => ⟨_, ⟨by omega, rfl⟩, fun W hW => by
                obtain ⟨b9, off9, e9, _, h9⟩ := (HAll.out.2.2.below (HBl.out W ((hld.out.but.trans (But.of_below b5)).trans hW))).at_ (j := k - 1) (by omega) (by omega)
                cases e9
                exact h9⟩
              have HPrev := Lib.hid hprev
              clear hit hmem hin hx hky0 h00 hNo hYes hNb hOk hgd hble hld hW0 hY b5 k5 hYd hbw hprev
              have HLay := Lib.hid (fun (W : World) (t : Tb CkA) (i : Nat) (h9 : RdAt w.heap.size (fun q => q = D ∨ w2.heap.size ≤ q) W D m (⟨⟨m, ns, bn⟩, ⟨m, ss, bs⟩, t⟩ : Ro)) (hw : But (· = D) w2 W) (hi : i < 18446744073709551616) => (by
                have h8 := rdcheck_any x i h9 HIn.out.c hi
                have ew : Ro.wrongC (⟨⟨m, ns, bn⟩, ⟨m, ss, bs⟩, t⟩ : Ro) = (Ro.wrongC ⟨⟨m, ns, a1⟩, ⟨m, ss, a2⟩, ⟨m, [], 0⟩⟩) := rfl
                rw [Ro.check_lay, ew] at h8
                unfold ckV at h8
                exact h8 : Calls Tryz.prog 40 #[.pointer (some ⟨D, 0, none⟩), .agg #[.int .i64 x.val.node, .string x.val.id, .string x.val.svc, .string x.val.note, .int .i64 x.val.status, .int .u64 (x.made : Int), .int .u64 (x.ix : Int)], .int .u64 (i : Int)] W fun e w' => e = .returned (.int .i64 ((layT (Ro.wrongC ⟨⟨m, ns, a1⟩, ⟨m, ss, a2⟩, ⟨m, [], 0⟩⟩) CkA.key t x.val i).1 : Int)) ∧ RdAt w.heap.size (fun q => (q = D ∨ w2.heap.size ≤ q) ∨ W.heap.size ≤ q) w' D m (⟨⟨m, ns, bn⟩, ⟨m, ss, bs⟩, (layT (Ro.wrongC ⟨⟨m, ns, a1⟩, ⟨m, ss, a2⟩, ⟨m, [], 0⟩⟩) CkA.key t x.val i).2⟩ : Ro) ∧ But (· = D) W w'))
              obtain ⟨ob, hob⟩ : ∃ ob : Bool, (if h : 0 < k then badB (CkA.node (cs[k - 1]'(by omega)).val) (CkA.id (cs[k - 1]'(by omega)).val) x.val.node x.val.id else false) = ob := ⟨_, rfl⟩
              have HOb1 : Hid (ob = true → ¬ LoadOk m ns ss cs a1 a2 a3) := Lib.hid (fun hz z => by
                rw [hz] at hob
                by_cases hk0 : 0 < k
                · rw [dif_pos hk0] at hob
                  exact HNb.out hk0 hob z.2.2
                · rw [dif_neg hk0] at hob
                  cases hob)
              have HOb2 : Hid (ob = false → (Ro.wrongC ⟨⟨m, ns, a1⟩, ⟨m, ss, a2⟩, ⟨m, [], 0⟩⟩) x.val = 0 → ltT (befK cs k) x.key = true) := Lib.hid (fun hz hw => HOk.out hw (by
                rw [hz] at hob
                by_cases hk0 : 0 < k
                · rw [dif_pos hk0] at hob
                  exact .inr ⟨hk0, hob⟩
                · exact .inl (by omega)))
              have HOb := Lib.hid hob
              clear hob
              go_wp2
              rw [HW0.out, HY.out]
              go_cut [196] (fun s9 wx => s9 = .bool ob ∧ Hid (Below W0.heap.size W0 wx))
              case first =>
                have hob := HOb.out
                by_cases hk0 : 0 < k
                · obtain ⟨y, ⟨hkp, hyx⟩, hpv⟩ := HPrev.out hk0
                  rw [dif_pos hk0] at hob
                  have cp := ck_cells (hpv W0 (But.refl _ _))
                  have cy := ck_blk HKy.out
                  have e1 : cs[k - 1]'(by omega) = y := hyx
                  rw [e1] at hob
                  have u1 : decide (0 < k) = true := decide_eq_true hk0
                  have u1' : decide ((0 : Int) < (k : Int)) = true := decide_eq_true (by omega)
                  have u4 : IntKind.i64.wrap ((k : Int) - 1) = (k : Int) - 1 := by simp [IntKind.wrap, IntKind.bits, IntKind.signed]; omega
                  have u5 : 0 ≤ (k : Int) - 1 := by omega
                  have u5a : (k : Int) - 1 < (n3 : Int) := by omega
                  have u5b : ((k : Int) - 1).toNat = k - 1 := by omega
                  have u5c : (1 : Int) ≤ (k : Int) := by omega
                  have hob2 : badB y.val.node y.val.id x.val.node x.val.id = ob := hob
                  unfold badB at hob2
                  clear hyx hpv e1 hob hk0 HOb
                  rcases Int.lt_trichotomy y.val.node x.val.node with q | q | q
                  · have v1 : decide (x.val.node < y.val.node) = false := decide_eq_false (by omega)
                    have v2 : (y.val.node == x.val.node) = false := beq_eq_false_iff_ne.2 (by omega)
                    rw [v1, decide_eq_false (show ¬ y.val.node = x.val.node by omega)] at hob2
                    simp only [Bool.false_and, Bool.or_self] at hob2
                    subst hob2
                    clear q
                    go_quiet (fail)
                    generalize hWq : W0.drewN _ = wq
                    have HBq : Hid (Below W0.heap.size W0 wq) := Lib.hid (by rw [← hWq]; exact below_drewN (Below.refl _ _) _)
                    clear hWq
                    go_wp2
                    go_meet
                    case rel => exact ⟨rfl, HBq⟩
                  · have v1 : decide (x.val.node < y.val.node) = false := decide_eq_false (by omega)
                    have v2 : (y.val.node == x.val.node) = true := beq_iff_eq.2 q
                    rw [v1, decide_eq_true q] at hob2
                    simp only [Bool.true_and, Bool.false_or] at hob2
                    obtain ⟨bl, hbl9⟩ : ∃ bl, ltT y.val.id x.val.id = bl := ⟨_, rfl⟩
                    have v3 : Op.bytesLess y.val.id.toList x.val.id.toList = bl := hbl9
                    rw [hbl9] at hob2
                    subst hob2
                    clear q hbl9
                    go_quiet (fail)
                    generalize hWq : W0.drewN _ = wq
                    have HBq : Hid (Below W0.heap.size W0 wq) := Lib.hid (by rw [← hWq]; exact below_drewN (Below.refl _ _) _)
                    clear hWq
                    go_wp2
                    go_meet
                    case rel => exact ⟨rfl, HBq⟩
                  · have v1 : decide (x.val.node < y.val.node) = true := decide_eq_true q
                    rw [v1] at hob2
                    simp only [Bool.true_or] at hob2
                    subst hob2
                    clear q
                    go_quiet (fail)
                    generalize hWq : W0.drewN _ = wq
                    have HBq : Hid (Below W0.heap.size W0 wq) := Lib.hid (by rw [← hWq]; exact below_drewN (Below.refl _ _) _)
                    clear hWq
                    go_wp2
                    go_meet
                    case rel => exact ⟨rfl, HBq⟩
                · rw [dif_neg hk0] at hob
                  have u1 : decide (0 < k) = false := decide_eq_false hk0
                  have u1' : decide ((0 : Int) < (k : Int)) = false := decide_eq_false (by omega)
                  subst hob
                  clear hk0
                  go_quiet (fail)
                  generalize hWq : W0.drewN _ = wq
                  have HBq : Hid (Below W0.heap.size W0 wq) := Lib.hid (by rw [← hWq]; exact below_drewN (Below.refl _ _) _)
                  clear hWq
                  go_wp2
                  go_meet
                  case rel => exact ⟨rfl, HBq⟩
              case rest =>
                obtain ⟨rfl, hbc⟩ := hcut
                have HBc := Lib.hid (HB0w.out.trans (hbc.out.mono HB0w.out.size))
                have HLd5 := Lib.hid (HLd0.out.below hbc.out)
                have HKy5 := Lib.hid ((hbc.out.block Y (block_lt HKy.out)).trans HKy.out)
                clear hbc HOb
                cases ob with
                | true =>
                  have HNo := Lib.hid (HOb1.out rfl)
                  go_wp2
                  go_ret
                  exact RdLoPost.no HBc.out HNo.out
                | false =>
                  have HOr := Lib.hid (HOb2.out rfl)
                  have cy := ck_blk HKy5.out
                  have cl := cellsN HLd5.out.bl 2 _ rfl
                  by_cases hc2 : x.made ≤ x.ix
                  case neg =>
                    have HNo : Hid (¬ LoadOk m ns ss cs a1 a2 a3) := Lib.hid (fun z => (HNo.out (fun z => hc2 z.2.1)) z.2.2)
                    have u2 : decide (x.ix < x.made) = true := decide_eq_true (by omega)
                    clear hc2
                    go_wp2
                    go_ret
                    exact RdLoPost.no HBc.out HNo.out
                  have u2 : decide (x.ix < x.made) = false := decide_eq_false (by omega)
                  by_cases hc3 : x.ix ≤ a3
                  case neg =>
                    have HNo : Hid (¬ LoadOk m ns ss cs a1 a2 a3) := Lib.hid (fun z => (HNo.out (fun z => hc3 z.2.2.1)) z.2.2)
                    have u3 : decide (a3 < x.ix) = true := decide_eq_true (by omega)
                    clear hc2 hc3
                    go_wp2
                    go_ret
                    exact RdLoPost.no HBc.out HNo.out
                  have u3 : decide (a3 < x.ix) = false := decide_eq_false (by omega)
                  obtain ⟨r9, hr9⟩ : ∃ r, layT (Ro.wrongC ⟨⟨m, ns, a1⟩, ⟨m, ss, a2⟩, ⟨m, [], 0⟩⟩) CkA.key (⟨m, cs.take k, b⟩ : Tb CkA) x.val x.made = r := ⟨_, rfl⟩
                  have hC1 := HLay.out wc (⟨m, cs.take k, b⟩ : Tb CkA) x.made HLd5.out.ro HLd5.out.but HIn.out.made
                  rw [hr9] at hC1
                  have HC1 := Lib.hid hC1
                  have HR9 := Lib.hid hr9
                  have HCc := Lib.hid (And.intro hc2 hc3)
                  clear hC1 hr9 hc2 hc3
                  go_wp2_with fail
                  refine HC1.out.mono ?_
                  rintro e w9 ⟨rfl, hro9, hb9⟩
                  have HRo9 := Lib.hid hro9
                  have HB9 := Lib.hid hb9
                  have HLd9 := Lib.hid (HLd5.out.step HLd5.out.but.size hro9 hb9)
                  have HKy9 := Lib.hid ((hb9.block Y (block_lt HKy5.out) HYd.out).trans HKy5.out)
                  clear hro9 hb9 HC1 cy cl
                  have cy := ck_blk HKy9.out
                  have cl := cellsN HLd9.out.bl 2 _ rfl
                  by_cases h0 : r9.1 = 0
                  case neg =>
                    have u7 : ((r9.1 : Int) != 0) = true := by simp; omega
                    have HNo : Hid (¬ LoadOk m ns ss cs a1 a2 a3) := Lib.hid (fun z => (HNo.out (fun z => h0 ((congrArg Prod.fst HR9.out).symm.trans z.2.2.2))) z.2.2)
                    have HBq := Lib.hid (HBl.out w9 HLd9.out.but)
                    clear h0
                    go_wp2
                    go_ret
                    exact RdLoPost.no HBq.out HNo.out
                  have u7 : ((r9.1 : Int) != 0) = false := by rw [h0]; decide
                  have hw9 : (Ro.wrongC ⟨⟨m, ns, a1⟩, ⟨m, ss, a2⟩, ⟨m, [], 0⟩⟩) x.val = 0 := by
                    have h9 := (congrArg Prod.fst HR9.out).trans h0
                    unfold layT at h9
                    split at h9
                    · exact h9
                    · rename_i e; simpa using e
                  obtain ⟨g1, g2, g3⟩ := HYes.out (HOr.out hw9) HCc.out.1 HCc.out.2 ((congrArg Prod.fst HR9.out).trans h0)
                  have hl2 : layT (Ro.wrongC ⟨⟨m, ns, a1⟩, ⟨m, ss, a2⟩, ⟨m, [], 0⟩⟩) CkA.key (⟨m, cs.take k ++ [({ x with ix := x.made } : Rw CkA)], max b x.made⟩ : Tb CkA) x.val x.ix = (0, (⟨m, cs.take (k + 1), max (max b x.made) x.ix⟩ : Tb CkA)) := g3 (max b x.made)
                  have hro9 := HRo9.out
                  rw [show r9 = (0, (⟨m, cs.take k ++ [({ x with ix := x.made } : Rw CkA)], max b x.made⟩ : Tb CkA)) from HR9.out.symm.trans g2] at hro9
                  have hLd9 := HLd5.out.step HLd5.out.but.size hro9 HB9.out
                  have hC2 := HLay.out w9 (⟨m, cs.take k ++ [({ x with ix := x.made } : Rw CkA)], max b x.made⟩ : Tb CkA) x.ix hLd9.ro hLd9.but HIn.out.ix
                  rw [hl2] at hC2
                  have HC2 := Lib.hid hC2
                  have HLdx := Lib.hid hLd9
                  have HGd9 := Lib.hid g1
                  have hle9 : max (max b x.made) x.ix ≤ a3 := by have h1 := HBle.out; have h2 := HCc.out; omega
                  have u8 : (((0 : Nat) : Int) != 0) = false := by decide
                  clear h0 hw9 g1 g2 g3 hl2 hro9 hLd9 hC2
                  go_wp2_with fail
                  refine HC2.out.mono ?_
                  rintro e w10 ⟨rfl, hro10, hb10⟩
                  have HL9 := Lib.hid (HLdx.out.step HLdx.out.but.size hro10 hb10)
                  clear hro10 hb10 HC2 cy cl
                  go_wp2
                  go_roundw
                  case rel => first | exact ⟨k + 1, max (max b x.made) x.ix, by omega, by go_num, Lib.hid hle9, HGd9, HL9⟩ | ((repeat apply Exists.intro); exact ⟨⟨k + 1, max (max b x.made) x.ix, by omega, by go_num, Lib.hid hle9, HGd9, HL9⟩, rfl⟩)
                  case measure => simp [intOf]; omega
            · have hk9 : k = n3 := by omega
              have htk : cs.take k = cs := List.take_of_length_le (by rw [HAll.out.2.2.1]; omega)
              rw [htk] at hgd hld
              have HGc := Lib.hid hgd.out
              obtain ⟨wo, hwo⟩ : ∃ wo : World, wr = wo := ⟨_, rfl⟩
              rw [hwo] at hld ⊢
              obtain ⟨bc, hbn⟩ : ∃ z, b = z := ⟨_, rfl⟩
              rw [hbn] at hld hble
              have HLec := Lib.hid hble.out
              have HLe := Lib.hid hld.out
              clear hk9 htk hgd hld hwo hbn hble hbw
              have hro := HLe.out.ro
              obtain ⟨hok, B1, B2, B3, e1, e2, e3, l9, hri⟩ := hro
              obtain ⟨d0, d1, d2, d3, d4, d5, d6⟩ := hri.cells
              have f4 := hri.froz 4
              have f5 := hri.froz 5
              have f6 := hri.froz 6
              have cl0 := cellsN HLe.out.bl 0 _ rfl
              have cl1 := cellsN HLe.out.bl 1 _ rfl
              have cl2 := cellsN HLe.out.bl 2 _ rfl
              have HFin := Lib.hid (show RdLoPost w m (LoadOk m ns ss cs a1 a2 a3) (Ro.loaded m ns ss cs a1 a2 a3) (.returned (.pointer (some ⟨D, 0, none⟩))) (((wo.setCell ⟨D, 4, none⟩ (.int .u64 (a1 : Int))).setCell ⟨D, 5, none⟩ (.int .u64 (a2 : Int))).setCell ⟨D, 6, none⟩ (.int .u64 (a3 : Int))) from by
                have h9 := ((hri.last1 a1).last2 a2).last3 a3
                have hb : But (· = D) wo (((wo.setCell ⟨D, 4, none⟩ (.int .u64 (a1 : Int))).setCell ⟨D, 5, none⟩ (.int .u64 (a2 : Int))).setCell ⟨D, 6, none⟩ (.int .u64 (a3 : Int))) := ((But.set (S := (· = D)) wo (p := ⟨D, 4, none⟩) rfl _).trans (But.set (S := (· = D)) _ (p := ⟨D, 5, none⟩) rfl _)).trans (But.set (S := (· = D)) _ (p := ⟨D, 6, none⟩) rfl _)
                have hr := ((hok.raise_n HAs.out.1).raise_s HAs.out.2.1).raise_c HAs.out.2.2
                have hd : (⟨(⟨m, ns, bn⟩ : Tb NdA).raise a1, (⟨m, ss, bs⟩ : Tb SvA).raise a2, (⟨m, cs, bc⟩ : Tb CkA).raise a3⟩ : Ro) = Ro.loaded m ns ss cs a1 a2 a3 := by
                  unfold Tb.raise Ro.loaded
                  rw [Nat.max_eq_right HLen.out, Nat.max_eq_right HLes.out, Nat.max_eq_right HLec.out]
                refine ⟨HBl.out _ (HLe.out.but.trans hb), .inl ⟨⟨HGn.out, HGs.out, HGc.out⟩, D, _, rfl, ?_, _, _, _, _, _, _, _, h9⟩⟩
                rw [← hd]
                exact hr)
              clear hok hri
              go_wp2
              go_ret
              exact HFin.out
end Go.Proofs.YtilkbfmaofmjoaaGreatDoor
