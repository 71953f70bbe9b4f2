import Derived.Test.YtilkbfmaofmjoaaGreatDoorZj37
import Derived.Test.YtilkbfmaofmjoaaGreatDoorZj38
import Derived.Test.YtilkbfmaofmjoaaGreatDoorZj19
namespace Go.Proofs.YtilkbfmaofmjoaaGreatDoor
open Go.RowKit
set_option linter.unusedSimpArgs false
set_option linter.unusedVariables false
structure SvR (w : World) (v : Value) (l' : List (Rw SvW)) (l : List (Rw SvA)) : Prop where
  svl : SvL w l' l
  off : ∀ r ∈ l', ∀ b off, r.val.A = some ⟨b, off, none⟩ → 0 < r.val.n → v.ownBlock ≠ some b
theorem SvR.nil {w : World} {v : Value} : SvR w v [] [] := ⟨⟨rfl, by simp⟩, by simp⟩
theorem SvR.below {w w' : World} {v : Value} {l' : List (Rw SvW)} {l : List (Rw SvA)} (h : SvR w v l' l) (hb : Below w.heap.size w w') : SvR w' v l' l := ⟨h.svl.below hb, h.off⟩
theorem Tx.block {w : World} {A : Option Addr} {n c : Nat} {l : List ByteArray} (h : Tx w A n c l) {b off : Nat} (e : A = some ⟨b, off, none⟩) (hn : 0 < n) : b < w.heap.size := by
  obtain ⟨b', off', e', hb, _⟩ := h.row.at_ (j := 0) hn (by rw [h.len]; exact hn)
  rw [e] at e'
  cases e'
  exact hb
theorem SvR.snoc {w w' : World} {v v' : Value} {l' : List (Rw SvW)} {l : List (Rw SvA)} (h : SvR w v l' l) {y : Rw SvW} (hy : Tx w y.val.A y.val.n y.val.c y.val.a.tags) (ho : ∀ b off, y.val.A = some ⟨b, off, none⟩ → 0 < y.val.n → v.ownBlock ≠ some b) {o : Obj} (hg : (w.alloc o).grownBy w' v.ownBlock) (hw : v'.ownBlock = v.ownBlock ∨ ∀ r, v'.ownBlock = some r → w.heap.size + 1 ≤ r) : SvR w' v' (l' ++ [y]) (l ++ [rwMap (fun v => v.a) y]) := by
  have hba : Below w.heap.size w (w.alloc o) := (Below.refl _ w).alloc (Nat.le_refl _) o
  have hb : But (fun k => v.ownBlock = some k) w w' := (But.of_below hba).trans (But.of_grown hg fun r e _ => e)
  have key : ∀ r : Rw SvW, Tx w r.val.A r.val.n r.val.c r.val.a.tags → (∀ b off, r.val.A = some ⟨b, off, none⟩ → 0 < r.val.n → v.ownBlock ≠ some b) → Tx w' r.val.A r.val.n r.val.c r.val.a.tags ∧ ∀ b off, r.val.A = some ⟨b, off, none⟩ → 0 < r.val.n → v'.ownBlock ≠ some b := fun r h1 h2 =>
    ⟨⟨h1.row.but hb fun b off e hn z => h2 b off e hn z, h1.le, h1.max, h1.nil⟩, fun b off e hn z => by
      rcases hw with hw | hw
      · exact h2 b off e hn (hw ▸ z)
      · have := hw b z
        have := h1.block e hn
        omega⟩
  refine ⟨⟨by rw [List.map_append, h.svl.eq]; rfl, fun r hr => ?_⟩, fun r hr => ?_⟩
  · rcases List.mem_append.1 hr with hr | hr
    · exact (key r (h.svl.tx r hr) (h.off r hr)).1
    · rw [List.mem_singleton.1 hr]; exact (key y hy ho).1
  · rcases List.mem_append.1 hr with hr | hr
    · exact (key r (h.svl.tx r hr) (h.off r hr)).2
    · rw [List.mem_singleton.1 hr]; exact (key y hy ho).2
theorem wpList_append_svw {w : World} {ops : Array Oper} {rest : List Oper} {o : Oper} {a : Act} {Q : Exit → Act → World → Prop} (hgd : o.guard = none) (s x : Operand)
    (ho : o.op = .call { callee := .builtin .append, args := #[s, x], argTypes := #[42, 42] })
    (base : Nat) (v : Value) (l : List (Rw SvW)) (hs : a.eval s = v) (hown : svRow w base v l) (X : Nat) (y : Rw SvW) (hx : a.eval x = .slice (some ⟨X, 0, none⟩) 1 1) (hc : ItAt svC w X 0 y)
    (hl : l.length ≤ 1000000) (hbase : base ≤ w.heap.size)
    (h : Hid (∀ v' w', svRow w' base v' (l ++ [y]) → w.grownBy w' v.ownBlock → (v'.ownBlock = v.ownBlock ∨ ∀ r, v'.ownBlock = some r → w.heap.size ≤ r) → wpList Tryz.prog ops Q rest (a.put o.dst v') w')) : wpList Tryz.prog ops Q (o :: rest) a w := by
  obtain ⟨i0, hi, hz0, hz1, hz2⟩ := info_parts sv_info
  exact wpList_append_kw hgd s x _ ho i0 _ 88 Tryz.underlying42 hi hz0 hz1 hz2 rfl (by decide) svC_len svC_one base v l hs hown X y hx hc (by unfold maxLen; omega) (by omega) hbase h
set_option maxHeartbeats 4000000 in
set_option maxRecDepth 100000 in
theorem rowsNode_any {A : Option Addr} {n c : Nat} {l : List (Rw NdW)} (w : World) (hS : SK Nt.trC 7 w A n l) (hn : n ≤ 64) : Calls Tryz.prog 42 #[.slice A n c, kdNode] w fun e w' => NewNd w (l.map (rwMap (fun v => v.a))) e w' := by
  obtain ⟨Xk, hXk⟩ : ∃ Xk, w.heap.size = Xk := ⟨_, rfl⟩
  have k0 := heap_alloc_new w (.cells #[.func (.func 88) #[] #[], .func (.func 89) #[] #[]] 92)
  have b0 := below1 w #[.func (.func 88) #[] #[], .func (.func 89) #[] #[]] 92
  have z0 : (w.alloc (.cells #[.func (.func 88) #[] #[], .func (.func 89) #[] #[]] 92)).heap.size = w.heap.size + 1 := by simp
  rw [hXk] at k0 z0
  obtain ⟨w1, hw1⟩ : ∃ w1, w.alloc (.cells #[.func (.func 88) #[] #[], .func (.func 89) #[] #[]] 92) = w1 := ⟨_, rfl⟩
  rw [hw1] at k0 b0 z0
  have HS1 := Lib.hid (hS.below b0)
  have HB0 := Lib.hid b0
  have HK0 := Lib.hid k0
  have HZ0 := Lib.hid z0
  have HW1 := Lib.hid hw1
  have HXk := Lib.hid hXk
  have HL := Lib.hid hS.1
  have hl1 := block_lt k0
  unfold kdNode
  clear hS b0 k0 z0 hw1 hXk
  go_enter Tryz.func42, Tryz.ntmps42
  go_wp2_with fail
  rw [HW1.out, HXk.out]
  go_loopw [5, 10] (fun vv iv wr => ∃ k : Nat, k ≤ n ∧ iv = .int .i64 (k : Int) ∧ Hid (rowK ndC TNd 4 wr (Xk + 1) vv ((l.take k).map (rwMap (fun v => v.a)))) ∧ Hid (Below (Xk + 1) w1 wr)) (fun _ iv _ => n - (intOf iv).toNat)
  case atStart => exact ⟨0, Nat.zero_le _, rfl, Lib.hid (rowK.nil _ _), Lib.hid (Below.refl _ _)⟩
  case round =>
    obtain ⟨k, hk, rfl, hrow, hb⟩ := hrel
    by_cases hlt : k < n
    · have hkl : k < l.length := by rw [HL.out]; exact hlt
      have hbz : Below w1.heap.size w1 wr := by rw [HZ0.out]; exact hb.out
      obtain ⟨b, off, rfl, hbl, hit⟩ := (HS1.out.below hbz).at_ hlt hkl
      have hst : (l.take (k + 1)).map (rwMap (fun v => v.a)) = (l.take k).map (rwMap (fun v => v.a)) ++ [rwMap (fun v => v.a) l[k]] := by rw [List.take_succ_eq_append_getElem hkl, List.map_append]; rfl
      obtain ⟨x, hx⟩ : ∃ x, l[k] = x := ⟨_, rfl⟩
      rw [hx] at hit hst
      have HSt := Lib.hid hst
      obtain ⟨c0, c1, c2, c3, c4, c5, c6⟩ := Nt.tr_cells hit
      have bx := below1 wr #[.string x.key, .int .i64 x.val.a.node, .string x.val.a.addr, .int .u64 (x.val.jm : Int), .int .u64 (x.val.ji : Int), .int .u64 (x.made : Int), .int .u64 (x.ix : Int)] 130
      have kx := heap_alloc_new wr (.cells #[.string x.key, .int .i64 x.val.a.node, .string x.val.a.addr, .int .u64 (x.val.jm : Int), .int .u64 (x.val.ji : Int), .int .u64 (x.made : Int), .int .u64 (x.ix : Int)] 130)
      obtain ⟨W2, hW2⟩ : ∃ W2, wr.alloc (.cells #[.string x.key, .int .i64 x.val.a.node, .string x.val.a.addr, .int .u64 (x.val.jm : Int), .int .u64 (x.val.ji : Int), .int .u64 (x.made : Int), .int .u64 (x.ix : Int)] 130) = W2 := ⟨_, rfl⟩
      rw [hW2] at bx kx
      have hb2 : Below (Xk + 1) w1 W2 := hb.out.trans (bx.mono (by have := hb.out.size; have := HZ0.out; omega))
      have kk := (hb.out.block Xk (by omega)).trans HK0.out
      have d0 : wr.cell? ⟨Xk, 0, none⟩ = some (.func (.func 88) #[] #[]) := cellsN kk 0 _ rfl
      have lk := block_lt kk
      have lx := block_lt kx
      obtain ⟨X, hX⟩ : ∃ X, wr.heap.size = X := ⟨_, rfl⟩
      rw [hX] at lx
      have HTell := Lib.hid (tellNode_any x W2)
      have HB2 := Lib.hid hb2
      have HRow := Lib.hid (hrow.out.below bx)
      have HX := Lib.hid hX
      have HW2 := Lib.hid hW2
      unfold Nt.trV at HTell
      clear hbz hit hst bx kx hb2 kk hX hW2 hx lx
      go_wp2_with fail
      rw [HW2.out, HX.out]
      clear c0 c1 c2 c3 c4 c5 c6
      refine HTell.out.mono ?_
      rintro e W3 ⟨rfl, hb3⟩
      obtain ⟨y, hy⟩ : ∃ y, rwMap (fun v => v.a) x = y := ⟨_, rfl⟩
      rw [hy] at HSt ⊢
      clear hy
      have HB3 : Hid (Below (Xk + 1) w1 W3) := Lib.hid (HB2.out.trans (hb3.mono (by have := HB2.out.size; have := HZ0.out; omega)))
      have HRow3 := Lib.hid (HRow.out.below hb3)
      have hle : (l.take k).length ≤ 64 := by rw [List.length_take]; omega
      unfold ndV
      clear hb3 d0 lk
      go_wp2_with (at_builtin; refine wpList_append_nd rfl (.tmp 14) (.tmp 19) rfl (Xk + 1) _ ((l.take k).map (rwMap (fun v => v.a))) rfl ?qa W3.heap.size y rfl ?qb ?qd ?qc ?_)
      case qa => exact HRow3.out.below ((Below.refl _ _).alloc (Nat.le_refl _) _)
      case qb => exact nd_new W3 y _
      case qd => simp; omega
      case qc => have := HB3.out.size; have := HZ0.out; simp; omega
      refine Lib.hid ?_
      intro v4 W4 hown hgr
      have HB4 := Lib.hid (ndRow.snoc HRow3.out HB3.out (by have := HB3.out.size; have := HZ0.out; omega) hgr)
      have HR4 := Lib.hid hown
      clear hown hgr
      go_wp2
      go_roundw
      case rel => exact ⟨k + 1, by omega, by go_num, by rw [HSt.out, List.map_take]; exact HR4, HB4⟩
      case measure => simp [intOf]; omega
    · obtain rfl : k = n := by omega
      have ht : l.take k = l := List.take_of_length_le (by rw [HL.out]; omega)
      rw [ht] at hrow
      go_wp2
      go_ret
      obtain ⟨A2, c2, rfl, h1, h2, h3, h4⟩ := SK.of_row ndC_len hrow.out
      exact ⟨A2, c2, rfl, h1, h2, h3, fun b off e => by have := h4 b off e; have := HXk.out; omega, HB0.out.trans (hb.out.mono (by have := HXk.out; omega))⟩
set_option maxHeartbeats 4000000 in
set_option maxRecDepth 100000 in
theorem rowsCheck_any {A : Option Addr} {n c : Nat} {l : List (Rw CkW)} (w : World) (hS : SK Ct.trC 10 w A n l) (hn : n ≤ 64) : Calls Tryz.prog 49 #[.slice A n c, kdCheck] w fun e w' => NewCk w (l.map (rwMap (fun v => v.a))) e w' := by
  obtain ⟨Xk, hXk⟩ : ∃ Xk, w.heap.size = Xk := ⟨_, rfl⟩
  have k0 := heap_alloc_new w (.cells #[.func (.func 96) #[] #[], .func (.func 97) #[] #[]] 108)
  have b0 := below1 w #[.func (.func 96) #[] #[], .func (.func 97) #[] #[]] 108
  have z0 : (w.alloc (.cells #[.func (.func 96) #[] #[], .func (.func 97) #[] #[]] 108)).heap.size = w.heap.size + 1 := by simp
  rw [hXk] at k0 z0
  obtain ⟨w1, hw1⟩ : ∃ w1, w.alloc (.cells #[.func (.func 96) #[] #[], .func (.func 97) #[] #[]] 108) = w1 := ⟨_, rfl⟩
  rw [hw1] at k0 b0 z0
  have HS1 := Lib.hid (hS.below b0)
  have HB0 := Lib.hid b0
  have HK0 := Lib.hid k0
  have HZ0 := Lib.hid z0
  have HW1 := Lib.hid hw1
  have HXk := Lib.hid hXk
  have HL := Lib.hid hS.1
  have hl1 := block_lt k0
  unfold kdCheck
  clear hS b0 k0 z0 hw1 hXk
  go_enter Tryz.func49, Tryz.ntmps49
  go_wp2_with fail
  rw [HW1.out, HXk.out]
  go_loopw [5, 10] (fun vv iv wr => ∃ k : Nat, k ≤ n ∧ iv = .int .i64 (k : Int) ∧ Hid (rowK ckC TCk 7 wr (Xk + 1) vv ((l.take k).map (rwMap (fun v => v.a)))) ∧ Hid (Below (Xk + 1) w1 wr)) (fun _ iv _ => n - (intOf iv).toNat)
  case atStart => exact ⟨0, Nat.zero_le _, rfl, Lib.hid (rowK.nil _ _), Lib.hid (Below.refl _ _)⟩
  case round =>
    obtain ⟨k, hk, rfl, hrow, hb⟩ := hrel
    by_cases hlt : k < n
    · have hkl : k < l.length := by rw [HL.out]; exact hlt
      have hbz : Below w1.heap.size w1 wr := by rw [HZ0.out]; exact hb.out
      obtain ⟨b, off, rfl, hbl, hit⟩ := (HS1.out.below hbz).at_ hlt hkl
      have hst : (l.take (k + 1)).map (rwMap (fun v => v.a)) = (l.take k).map (rwMap (fun v => v.a)) ++ [rwMap (fun v => v.a) l[k]] := by rw [List.take_succ_eq_append_getElem hkl, List.map_append]; rfl
      obtain ⟨x, hx⟩ : ∃ x, l[k] = x := ⟨_, rfl⟩
      rw [hx] at hit hst
      have HSt := Lib.hid hst
      obtain ⟨c0, c1, c2, c3, c4, c5, c6, c7, c8, c9⟩ := Ct.tr_cells hit
      have bx := below1 wr #[.string x.key, .int .i64 x.val.a.node, .string x.val.a.id, .string x.val.a.svc, .string x.val.a.note, .int .i64 x.val.a.status, .int .u64 (x.val.jm : Int), .int .u64 (x.val.ji : Int), .int .u64 (x.made : Int), .int .u64 (x.ix : Int)] 120
      have kx := heap_alloc_new wr (.cells #[.string x.key, .int .i64 x.val.a.node, .string x.val.a.id, .string x.val.a.svc, .string x.val.a.note, .int .i64 x.val.a.status, .int .u64 (x.val.jm : Int), .int .u64 (x.val.ji : Int), .int .u64 (x.made : Int), .int .u64 (x.ix : Int)] 120)
      obtain ⟨W2, hW2⟩ : ∃ W2, wr.alloc (.cells #[.string x.key, .int .i64 x.val.a.node, .string x.val.a.id, .string x.val.a.svc, .string x.val.a.note, .int .i64 x.val.a.status, .int .u64 (x.val.jm : Int), .int .u64 (x.val.ji : Int), .int .u64 (x.made : Int), .int .u64 (x.ix : Int)] 120) = W2 := ⟨_, rfl⟩
      rw [hW2] at bx kx
      have hb2 : Below (Xk + 1) w1 W2 := hb.out.trans (bx.mono (by have := hb.out.size; have := HZ0.out; omega))
      have kk := (hb.out.block Xk (by omega)).trans HK0.out
      have d0 : wr.cell? ⟨Xk, 0, none⟩ = some (.func (.func 96) #[] #[]) := cellsN kk 0 _ rfl
      have lk := block_lt kk
      have lx := block_lt kx
      obtain ⟨X, hX⟩ : ∃ X, wr.heap.size = X := ⟨_, rfl⟩
      rw [hX] at lx
      have HTell := Lib.hid (tellCheck_any x W2)
      have HB2 := Lib.hid hb2
      have HRow := Lib.hid (hrow.out.below bx)
      have HX := Lib.hid hX
      have HW2 := Lib.hid hW2
      unfold Ct.trV at HTell
      clear hbz hit hst bx kx hb2 kk hX hW2 hx lx
      go_wp2_with fail
      rw [HW2.out, HX.out]
      clear c0 c1 c2 c3 c4 c5 c6 c7 c8 c9
      refine HTell.out.mono ?_
      rintro e W3 ⟨rfl, hb3⟩
      obtain ⟨y, hy⟩ : ∃ y, rwMap (fun v => v.a) x = y := ⟨_, rfl⟩
      rw [hy] at HSt ⊢
      clear hy
      have HB3 : Hid (Below (Xk + 1) w1 W3) := Lib.hid (HB2.out.trans (hb3.mono (by have := HB2.out.size; have := HZ0.out; omega)))
      have HRow3 := Lib.hid (HRow.out.below hb3)
      have hle : (l.take k).length ≤ 64 := by rw [List.length_take]; omega
      unfold ckV
      clear hb3 d0 lk
      go_wp2_with (at_builtin; refine wpList_append_ck rfl (.tmp 14) (.tmp 19) rfl (Xk + 1) _ ((l.take k).map (rwMap (fun v => v.a))) rfl ?qa W3.heap.size y rfl ?qb ?qd ?qc ?_)
      case qa => exact HRow3.out.below ((Below.refl _ _).alloc (Nat.le_refl _) _)
      case qb => exact ck_new W3 y _
      case qd => simp; omega
      case qc => have := HB3.out.size; have := HZ0.out; simp; omega
      refine Lib.hid ?_
      intro v4 W4 hown hgr
      have HB4 := Lib.hid (ckRow.snoc HRow3.out HB3.out (by have := HB3.out.size; have := HZ0.out; omega) hgr)
      have HR4 := Lib.hid hown
      clear hown hgr
      go_wp2
      go_roundw
      case rel => exact ⟨k + 1, by omega, by go_num, by rw [HSt.out, List.map_take]; exact HR4, HB4⟩
      case measure => simp [intOf]; omega
    · obtain rfl : k = n := by omega
      have ht : l.take k = l := List.take_of_length_le (by rw [HL.out]; omega)
      rw [ht] at hrow
      go_wp2
      go_ret
      obtain ⟨A2, c2, rfl, h1, h2, h3, h4⟩ := SK.of_row ckC_len hrow.out
      exact ⟨A2, c2, rfl, h1, h2, h3, fun b off e => by have := h4 b off e; have := HXk.out; omega, HB0.out.trans (hb.out.mono (by have := HXk.out; omega))⟩
set_option maxHeartbeats 4000000 in
set_option maxRecDepth 100000 in
theorem rowsService_any {A : Option Addr} {n c : Nat} {l : List (Rw SvW)} (w : World) (hS : SK Vt.trC 10 w A n l) (ht : ∀ r ∈ l, Tx w r.val.A r.val.n r.val.c r.val.a.tags ∧ r.val.n ≤ 4) (hn : n ≤ 64) : Calls Tryz.prog 46 #[.slice A n c, kdService] w fun e w' => NewSv w (l.map (rwMap (fun v => v.a))) e w' := by
  obtain ⟨Xk, hXk⟩ : ∃ Xk, w.heap.size = Xk := ⟨_, rfl⟩
  have k0 := heap_alloc_new w (.cells #[.func (.func 92) #[] #[], .func (.func 93) #[] #[]] 100)
  have b0 := below1 w #[.func (.func 92) #[] #[], .func (.func 93) #[] #[]] 100
  have z0 : (w.alloc (.cells #[.func (.func 92) #[] #[], .func (.func 93) #[] #[]] 100)).heap.size = w.heap.size + 1 := by simp
  rw [hXk] at k0 z0
  obtain ⟨w1, hw1⟩ : ∃ w1, w.alloc (.cells #[.func (.func 92) #[] #[], .func (.func 93) #[] #[]] 100) = w1 := ⟨_, rfl⟩
  rw [hw1] at k0 b0 z0
  have HS1 := Lib.hid (hS.below b0)
  have HB0 := Lib.hid b0
  have HK0 := Lib.hid k0
  have HZ0 := Lib.hid z0
  have HW1 := Lib.hid hw1
  have HXk := Lib.hid hXk
  have HL := Lib.hid hS.1
  have HT := Lib.hid (fun r hr => (⟨((ht r hr).1.below b0), (ht r hr).2⟩ : Tx w1 r.val.A r.val.n r.val.c r.val.a.tags ∧ r.val.n ≤ 4))
  have hl1 := block_lt k0
  unfold kdService
  clear hS b0 k0 z0 hw1 hXk ht
  go_enter Tryz.func46, Tryz.ntmps46
  go_wp2_with fail
  rw [HW1.out, HXk.out]
  go_loopw [5, 10] (fun vv iv wr => ∃ k : Nat, ∃ l2 : List (Rw SvW), k ≤ n ∧ iv = .int .i64 (k : Int) ∧ Hid (rowK svC TSv 7 wr (Xk + 1) vv l2) ∧ Hid (SvR wr vv l2 ((l.take k).map (rwMap (fun v => v.a)))) ∧ Hid (Below (Xk + 1) w1 wr)) (fun _ iv _ => n - (intOf iv).toNat)
  case atStart => exact ⟨0, [], Nat.zero_le _, rfl, Lib.hid (rowK.nil _ _), Lib.hid SvR.nil, Lib.hid (Below.refl _ _)⟩
  case round =>
    obtain ⟨k, l2, hk, rfl, hrow, hsl, hb⟩ := hrel
    by_cases hlt : k < n
    · have hkl : k < l.length := by rw [HL.out]; exact hlt
      have hbz : Below w1.heap.size w1 wr := by rw [HZ0.out]; exact hb.out
      obtain ⟨b, off, rfl, hbl, hit⟩ := (HS1.out.below hbz).at_ hlt hkl
      have hst : (l.take (k + 1)).map (rwMap (fun v => v.a)) = (l.take k).map (rwMap (fun v => v.a)) ++ [rwMap (fun v => v.a) l[k]] := by rw [List.take_succ_eq_append_getElem hkl, List.map_append]; rfl
      have htr := HT.out l[k] (List.getElem_mem hkl)
      obtain ⟨x, hx⟩ : ∃ x, l[k] = x := ⟨_, rfl⟩
      rw [hx] at hit hst htr
      have HSt := Lib.hid hst
      obtain ⟨c0, c1, c2, c3, c4, c5, c6, c7, c8, c9⟩ := Vt.tr_cells hit
      have bx := below1 wr #[.string x.key, .int .i64 x.val.a.node, .string x.val.a.id, .string x.val.a.name, .slice x.val.A x.val.n x.val.c, .int .i64 x.val.a.port, .int .u64 (x.val.jm : Int), .int .u64 (x.val.ji : Int), .int .u64 (x.made : Int), .int .u64 (x.ix : Int)] 132
      have kx := heap_alloc_new wr (.cells #[.string x.key, .int .i64 x.val.a.node, .string x.val.a.id, .string x.val.a.name, .slice x.val.A x.val.n x.val.c, .int .i64 x.val.a.port, .int .u64 (x.val.jm : Int), .int .u64 (x.val.ji : Int), .int .u64 (x.made : Int), .int .u64 (x.ix : Int)] 132)
      obtain ⟨W2, hW2⟩ : ∃ W2, wr.alloc (.cells #[.string x.key, .int .i64 x.val.a.node, .string x.val.a.id, .string x.val.a.name, .slice x.val.A x.val.n x.val.c, .int .i64 x.val.a.port, .int .u64 (x.val.jm : Int), .int .u64 (x.val.ji : Int), .int .u64 (x.made : Int), .int .u64 (x.ix : Int)] 132) = W2 := ⟨_, rfl⟩
      rw [hW2] at bx kx
      have hb2 : Below (Xk + 1) w1 W2 := hb.out.trans (bx.mono (by have := hb.out.size; have := HZ0.out; omega))
      have kk := (hb.out.block Xk (by omega)).trans HK0.out
      have d0 : wr.cell? ⟨Xk, 0, none⟩ = some (.func (.func 92) #[] #[]) := cellsN kk 0 _ rfl
      have lk := block_lt kk
      have lx := block_lt kx
      obtain ⟨X, hX⟩ : ∃ X, wr.heap.size = X := ⟨_, rfl⟩
      rw [hX] at lx
      have HTell := Lib.hid (tellService_any x W2 (htr.1.below (by rw [HZ0.out]; exact hb2)) (by have := htr.2; omega))
      have hsl2 := hsl.out.below bx
      have HSl2 := Lib.hid hsl2
      have HSz2 : Hid (X < W2.heap.size) := Lib.hid lx
      have HB2 := Lib.hid hb2
      have HRow := Lib.hid (hrow.out.below bx)
      have HX := Lib.hid hX
      have HW2 := Lib.hid hW2
      unfold Vt.trV at HTell
      clear hbz hit hst bx kx hb2 kk hX hW2 hx lx htr hsl2
      go_wp2_with fail
      rw [HW2.out, HX.out]
      clear c0 c1 c2 c3 c4 c5 c6 c7 c8 c9
      refine HTell.out.mono ?_
      rintro e W3 ⟨A3, c3, rfl, htx, hge, hb3⟩
      obtain ⟨y, hy⟩ : ∃ y : Rw SvW, (⟨x.key, { x.val with A := A3, c := c3 }, x.made, x.ix⟩ : Rw SvW) = y := ⟨_, rfl⟩
      have hy2 : rwMap (fun v => v.a) y = rwMap (fun v => v.a) x ∧ Tx W3 y.val.A y.val.n y.val.c y.val.a.tags ∧ ∀ b off, y.val.A = some ⟨b, off, none⟩ → X ≤ b := by rw [← hy]; exact ⟨rfl, htx, fun b off e => by have := hge b off e; have := HSz2.out; omega⟩
      have HY := Lib.hid hy2
      have HSl3 := Lib.hid (HSl2.out.below hb3)
      rw [hy]
      clear htx hy hy2 hge
      have HB3 : Hid (Below (Xk + 1) w1 W3) := Lib.hid (HB2.out.trans (hb3.mono (by have := HB2.out.size; have := HZ0.out; omega)))
      have HRow3 := Lib.hid (HRow.out.below hb3)
      have hle : (l.take k).length ≤ 64 := by rw [List.length_take]; omega
      have hl2 : l2.length ≤ 1000000 := by rw [hsl.out.svl.len, List.length_map]; omega
      unfold svV
      clear hb3 d0 lk
      go_wp2_with (at_builtin; refine wpList_append_svw rfl (.tmp 14) (.tmp 19) rfl (Xk + 1) _ l2 rfl ?qa W3.heap.size y rfl ?qb ?qd ?qc ?_)
      case qa => exact HRow3.out.below ((Below.refl _ _).alloc (Nat.le_refl _) _)
      case qb => exact sv_new W3 y _
      case qd => exact hl2
      case qc => have := HB3.out.size; have := HZ0.out; simp; omega
      refine Lib.hid ?_
      intro v4 W4 hown hgr hwh
      have HB4 := Lib.hid (svRow.snoc HRow3.out HB3.out (by have := HB3.out.size; have := HZ0.out; omega) hgr)
      have HR4 := Lib.hid hown
      have HSl4 : Hid (SvR W4 v4 (l2 ++ [y]) ((l.take (k + 1)).map (rwMap (fun v => v.a)))) := Lib.hid (by rw [HSt.out, ← HY.out.1]; exact HSl3.out.snoc HY.out.2.1 (fun b off e hn z => by have := HY.out.2.2 b off e; have := (HRow.out.from b z).2; have := (hrow.out.from b z).2; have := HX.out; omega) hgr (by simpa using hwh))
      clear hown hgr hwh
      go_wp2
      go_roundw
      case rel => exact ⟨k + 1, l2 ++ [y], by omega, by go_num, HR4, HSl4, HB4⟩
      case measure => simp [intOf]; omega
    · obtain rfl : k = n := by omega
      have ht : l.take k = l := List.take_of_length_le (by rw [HL.out]; omega)
      rw [ht] at hsl
      go_wp2
      go_ret
      obtain ⟨A2, c2, rfl, h1, h2, h3, h4⟩ := SK.of_row svC_len hrow.out
      exact ⟨l2, ⟨A2, c2, rfl, h1, h2, h3, fun b off e => by have := h4 b off e; have := HXk.out; omega, HB0.out.trans (hb.out.mono (by have := HXk.out; omega))⟩, hsl.out.svl⟩
end Go.Proofs.YtilkbfmaofmjoaaGreatDoor
namespace Go.Proofs.YtilkbfmaofmjoaaGreatDoor
open Go.RowKit Go.Rel
set_option linter.unusedSimpArgs false
set_option linter.unusedVariables false
def rwCnE (X1 : Nat) (X2 : Nat) (x : Rw NdA) (k : ByteArray) : Nat → Value
  | 0 => .pointer (some ⟨X1, 0, none⟩)
  | 1 => .int .i64 x.val.node
  | 2 => .string k
  | 3 => .agg #[.int .i64 x.val.node, .string x.val.addr, .int .u64 (x.made : Int), .int .u64 (x.ix : Int)]
  | 4 => .pointer (some ⟨X1, 2, none⟩)
  | 5 => .int .u64 (x.made : Int)
  | 6 => .pointer (some ⟨X1, 3, none⟩)
  | 7 => .int .u64 (x.ix : Int)
  | 8 => .agg #[.string k, .int .i64 x.val.node, .string x.val.addr, .int .u64 (x.made : Int), .int .u64 (x.ix : Int), .int .u64 (x.made : Int), .int .u64 (x.ix : Int)]
  | _ => undef
set_option maxHeartbeats 4000000 in
set_option maxRecDepth 100000 in
theorem rowNode_any (x : Rw NdA) (w : World) (hd : -9223372036854775808 ≤ x.val.node ∧ x.val.node ≤ 9223372036854775807) (hs : (noT : ByteArray).size ≤ 140737488355328) (hp : PwIs w) : Calls Tryz.prog 89 #[ndV x] w fun e w' => e = .returned (Nt.trV (⟨x.val.key, ⟨x.val, x.made, x.ix⟩, x.made, x.ix⟩ : Rw NdW)) ∧ Below w.heap.size w w' := by
  have HKey := Lib.hid (fun W (hW : PwIs W) => rkey_any x.val.node noT W hd hs hW)
  have HPw := Lib.hid hp
  obtain ⟨k, hk⟩ : ∃ k, keyO x.val.node noT = k := ⟨_, rfl⟩
  rw [hk] at HKey
  have HKe := Lib.hid hk
  unfold ndV
  clear hp hd hs hk
  go_enter Tryz.func89, Tryz.ntmps89
  go_wp2
  obtain ⟨X1, hX1⟩ : ∃ X1, w.heap.size = X1 := ⟨_, rfl⟩
  have b2 := ((Below.refl _ w).alloc (Nat.le_refl _) (.cells #[.int .i64 x.val.node, .string x.val.addr, .int .u64 (x.made : Int), .int .u64 (x.ix : Int)] TNd)).alloc (by simp) (.cells #[Value.string ⟨#[]⟩, (.int .i64 0 : Value), (.string ⟨#[]⟩ : Value), (.int .u64 0 : Value), (.int .u64 0 : Value), Value.int .u64 0, Value.int .u64 0] 130)
  have k1 := (Below.heap_alloc (w.alloc (.cells #[.int .i64 x.val.node, .string x.val.addr, .int .u64 (x.made : Int), .int .u64 (x.ix : Int)] TNd)) (.cells #[Value.string ⟨#[]⟩, (.int .i64 0 : Value), (.string ⟨#[]⟩ : Value), (.int .u64 0 : Value), (.int .u64 0 : Value), Value.int .u64 0, Value.int .u64 0] 130) w.heap.size (by simp)).trans (heap_alloc_new w (.cells #[.int .i64 x.val.node, .string x.val.addr, .int .u64 (x.made : Int), .int .u64 (x.ix : Int)] TNd))
  have k2 := heap_alloc_new (w.alloc (.cells #[.int .i64 x.val.node, .string x.val.addr, .int .u64 (x.made : Int), .int .u64 (x.ix : Int)] TNd)) (.cells #[Value.string ⟨#[]⟩, (.int .i64 0 : Value), (.string ⟨#[]⟩ : Value), (.int .u64 0 : Value), (.int .u64 0 : Value), Value.int .u64 0, Value.int .u64 0] 130)
  have hz : (w.alloc (.cells #[.int .i64 x.val.node, .string x.val.addr, .int .u64 (x.made : Int), .int .u64 (x.ix : Int)] TNd)).heap.size = w.heap.size + 1 := by simp
  rw [hz] at k2
  obtain ⟨W0, hW0⟩ : ∃ W0, (w.alloc (.cells #[.int .i64 x.val.node, .string x.val.addr, .int .u64 (x.made : Int), .int .u64 (x.ix : Int)] TNd)).alloc (.cells #[Value.string ⟨#[]⟩, (.int .i64 0 : Value), (.string ⟨#[]⟩ : Value), (.int .u64 0 : Value), (.int .u64 0 : Value), Value.int .u64 0, Value.int .u64 0] 130) = W0 := ⟨_, rfl⟩
  rw [hW0] at b2 k1 k2 ⊢
  rw [hX1] at k1 k2 ⊢
  obtain ⟨X2, hX2⟩ : ∃ X2, X1 + 1 = X2 := ⟨_, rfl⟩
  rw [hX2] at k2 ⊢
  have HB : Hid (Below w.heap.size w W0) := Lib.hid b2
  have HK1 := Lib.hid k1
  have HK2 := Lib.hid k2
  have HL1 := Lib.hid (block_lt k1)
  have HL2 := Lib.hid (block_lt k2)
  have HM2 : Hid (∀ k, k = X2 → k < W0.heap.size) := Lib.hid fun k e => by rw [e]; exact block_lt k2
  have HKey := Lib.hid (fun W (hW : Below W0.heap.size W0 W) => HKey.out W ((HPw.out.below HB.out).below hW))
  have HXX : Hid (w.heap.size = X1 ∧ X1 + 1 = X2) := Lib.hid ⟨hX1, hX2⟩
  clear k1 k2 hX1 hX2 hz hW0 b2
  have hre : ∀ w : World, (But (OldB W0)) w w := (fun w => But.refl _ w)
  have hrd : ∀ (f : Nat → Bool) w i, i ≠ 9 → (TI 9 W0 (fun w => w.heap[X2]? = some (.cells #[.string k, .int .i64 x.val.node, .string x.val.addr, .int .u64 (x.made : Int), .int .u64 (x.ix : Int), .int .u64 (x.made : Int), .int .u64 (x.ix : Int)] 130 (0, 0)) ∧ But (· = X2) W0 w)) f w → (TI 9 W0 (fun w => w.heap[X2]? = some (.cells #[.string k, .int .i64 x.val.node, .string x.val.addr, .int .u64 (x.made : Int), .int .u64 (x.ix : Int), .int .u64 (x.made : Int), .int .u64 (x.ix : Int)] 130 (0, 0)) ∧ But (· = X2) W0 w)) (Go.Rel.upd f i) w := (fun _ _ _ hi h => h.read hi)
  refine Go.Rel.wp_tab (by kernel_rfl) (by kernel_rfl) (TI 9 W0 (fun w => w.heap[X2]? = some (.cells #[.string k, .int .i64 x.val.node, .string x.val.addr, .int .u64 (x.made : Int), .int .u64 (x.ix : Int), .int .u64 (x.made : Int), .int .u64 (x.ix : Int)] 130 (0, 0)) ∧ But (· = X2) W0 w)) (But (OldB W0)) hre ((fun _ _ _ h k => h.trans k)) (OldB.drew) TI.start (rwCnE X1 X2 x k) (fun _ _ _ => True) (fun i => ([] : List Nat).contains i) (fun i => ([1, 2, 3, 5, 7, 9] : List Nat).contains i) (by kernel_rfl) (fun _ _ _ _ h _ => h) 9 rfl hrd ?_ (Go.Rel.AllOf.get ?_) ?_
  · repeat (refine .cons (by first | exact Go.Rel.pure_sp rfl | exact Go.Rel.pure_yes (by kernel_rfl) (fun _ => by kernel_rfl) | exact Go.Rel.pure_no (by kernel_rfl) rfl) ?_)
    exact .nil
  · refine ⟨?_, ?_, ?_, ?_, ?_, ?_, trivial⟩
    · exact SpecOk.ld hrd hre (q := .pointer (some ⟨X1, 0, none⟩)) (h := fun _ w' hI _ hdesc _ _ => by have cc := nd_blk (((hI.ahead (hdesc 60 9 (by kernel_rfl))).block X1 HL1.out).trans HK1.out); go_simp; rfl)
    · refine SpecOk.gen (fun e => [(4, .int .i64 x.val.node)]) rfl rfl (fun _ => by kernel_rfl) fun f w' e hI hf hdesc hanc hle hX K hK => ?_
      go_simp
      have zL : f 9 = false := hdesc 60 9 (by kernel_rfl)
      refine (HKey.out w' (hI.ahead zL)).mono ?_
      rintro e w2 ⟨rfl, hb9⟩
      exact hK _ _ (But.of_below hb9) (hI.below zL hb9 (by decide)) rfl
    · exact SpecOk.ld hrd hre (q := .pointer (some ⟨X1, 0, none⟩)) (h := fun _ w' hI _ hdesc _ _ => by have cc := nd_blk (((hI.ahead (hdesc 60 9 (by kernel_rfl))).block X1 HL1.out).trans HK1.out); go_simp; rfl)
    · exact SpecOk.ld hrd hre (q := .pointer (some ⟨X1, 2, none⟩)) (h := fun _ w' hI _ hdesc _ _ => by have cc := nd_blk (((hI.ahead (hdesc 60 9 (by kernel_rfl))).block X1 HL1.out).trans HK1.out); go_simp; rfl)
    · exact SpecOk.ld hrd hre (q := .pointer (some ⟨X1, 3, none⟩)) (h := fun _ w' hI _ hdesc _ _ => by have cc := nd_blk (((hI.ahead (hdesc 60 9 (by kernel_rfl))).block X1 HL1.out).trans HK1.out); go_simp; rfl)
    · refine SpecOk.gen (fun e => [(2, .pointer (some ⟨X2, 0, none⟩)), (11, .agg #[.string k, .int .i64 x.val.node, .string x.val.addr, .int .u64 (x.made : Int), .int .u64 (x.ix : Int), .int .u64 (x.made : Int), .int .u64 (x.ix : Int)])]) rfl rfl (fun _ => by kernel_rfl) fun f w' e hI hf hdesc hanc hle hX K hK => ?_
      have k2 := ((hI.ahead hf).block X2 HL2.out).trans HK2.out
      have d := Nt.blk k2
      have zz := Nt.frz k2
      have lx := block_lt k2
      go_simp
      exact hK undef _ (But.oldB (but_setL X2 [.string k, .int .i64 x.val.node, .string x.val.addr, .int .u64 (x.made : Int), .int .u64 (x.ix : Int), .int .u64 (x.made : Int), .int .u64 (x.ix : Int)] 0 w') HM2.out) (TI.last ⟨setL_all k2 [.string k, .int .i64 x.val.node, .string x.val.addr, .int .u64 (x.made : Int), .int .u64 (x.ix : Int), .int .u64 (x.made : Int), .int .u64 (x.ix : Int)] rfl, (But.of_below (hI.ahead hf)).trans (but_setL X2 [.string k, .int .i64 x.val.node, .string x.val.addr, .int .u64 (x.made : Int), .int .u64 (x.ix : Int), .int .u64 (x.made : Int), .int .u64 (x.ix : Int)] 0 w')⟩) rfl
  · intro f w2 e hall hJ hle hv
    obtain ⟨hx, hbx⟩ := hJ.done_ (hall 9 (by decide))
    simp only [Go.Rel.finL, List.setIfInBounds_toArray, List.set_cons_succ, List.set_cons_zero]
    obtain ⟨q0, q1, q2, q3, q4, q5, q6⟩ := Nt.blk hx
    clear hv hall hle hJ
    go_wp2
    refine bodyPost_ret (v := .agg #[.string k, .int .i64 x.val.node, .string x.val.addr, .int .u64 (x.made : Int), .int .u64 (x.ix : Int), .int .u64 (x.made : Int), .int .u64 (x.ix : Int)]) (by simp [results, Tryz.results89, go_sem, q0, q1, q2, q3, q4, q5, q6]) rfl ⟨by rw [← HKe.out]; rfl, HB.out.trans (hbx.below (by have := HB.out.size; omega) fun k hk e => by have := HXX.out; omega)⟩
end Go.Proofs.YtilkbfmaofmjoaaGreatDoor
namespace Go.Proofs.YtilkbfmaofmjoaaGreatDoor
open Go.RowKit Go.Rel
set_option linter.unusedSimpArgs false
set_option linter.unusedVariables false
def rwCcE (X1 : Nat) (X2 : Nat) (x : Rw CkA) (k : ByteArray) : Nat → Value
  | 0 => .pointer (some ⟨X1, 0, none⟩)
  | 1 => .int .i64 x.val.node
  | 2 => .pointer (some ⟨X1, 1, none⟩)
  | 3 => .string x.val.id
  | 4 => .string k
  | 5 => .agg #[.int .i64 x.val.node, .string x.val.id, .string x.val.svc, .string x.val.note, .int .i64 x.val.status, .int .u64 (x.made : Int), .int .u64 (x.ix : Int)]
  | 6 => .pointer (some ⟨X1, 5, none⟩)
  | 7 => .int .u64 (x.made : Int)
  | 8 => .pointer (some ⟨X1, 6, none⟩)
  | 9 => .int .u64 (x.ix : Int)
  | 10 => .agg #[.string k, .int .i64 x.val.node, .string x.val.id, .string x.val.svc, .string x.val.note, .int .i64 x.val.status, .int .u64 (x.made : Int), .int .u64 (x.ix : Int), .int .u64 (x.made : Int), .int .u64 (x.ix : Int)]
  | _ => undef
set_option maxHeartbeats 4000000 in
set_option maxRecDepth 100000 in
theorem rowCheck_any (x : Rw CkA) (w : World) (hd : -9223372036854775808 ≤ x.val.node ∧ x.val.node ≤ 9223372036854775807) (hs : (x.val.id : ByteArray).size ≤ 140737488355328) (hp : PwIs w) : Calls Tryz.prog 97 #[ckV x] w fun e w' => e = .returned (Ct.trV (⟨x.val.key, ⟨x.val, x.made, x.ix⟩, x.made, x.ix⟩ : Rw CkW)) ∧ Below w.heap.size w w' := by
  have HKey := Lib.hid (fun W (hW : PwIs W) => rkey_any x.val.node x.val.id W hd hs hW)
  have HPw := Lib.hid hp
  obtain ⟨k, hk⟩ : ∃ k, keyO x.val.node x.val.id = k := ⟨_, rfl⟩
  rw [hk] at HKey
  have HKe := Lib.hid hk
  unfold ckV
  clear hp hd hs hk
  go_enter Tryz.func97, Tryz.ntmps97
  go_wp2
  obtain ⟨X1, hX1⟩ : ∃ X1, w.heap.size = X1 := ⟨_, rfl⟩
  have b2 := ((Below.refl _ w).alloc (Nat.le_refl _) (.cells #[.int .i64 x.val.node, .string x.val.id, .string x.val.svc, .string x.val.note, .int .i64 x.val.status, .int .u64 (x.made : Int), .int .u64 (x.ix : Int)] TCk)).alloc (by simp) (.cells #[Value.string ⟨#[]⟩, (.int .i64 0 : Value), (.string ⟨#[]⟩ : Value), (.string ⟨#[]⟩ : Value), (.string ⟨#[]⟩ : Value), (.int .i64 0 : Value), (.int .u64 0 : Value), (.int .u64 0 : Value), Value.int .u64 0, Value.int .u64 0] 120)
  have k1 := (Below.heap_alloc (w.alloc (.cells #[.int .i64 x.val.node, .string x.val.id, .string x.val.svc, .string x.val.note, .int .i64 x.val.status, .int .u64 (x.made : Int), .int .u64 (x.ix : Int)] TCk)) (.cells #[Value.string ⟨#[]⟩, (.int .i64 0 : Value), (.string ⟨#[]⟩ : Value), (.string ⟨#[]⟩ : Value), (.string ⟨#[]⟩ : Value), (.int .i64 0 : Value), (.int .u64 0 : Value), (.int .u64 0 : Value), Value.int .u64 0, Value.int .u64 0] 120) w.heap.size (by simp)).trans (heap_alloc_new w (.cells #[.int .i64 x.val.node, .string x.val.id, .string x.val.svc, .string x.val.note, .int .i64 x.val.status, .int .u64 (x.made : Int), .int .u64 (x.ix : Int)] TCk))
  have k2 := heap_alloc_new (w.alloc (.cells #[.int .i64 x.val.node, .string x.val.id, .string x.val.svc, .string x.val.note, .int .i64 x.val.status, .int .u64 (x.made : Int), .int .u64 (x.ix : Int)] TCk)) (.cells #[Value.string ⟨#[]⟩, (.int .i64 0 : Value), (.string ⟨#[]⟩ : Value), (.string ⟨#[]⟩ : Value), (.string ⟨#[]⟩ : Value), (.int .i64 0 : Value), (.int .u64 0 : Value), (.int .u64 0 : Value), Value.int .u64 0, Value.int .u64 0] 120)
  have hz : (w.alloc (.cells #[.int .i64 x.val.node, .string x.val.id, .string x.val.svc, .string x.val.note, .int .i64 x.val.status, .int .u64 (x.made : Int), .int .u64 (x.ix : Int)] TCk)).heap.size = w.heap.size + 1 := by simp
  rw [hz] at k2
  obtain ⟨W0, hW0⟩ : ∃ W0, (w.alloc (.cells #[.int .i64 x.val.node, .string x.val.id, .string x.val.svc, .string x.val.note, .int .i64 x.val.status, .int .u64 (x.made : Int), .int .u64 (x.ix : Int)] TCk)).alloc (.cells #[Value.string ⟨#[]⟩, (.int .i64 0 : Value), (.string ⟨#[]⟩ : Value), (.string ⟨#[]⟩ : Value), (.string ⟨#[]⟩ : Value), (.int .i64 0 : Value), (.int .u64 0 : Value), (.int .u64 0 : Value), Value.int .u64 0, Value.int .u64 0] 120) = W0 := ⟨_, rfl⟩
  rw [hW0] at b2 k1 k2 ⊢
  rw [hX1] at k1 k2 ⊢
  obtain ⟨X2, hX2⟩ : ∃ X2, X1 + 1 = X2 := ⟨_, rfl⟩
  rw [hX2] at k2 ⊢
  have HB : Hid (Below w.heap.size w W0) := Lib.hid b2
  have HK1 := Lib.hid k1
  have HK2 := Lib.hid k2
  have HL1 := Lib.hid (block_lt k1)
  have HL2 := Lib.hid (block_lt k2)
  have HM2 : Hid (∀ k, k = X2 → k < W0.heap.size) := Lib.hid fun k e => by rw [e]; exact block_lt k2
  have HKey := Lib.hid (fun W (hW : Below W0.heap.size W0 W) => HKey.out W ((HPw.out.below HB.out).below hW))
  have HXX : Hid (w.heap.size = X1 ∧ X1 + 1 = X2) := Lib.hid ⟨hX1, hX2⟩
  clear k1 k2 hX1 hX2 hz hW0 b2
  have hre : ∀ w : World, (But (OldB W0)) w w := (fun w => But.refl _ w)
  have hrd : ∀ (f : Nat → Bool) w i, i ≠ 11 → (TI 11 W0 (fun w => w.heap[X2]? = some (.cells #[.string k, .int .i64 x.val.node, .string x.val.id, .string x.val.svc, .string x.val.note, .int .i64 x.val.status, .int .u64 (x.made : Int), .int .u64 (x.ix : Int), .int .u64 (x.made : Int), .int .u64 (x.ix : Int)] 120 (0, 0)) ∧ But (· = X2) W0 w)) f w → (TI 11 W0 (fun w => w.heap[X2]? = some (.cells #[.string k, .int .i64 x.val.node, .string x.val.id, .string x.val.svc, .string x.val.note, .int .i64 x.val.status, .int .u64 (x.made : Int), .int .u64 (x.ix : Int), .int .u64 (x.made : Int), .int .u64 (x.ix : Int)] 120 (0, 0)) ∧ But (· = X2) W0 w)) (Go.Rel.upd f i) w := (fun _ _ _ hi h => h.read hi)
  refine Go.Rel.wp_tab (by kernel_rfl) (by kernel_rfl) (TI 11 W0 (fun w => w.heap[X2]? = some (.cells #[.string k, .int .i64 x.val.node, .string x.val.id, .string x.val.svc, .string x.val.note, .int .i64 x.val.status, .int .u64 (x.made : Int), .int .u64 (x.ix : Int), .int .u64 (x.made : Int), .int .u64 (x.ix : Int)] 120 (0, 0)) ∧ But (· = X2) W0 w)) (But (OldB W0)) hre ((fun _ _ _ h k => h.trans k)) (OldB.drew) TI.start (rwCcE X1 X2 x k) (fun _ _ _ => True) (fun i => ([] : List Nat).contains i) (fun i => ([1, 3, 4, 5, 7, 9, 11] : List Nat).contains i) (by kernel_rfl) (fun _ _ _ _ h _ => h) 11 rfl hrd ?_ (Go.Rel.AllOf.get ?_) ?_
  · repeat (refine .cons (by first | exact Go.Rel.pure_sp rfl | exact Go.Rel.pure_yes (by kernel_rfl) (fun _ => by kernel_rfl) | exact Go.Rel.pure_no (by kernel_rfl) rfl) ?_)
    exact .nil
  · refine ⟨?_, ?_, ?_, ?_, ?_, ?_, ?_, trivial⟩
    · exact SpecOk.ld hrd hre (q := .pointer (some ⟨X1, 0, none⟩)) (h := fun _ w' hI _ hdesc _ _ => by have cc := ck_blk (((hI.ahead (hdesc 60 11 (by kernel_rfl))).block X1 HL1.out).trans HK1.out); go_simp; rfl)
    · exact SpecOk.ld hrd hre (q := .pointer (some ⟨X1, 1, none⟩)) (h := fun _ w' hI _ hdesc _ _ => by have cc := ck_blk (((hI.ahead (hdesc 60 11 (by kernel_rfl))).block X1 HL1.out).trans HK1.out); go_simp; rfl)
    · refine SpecOk.gen (fun e => [(4, .int .i64 x.val.node), (6, .string x.val.id)]) rfl rfl (fun _ => by kernel_rfl) fun f w' e hI hf hdesc hanc hle hX K hK => ?_
      go_simp
      have zL : f 11 = false := hdesc 60 11 (by kernel_rfl)
      refine (HKey.out w' (hI.ahead zL)).mono ?_
      rintro e w2 ⟨rfl, hb9⟩
      exact hK _ _ (But.of_below hb9) (hI.below zL hb9 (by decide)) rfl
    · exact SpecOk.ld hrd hre (q := .pointer (some ⟨X1, 0, none⟩)) (h := fun _ w' hI _ hdesc _ _ => by have cc := ck_blk (((hI.ahead (hdesc 60 11 (by kernel_rfl))).block X1 HL1.out).trans HK1.out); go_simp; rfl)
    · exact SpecOk.ld hrd hre (q := .pointer (some ⟨X1, 5, none⟩)) (h := fun _ w' hI _ hdesc _ _ => by have cc := ck_blk (((hI.ahead (hdesc 60 11 (by kernel_rfl))).block X1 HL1.out).trans HK1.out); go_simp; rfl)
    · exact SpecOk.ld hrd hre (q := .pointer (some ⟨X1, 6, none⟩)) (h := fun _ w' hI _ hdesc _ _ => by have cc := ck_blk (((hI.ahead (hdesc 60 11 (by kernel_rfl))).block X1 HL1.out).trans HK1.out); go_simp; rfl)
    · refine SpecOk.gen (fun e => [(2, .pointer (some ⟨X2, 0, none⟩)), (13, .agg #[.string k, .int .i64 x.val.node, .string x.val.id, .string x.val.svc, .string x.val.note, .int .i64 x.val.status, .int .u64 (x.made : Int), .int .u64 (x.ix : Int), .int .u64 (x.made : Int), .int .u64 (x.ix : Int)])]) rfl rfl (fun _ => by kernel_rfl) fun f w' e hI hf hdesc hanc hle hX K hK => ?_
      have k2 := ((hI.ahead hf).block X2 HL2.out).trans HK2.out
      have d := Ct.blk k2
      have zz := Ct.frz k2
      have lx := block_lt k2
      go_simp
      exact hK undef _ (But.oldB (but_setL X2 [.string k, .int .i64 x.val.node, .string x.val.id, .string x.val.svc, .string x.val.note, .int .i64 x.val.status, .int .u64 (x.made : Int), .int .u64 (x.ix : Int), .int .u64 (x.made : Int), .int .u64 (x.ix : Int)] 0 w') HM2.out) (TI.last ⟨setL_all k2 [.string k, .int .i64 x.val.node, .string x.val.id, .string x.val.svc, .string x.val.note, .int .i64 x.val.status, .int .u64 (x.made : Int), .int .u64 (x.ix : Int), .int .u64 (x.made : Int), .int .u64 (x.ix : Int)] rfl, (But.of_below (hI.ahead hf)).trans (but_setL X2 [.string k, .int .i64 x.val.node, .string x.val.id, .string x.val.svc, .string x.val.note, .int .i64 x.val.status, .int .u64 (x.made : Int), .int .u64 (x.ix : Int), .int .u64 (x.made : Int), .int .u64 (x.ix : Int)] 0 w')⟩) rfl
  · intro f w2 e hall hJ hle hv
    obtain ⟨hx, hbx⟩ := hJ.done_ (hall 11 (by decide))
    simp only [Go.Rel.finL, List.setIfInBounds_toArray, List.set_cons_succ, List.set_cons_zero]
    obtain ⟨q0, q1, q2, q3, q4, q5, q6, q7, q8, q9⟩ := Ct.blk hx
    clear hv hall hle hJ
    go_wp2
    refine bodyPost_ret (v := .agg #[.string k, .int .i64 x.val.node, .string x.val.id, .string x.val.svc, .string x.val.note, .int .i64 x.val.status, .int .u64 (x.made : Int), .int .u64 (x.ix : Int), .int .u64 (x.made : Int), .int .u64 (x.ix : Int)]) (by simp [results, Tryz.results97, go_sem, q0, q1, q2, q3, q4, q5, q6, q7, q8, q9]) rfl ⟨by rw [← HKe.out]; rfl, HB.out.trans (hbx.below (by have := HB.out.size; omega) fun k hk e => by have := HXX.out; omega)⟩
end Go.Proofs.YtilkbfmaofmjoaaGreatDoor
namespace Go.Proofs.YtilkbfmaofmjoaaGreatDoor
open Go.RowKit Go.Rel
set_option linter.unusedSimpArgs false
set_option linter.unusedVariables false
def rwCvE (X1 : Nat) (X2 : Nat) (x : Rw SvW) (k : ByteArray) (A : Option Addr) (c : Nat) : Nat → Value
  | 0 => .pointer (some ⟨X1, 0, none⟩)
  | 1 => .int .i64 x.val.a.node
  | 2 => .pointer (some ⟨X1, 1, none⟩)
  | 3 => .string x.val.a.id
  | 4 => .string k
  | 5 => .agg #[.int .i64 x.val.a.node, .string x.val.a.id, .string x.val.a.name, .slice A x.val.n c, .int .i64 x.val.a.port, .int .u64 (x.made : Int), .int .u64 (x.ix : Int)]
  | 6 => .pointer (some ⟨X1, 5, none⟩)
  | 7 => .int .u64 (x.made : Int)
  | 8 => .pointer (some ⟨X1, 6, none⟩)
  | 9 => .int .u64 (x.ix : Int)
  | 10 => .agg #[.string k, .int .i64 x.val.a.node, .string x.val.a.id, .string x.val.a.name, .slice A x.val.n c, .int .i64 x.val.a.port, .int .u64 (x.made : Int), .int .u64 (x.ix : Int), .int .u64 (x.made : Int), .int .u64 (x.ix : Int)]
  | _ => undef
set_option maxHeartbeats 4000000 in
set_option maxRecDepth 100000 in
theorem rowService_any (x : Rw SvW) (w : World) (ht : Tx w x.val.A x.val.n x.val.c x.val.a.tags) (hn : x.val.n * 16 ≤ 140737488355328) (hd : -9223372036854775808 ≤ x.val.a.node ∧ x.val.a.node ≤ 9223372036854775807) (hs : (x.val.a.id : ByteArray).size ≤ 140737488355328) (hp : PwIs w) : Calls Tryz.prog 93 #[svV x] w fun e w' => ∃ A c, e = .returned (Vt.trV (⟨x.val.a.key, { x.val with A := A, c := c, jm := x.made, ji := x.ix }, x.made, x.ix⟩ : Rw SvW)) ∧ Tx w' A x.val.n c x.val.a.tags ∧ (∀ b off, A = some ⟨b, off, none⟩ → w.heap.size ≤ b) ∧ Below w.heap.size w w' := by
  have HKey := Lib.hid (fun W (hW : PwIs W) => rkey_any x.val.a.node x.val.a.id W hd hs hW)
  have HPw := Lib.hid hp
  obtain ⟨k, hk⟩ : ∃ k, keyO x.val.a.node x.val.a.id = k := ⟨_, rfl⟩
  rw [hk] at HKey
  have HKe := Lib.hid hk
  have HT := Lib.hid ht
  have HN := Lib.hid hn
  clear ht hn
  unfold svV
  clear hp hd hs hk
  go_enter Tryz.func93, Tryz.ntmps93
  go_wp2_with (at_builtin; refine wpList_append_tx rfl (.const (.slice none 0 0)) (.tmp 4) rfl rfl x.val.A x.val.n x.val.c x.val.a.tags rfl ?qa HN.out ?_)
  case qa => exact HT.out.below (((Below.refl _ w).alloc (Nat.le_refl _) _).alloc (by simp) _)
  refine Lib.hid ?_
  rintro v' W A c rfl htx hge hb
  have k1 := (hb.block w.heap.size (by omega)).trans ((Below.heap_alloc (w.alloc (.cells #[.int .i64 x.val.a.node, .string x.val.a.id, .string x.val.a.name, .slice x.val.A x.val.n x.val.c, .int .i64 x.val.a.port, .int .u64 (x.made : Int), .int .u64 (x.ix : Int)] TSv)) (.cells #[Value.string ⟨#[]⟩, (.int .i64 0 : Value), (.string ⟨#[]⟩ : Value), (.string ⟨#[]⟩ : Value), (.slice none 0 0 : Value), (.int .i64 0 : Value), (.int .u64 0 : Value), (.int .u64 0 : Value), Value.int .u64 0, Value.int .u64 0] 132) w.heap.size (by simp)).trans (heap_alloc_new w (.cells #[.int .i64 x.val.a.node, .string x.val.a.id, .string x.val.a.name, .slice x.val.A x.val.n x.val.c, .int .i64 x.val.a.port, .int .u64 (x.made : Int), .int .u64 (x.ix : Int)] TSv)))
  have k2 := heap_alloc_new (w.alloc (.cells #[.int .i64 x.val.a.node, .string x.val.a.id, .string x.val.a.name, .slice x.val.A x.val.n x.val.c, .int .i64 x.val.a.port, .int .u64 (x.made : Int), .int .u64 (x.ix : Int)] TSv)) (.cells #[Value.string ⟨#[]⟩, (.int .i64 0 : Value), (.string ⟨#[]⟩ : Value), (.string ⟨#[]⟩ : Value), (.slice none 0 0 : Value), (.int .i64 0 : Value), (.int .u64 0 : Value), (.int .u64 0 : Value), Value.int .u64 0, Value.int .u64 0] 132)
  have hz : (w.alloc (.cells #[.int .i64 x.val.a.node, .string x.val.a.id, .string x.val.a.name, .slice x.val.A x.val.n x.val.c, .int .i64 x.val.a.port, .int .u64 (x.made : Int), .int .u64 (x.ix : Int)] TSv)).heap.size = w.heap.size + 1 := by simp
  rw [hz] at k2
  have k2' := (hb.block (w.heap.size + 1) (by omega)).trans k2
  have b2 : Below w.heap.size w W := (((Below.refl _ w).alloc (Nat.le_refl _) _).alloc (by simp) _).trans (hb.mono (by omega))
  have HGe := Lib.hid hge
  have HTx := Lib.hid htx
  obtain ⟨X1, hX1⟩ : ∃ X1, w.heap.size = X1 := ⟨_, rfl⟩
  rw [hX1] at k1 k2' HGe b2 ⊢
  obtain ⟨X2, hX2⟩ : ∃ X2, X1 + 1 = X2 := ⟨_, rfl⟩
  rw [hX2] at k2' HGe ⊢
  clear hb hge htx k2 hz
  have d := sv_blk k1
  have z3 := blk_froz k1 3
  have l1 := block_lt k1
  have HX1 := Lib.hid hX1
  have HX2 := Lib.hid hX2
  clear hX1 hX2
  go_wp2
  have m1 := block_set k1 3 (.slice A x.val.n c)
  have hb3 := But.set (S := (· = X1)) W (p := ⟨X1, 3, none⟩) rfl (.slice A x.val.n c)
  have m2 := (hb3.block X2 (block_lt k2') (by have := HX2.out; omega)).trans k2'
  obtain ⟨W0, hW0⟩ : ∃ W0, W.setCell ⟨X1, 3, none⟩ (.slice A x.val.n c) = W0 := ⟨_, rfl⟩
  rw [hW0] at m1 hb3 m2 ⊢
  have HT2 : Hid (Tx W0 A x.val.n c x.val.a.tags) := Lib.hid ⟨HTx.out.row.but hb3 (fun b off e hn z => by have := HGe.out b off e; have := HX2.out; omega), HTx.out.le, HTx.out.max, HTx.out.nil⟩
  have b3 : Below w.heap.size w W0 := by rw [HX1.out]; exact b2.trans (hb3.below (by have := b2.size; have := HX1.out; omega) fun k hk e => by omega)
  have k1 : W0.heap[X1]? = some (.cells #[.int .i64 x.val.a.node, .string x.val.a.id, .string x.val.a.name, .slice A x.val.n c, .int .i64 x.val.a.port, .int .u64 (x.made : Int), .int .u64 (x.ix : Int)] TSv (0, 0)) := m1
  have k2 := m2
  have hX1 := HX1.out
  have hX2 := HX2.out
  clear d z3 l1 hW0
  have HB : Hid (Below w.heap.size w W0) := Lib.hid b3
  have HK1 := Lib.hid k1
  have HK2 := Lib.hid k2
  have HL1 := Lib.hid (block_lt k1)
  have HL2 := Lib.hid (block_lt k2)
  have HM2 : Hid (∀ k, k = X2 → k < W0.heap.size) := Lib.hid fun k e => by rw [e]; exact block_lt k2
  have HKey := Lib.hid (fun W (hW : Below W0.heap.size W0 W) => HKey.out W ((HPw.out.below HB.out).below hW))
  have HXX : Hid (w.heap.size = X1 ∧ X1 + 1 = X2) := Lib.hid ⟨hX1, hX2⟩
  clear k1 k2 hX1 hX2 b2 b3 m1 m2 hb3 k2'
  have hre : ∀ w : World, (But (OldB W0)) w w := (fun w => But.refl _ w)
  have hrd : ∀ (f : Nat → Bool) w i, i ≠ 11 → (TI 11 W0 (fun w => w.heap[X2]? = some (.cells #[.string k, .int .i64 x.val.a.node, .string x.val.a.id, .string x.val.a.name, .slice A x.val.n c, .int .i64 x.val.a.port, .int .u64 (x.made : Int), .int .u64 (x.ix : Int), .int .u64 (x.made : Int), .int .u64 (x.ix : Int)] 132 (0, 0)) ∧ But (· = X2) W0 w)) f w → (TI 11 W0 (fun w => w.heap[X2]? = some (.cells #[.string k, .int .i64 x.val.a.node, .string x.val.a.id, .string x.val.a.name, .slice A x.val.n c, .int .i64 x.val.a.port, .int .u64 (x.made : Int), .int .u64 (x.ix : Int), .int .u64 (x.made : Int), .int .u64 (x.ix : Int)] 132 (0, 0)) ∧ But (· = X2) W0 w)) (Go.Rel.upd f i) w := (fun _ _ _ hi h => h.read hi)
  refine Go.Rel.wp_tab (by kernel_rfl) (by kernel_rfl) (TI 11 W0 (fun w => w.heap[X2]? = some (.cells #[.string k, .int .i64 x.val.a.node, .string x.val.a.id, .string x.val.a.name, .slice A x.val.n c, .int .i64 x.val.a.port, .int .u64 (x.made : Int), .int .u64 (x.ix : Int), .int .u64 (x.made : Int), .int .u64 (x.ix : Int)] 132 (0, 0)) ∧ But (· = X2) W0 w)) (But (OldB W0)) hre ((fun _ _ _ h k => h.trans k)) (OldB.drew) TI.start (rwCvE X1 X2 x k A c) (fun _ _ _ => True) (fun i => ([] : List Nat).contains i) (fun i => ([1, 3, 4, 5, 7, 9, 11] : List Nat).contains i) (by kernel_rfl) (fun _ _ _ _ h _ => h) 11 rfl hrd ?_ (Go.Rel.AllOf.get ?_) ?_
  · repeat (refine .cons (by first | exact Go.Rel.pure_sp rfl | exact Go.Rel.pure_yes (by kernel_rfl) (fun _ => by kernel_rfl) | exact Go.Rel.pure_no (by kernel_rfl) rfl) ?_)
    exact .nil
  · refine ⟨?_, ?_, ?_, ?_, ?_, ?_, ?_, trivial⟩
    · exact SpecOk.ld hrd hre (q := .pointer (some ⟨X1, 0, none⟩)) (h := fun _ w' hI _ hdesc _ _ => by have cc := sv_blk (((hI.ahead (hdesc 60 11 (by kernel_rfl))).block X1 HL1.out).trans HK1.out); go_simp; rfl)
    · exact SpecOk.ld hrd hre (q := .pointer (some ⟨X1, 1, none⟩)) (h := fun _ w' hI _ hdesc _ _ => by have cc := sv_blk (((hI.ahead (hdesc 60 11 (by kernel_rfl))).block X1 HL1.out).trans HK1.out); go_simp; rfl)
    · refine SpecOk.gen (fun e => [(8, .int .i64 x.val.a.node), (10, .string x.val.a.id)]) rfl rfl (fun _ => by kernel_rfl) fun f w' e hI hf hdesc hanc hle hX K hK => ?_
      go_simp
      have zL : f 11 = false := hdesc 60 11 (by kernel_rfl)
      refine (HKey.out w' (hI.ahead zL)).mono ?_
      rintro e w2 ⟨rfl, hb9⟩
      exact hK _ _ (But.of_below hb9) (hI.below zL hb9 (by decide)) rfl
    · exact SpecOk.ld hrd hre (q := .pointer (some ⟨X1, 0, none⟩)) (h := fun _ w' hI _ hdesc _ _ => by have cc := sv_blk (((hI.ahead (hdesc 60 11 (by kernel_rfl))).block X1 HL1.out).trans HK1.out); go_simp; rfl)
    · exact SpecOk.ld hrd hre (q := .pointer (some ⟨X1, 5, none⟩)) (h := fun _ w' hI _ hdesc _ _ => by have cc := sv_blk (((hI.ahead (hdesc 60 11 (by kernel_rfl))).block X1 HL1.out).trans HK1.out); go_simp; rfl)
    · exact SpecOk.ld hrd hre (q := .pointer (some ⟨X1, 6, none⟩)) (h := fun _ w' hI _ hdesc _ _ => by have cc := sv_blk (((hI.ahead (hdesc 60 11 (by kernel_rfl))).block X1 HL1.out).trans HK1.out); go_simp; rfl)
    · refine SpecOk.gen (fun e => [(2, .pointer (some ⟨X2, 0, none⟩)), (17, .agg #[.string k, .int .i64 x.val.a.node, .string x.val.a.id, .string x.val.a.name, .slice A x.val.n c, .int .i64 x.val.a.port, .int .u64 (x.made : Int), .int .u64 (x.ix : Int), .int .u64 (x.made : Int), .int .u64 (x.ix : Int)])]) rfl rfl (fun _ => by kernel_rfl) fun f w' e hI hf hdesc hanc hle hX K hK => ?_
      have k2 := ((hI.ahead hf).block X2 HL2.out).trans HK2.out
      have d := Vt.blk k2
      have zz := Vt.frz k2
      have lx := block_lt k2
      go_simp
      exact hK undef _ (But.oldB (but_setL X2 [.string k, .int .i64 x.val.a.node, .string x.val.a.id, .string x.val.a.name, .slice A x.val.n c, .int .i64 x.val.a.port, .int .u64 (x.made : Int), .int .u64 (x.ix : Int), .int .u64 (x.made : Int), .int .u64 (x.ix : Int)] 0 w') HM2.out) (TI.last ⟨setL_all k2 [.string k, .int .i64 x.val.a.node, .string x.val.a.id, .string x.val.a.name, .slice A x.val.n c, .int .i64 x.val.a.port, .int .u64 (x.made : Int), .int .u64 (x.ix : Int), .int .u64 (x.made : Int), .int .u64 (x.ix : Int)] rfl, (But.of_below (hI.ahead hf)).trans (but_setL X2 [.string k, .int .i64 x.val.a.node, .string x.val.a.id, .string x.val.a.name, .slice A x.val.n c, .int .i64 x.val.a.port, .int .u64 (x.made : Int), .int .u64 (x.ix : Int), .int .u64 (x.made : Int), .int .u64 (x.ix : Int)] 0 w')⟩) rfl
  · intro f w2 e hall hJ hle hv
    obtain ⟨hx, hbx⟩ := hJ.done_ (hall 11 (by decide))
    simp only [Go.Rel.finL, List.setIfInBounds_toArray, List.set_cons_succ, List.set_cons_zero]
    obtain ⟨q0, q1, q2, q3, q4, q5, q6, q7, q8, q9⟩ := Vt.blk hx
    clear hv hall hle hJ
    go_wp2
    refine bodyPost_ret (v := .agg #[.string k, .int .i64 x.val.a.node, .string x.val.a.id, .string x.val.a.name, .slice A x.val.n c, .int .i64 x.val.a.port, .int .u64 (x.made : Int), .int .u64 (x.ix : Int), .int .u64 (x.made : Int), .int .u64 (x.ix : Int)]) (by simp [results, Tryz.results93, go_sem, q0, q1, q2, q3, q4, q5, q6, q7, q8, q9]) rfl ⟨A, c, by rw [← HKe.out]; rfl, ⟨HT2.out.row.but hbx (fun b off e hn z => by have := HGe.out b off e; have := HXX.out; omega), HT2.out.le, HT2.out.max, HT2.out.nil⟩, (fun b off e => by have := HGe.out b off e; have := HXX.out; omega), HB.out.trans (hbx.below (by have := HB.out.size; omega) fun k hk e => by have := HXX.out; omega)⟩
end Go.Proofs.YtilkbfmaofmjoaaGreatDoor
namespace Go.Proofs.YtilkbfmaofmjoaaGreatDoor
open Go.RowKit
set_option linter.unusedSimpArgs false
set_option linter.unusedVariables false
set_option maxHeartbeats 2000000 in
set_option maxRecDepth 100000 in
theorem layNode_any {S : Nat → Prop} {w : World} {Bt : Nat} {T : Tb NdW} (r : Rw NdW) (i : Nat) (h : Nt.TAt S w Bt T) (hi : i < 18446744073709551616) (hk : r.key.size ≤ maxLen) : Calls Tryz.prog 71 #[.pointer (some ⟨Bt, 0, none⟩), Nt.trV r, .int .u64 (i : Int)] w fun e w' => e = .returned (.int .i64 (layE T r.key : Int)) ∧ Nt.TAt (fun k => S k ∨ w.heap.size ≤ k) w' Bt (T.putT r.key r.val i) ∧ But (· = Bt) w w' := by
  obtain ⟨X, hX⟩ : ∃ X, w.heap.size = X := ⟨_, rfl⟩
  have b0 := below1 w #[.string r.key, .int .i64 r.val.a.node, .string r.val.a.addr, .int .u64 (r.val.jm : Int), .int .u64 (r.val.ji : Int), .int .u64 (r.made : Int), .int .u64 (r.ix : Int)] 130
  obtain ⟨w1, hw1⟩ : ∃ w1, w.alloc (.cells #[.string r.key, .int .i64 r.val.a.node, .string r.val.a.addr, .int .u64 (r.val.jm : Int), .int .u64 (r.val.ji : Int), .int .u64 (r.made : Int), .int .u64 (r.ix : Int)] 130) = w1 := ⟨_, rfl⟩
  rw [hw1] at b0
  have hP := Nt.put_any r.key r.val i (h.below b0) hi hk
  obtain ⟨er, her⟩ : ∃ er, layE T r.key = er := ⟨_, rfl⟩
  obtain ⟨r2, hr2⟩ : ∃ r2, Nt.putV T r.key r.val i = .tuple #[Nt.trV r2, .int .i64 (er : Int)] := by
    rw [← her]
    unfold Nt.putV layE
    cases T.fullB r.key
    · exact ⟨_, rfl⟩
    · exact ⟨_, rfl⟩
  rw [hr2] at hP
  rw [her]
  have HP := Lib.hid hP
  have HB0 := Lib.hid b0
  have HW1 := Lib.hid hw1
  have HX := Lib.hid hX
  unfold Nt.trV at HP ⊢
  clear hP b0 hw1 hX h hi hk her hr2
  go_enter Tryz.func71, Tryz.ntmps71
  go_wp2_with fail
  rw [HW1.out]
  refine HP.out.mono ?_
  rintro e w2 ⟨rfl, ht, hb⟩
  have HT := Lib.hid ht
  have HB := Lib.hid hb
  clear ht hb HP
  go_wp2
  go_ret
  have hb3 := below1 w2 #[.string r2.key, .int .i64 r2.val.a.node, .string r2.val.a.addr, .int .u64 (r2.val.jm : Int), .int .u64 (r2.val.ji : Int), .int .u64 (r2.made : Int), .int .u64 (r2.ix : Int)] 130
  exact ⟨rfl, (HT.out.below hb3).narrow fun k _ z => z.imp (fun z => z) (Nat.le_trans HB0.out.size), ((But.of_below HB0.out).trans HB.out).trans (But.of_below hb3)⟩
set_option maxHeartbeats 2000000 in
set_option maxRecDepth 100000 in
theorem layCheck_any {S : Nat → Prop} {w : World} {Bt : Nat} {T : Tb CkW} (r : Rw CkW) (i : Nat) (h : Ct.TAt S w Bt T) (hi : i < 18446744073709551616) (hk : r.key.size ≤ maxLen) : Calls Tryz.prog 61 #[.pointer (some ⟨Bt, 0, none⟩), Ct.trV r, .int .u64 (i : Int)] w fun e w' => e = .returned (.int .i64 (layE T r.key : Int)) ∧ Ct.TAt (fun k => S k ∨ w.heap.size ≤ k) w' Bt (T.putT r.key r.val i) ∧ But (· = Bt) w w' := by
  obtain ⟨X, hX⟩ : ∃ X, w.heap.size = X := ⟨_, rfl⟩
  have b0 := below1 w #[.string r.key, .int .i64 r.val.a.node, .string r.val.a.id, .string r.val.a.svc, .string r.val.a.note, .int .i64 r.val.a.status, .int .u64 (r.val.jm : Int), .int .u64 (r.val.ji : Int), .int .u64 (r.made : Int), .int .u64 (r.ix : Int)] 120
  obtain ⟨w1, hw1⟩ : ∃ w1, w.alloc (.cells #[.string r.key, .int .i64 r.val.a.node, .string r.val.a.id, .string r.val.a.svc, .string r.val.a.note, .int .i64 r.val.a.status, .int .u64 (r.val.jm : Int), .int .u64 (r.val.ji : Int), .int .u64 (r.made : Int), .int .u64 (r.ix : Int)] 120) = w1 := ⟨_, rfl⟩
  rw [hw1] at b0
  have hP := Ct.put_any r.key r.val i (h.below b0) hi hk
  obtain ⟨er, her⟩ : ∃ er, layE T r.key = er := ⟨_, rfl⟩
  obtain ⟨r2, hr2⟩ : ∃ r2, Ct.putV T r.key r.val i = .tuple #[Ct.trV r2, .int .i64 (er : Int)] := by
    rw [← her]
    unfold Ct.putV layE
    cases T.fullB r.key
    · exact ⟨_, rfl⟩
    · exact ⟨_, rfl⟩
  rw [hr2] at hP
  rw [her]
  have HP := Lib.hid hP
  have HB0 := Lib.hid b0
  have HW1 := Lib.hid hw1
  have HX := Lib.hid hX
  unfold Ct.trV at HP ⊢
  clear hP b0 hw1 hX h hi hk her hr2
  go_enter Tryz.func61, Tryz.ntmps61
  go_wp2_with fail
  rw [HW1.out]
  refine HP.out.mono ?_
  rintro e w2 ⟨rfl, ht, hb⟩
  have HT := Lib.hid ht
  have HB := Lib.hid hb
  clear ht hb HP
  go_wp2
  go_ret
  have hb3 := below1 w2 #[.string r2.key, .int .i64 r2.val.a.node, .string r2.val.a.id, .string r2.val.a.svc, .string r2.val.a.note, .int .i64 r2.val.a.status, .int .u64 (r2.val.jm : Int), .int .u64 (r2.val.ji : Int), .int .u64 (r2.made : Int), .int .u64 (r2.ix : Int)] 120
  exact ⟨rfl, (HT.out.below hb3).narrow fun k _ z => z.imp (fun z => z) (Nat.le_trans HB0.out.size), ((But.of_below HB0.out).trans HB.out).trans (But.of_below hb3)⟩
set_option maxHeartbeats 2000000 in
set_option maxRecDepth 100000 in
theorem layService_any {S : Nat → Prop} {w : World} {Bt : Nat} {T : Tb SvW} (r : Rw SvW) (i : Nat) (h : Vt.TAt S w Bt T) (hi : i < 18446744073709551616) (hk : r.key.size ≤ maxLen) : Calls Tryz.prog 75 #[.pointer (some ⟨Bt, 0, none⟩), Vt.trV r, .int .u64 (i : Int)] w fun e w' => e = .returned (.int .i64 (layE T r.key : Int)) ∧ Vt.TAt (fun k => S k ∨ w.heap.size ≤ k) w' Bt (T.putT r.key r.val i) ∧ But (· = Bt) w w' := by
  obtain ⟨X, hX⟩ : ∃ X, w.heap.size = X := ⟨_, rfl⟩
  have b0 := below1 w #[.string r.key, .int .i64 r.val.a.node, .string r.val.a.id, .string r.val.a.name, .slice r.val.A r.val.n r.val.c, .int .i64 r.val.a.port, .int .u64 (r.val.jm : Int), .int .u64 (r.val.ji : Int), .int .u64 (r.made : Int), .int .u64 (r.ix : Int)] 132
  obtain ⟨w1, hw1⟩ : ∃ w1, w.alloc (.cells #[.string r.key, .int .i64 r.val.a.node, .string r.val.a.id, .string r.val.a.name, .slice r.val.A r.val.n r.val.c, .int .i64 r.val.a.port, .int .u64 (r.val.jm : Int), .int .u64 (r.val.ji : Int), .int .u64 (r.made : Int), .int .u64 (r.ix : Int)] 132) = w1 := ⟨_, rfl⟩
  rw [hw1] at b0
  have hP := Vt.put_any r.key r.val i (h.below b0) hi hk
  obtain ⟨er, her⟩ : ∃ er, layE T r.key = er := ⟨_, rfl⟩
  obtain ⟨r2, hr2⟩ : ∃ r2, Vt.putV T r.key r.val i = .tuple #[Vt.trV r2, .int .i64 (er : Int)] := by
    rw [← her]
    unfold Vt.putV layE
    cases T.fullB r.key
    · exact ⟨_, rfl⟩
    · exact ⟨_, rfl⟩
  rw [hr2] at hP
  rw [her]
  have HP := Lib.hid hP
  have HB0 := Lib.hid b0
  have HW1 := Lib.hid hw1
  have HX := Lib.hid hX
  unfold Vt.trV at HP ⊢
  clear hP b0 hw1 hX h hi hk her hr2
  go_enter Tryz.func75, Tryz.ntmps75
  go_wp2_with fail
  rw [HW1.out]
  refine HP.out.mono ?_
  rintro e w2 ⟨rfl, ht, hb⟩
  have HT := Lib.hid ht
  have HB := Lib.hid hb
  clear ht hb HP
  go_wp2
  go_ret
  have hb3 := below1 w2 #[.string r2.key, .int .i64 r2.val.a.node, .string r2.val.a.id, .string r2.val.a.name, .slice r2.val.A r2.val.n r2.val.c, .int .i64 r2.val.a.port, .int .u64 (r2.val.jm : Int), .int .u64 (r2.val.ji : Int), .int .u64 (r2.made : Int), .int .u64 (r2.ix : Int)] 132
  exact ⟨rfl, (HT.out.below hb3).narrow fun k _ z => z.imp (fun z => z) (Nat.le_trans HB0.out.size), ((But.of_below HB0.out).trans HB.out).trans (But.of_below hb3)⟩
set_option maxHeartbeats 2000000 in
set_option maxRecDepth 100000 in
theorem hasNode_any {S : Nat → Prop} {w : World} {Bt : Nat} {T : Tb NdW} (key : ByteArray) (h : Nt.TAt S w Bt T) : Calls Tryz.prog 59 #[.pointer (some ⟨Bt, 0, none⟩), .string key] w fun e w' => e = .returned (.bool (getR T.l key).isSome) ∧ Below w.heap.size w w' := by
  have hG := Nt.get_any key h
  unfold Nt.gotR at hG
  obtain ⟨o, ho⟩ : ∃ o, getR T.l key = o := ⟨_, rfl⟩
  obtain ⟨r2, hr2⟩ : ∃ r2, o.getD Nt.noRw = r2 := ⟨_, rfl⟩
  obtain ⟨b, hb⟩ : ∃ b, o.isSome = b := ⟨_, rfl⟩
  rw [ho, hr2, hb] at hG
  rw [ho, hb]
  have HG := Lib.hid hG
  unfold Nt.trV at HG
  clear hG ho hr2 hb h
  go_enter Tryz.func59, Tryz.ntmps59
  go_wp2_with fail
  refine HG.out.mono ?_
  rintro e w2 ⟨rfl, hb⟩
  have HB := Lib.hid hb
  clear hb HG
  go_wp2
  go_ret
  exact ⟨rfl, HB.out.alloc HB.out.size _⟩
set_option maxHeartbeats 2000000 in
set_option maxRecDepth 100000 in
theorem hasService_any {S : Nat → Prop} {w : World} {Bt : Nat} {T : Tb SvW} (key : ByteArray) (h : Vt.TAt S w Bt T) : Calls Tryz.prog 60 #[.pointer (some ⟨Bt, 0, none⟩), .string key] w fun e w' => e = .returned (.bool (getR T.l key).isSome) ∧ Below w.heap.size w w' := by
  have hG := Vt.get_any key h
  unfold Vt.gotR at hG
  obtain ⟨o, ho⟩ : ∃ o, getR T.l key = o := ⟨_, rfl⟩
  obtain ⟨r2, hr2⟩ : ∃ r2, o.getD Vt.noRw = r2 := ⟨_, rfl⟩
  obtain ⟨b, hb⟩ : ∃ b, o.isSome = b := ⟨_, rfl⟩
  rw [ho, hr2, hb] at hG
  rw [ho, hb]
  have HG := Lib.hid hG
  unfold Vt.trV at HG
  clear hG ho hr2 hb h
  go_enter Tryz.func60, Tryz.ntmps60
  go_wp2_with fail
  refine HG.out.mono ?_
  rintro e w2 ⟨rfl, hb⟩
  have HB := Lib.hid hb
  clear hb HG
  go_wp2
  go_ret
  exact ⟨rfl, HB.out.alloc HB.out.size _⟩
end Go.Proofs.YtilkbfmaofmjoaaGreatDoor
namespace Go.Proofs.YtilkbfmaofmjoaaGreatDoor
open Go.RowKit Go.Rel
set_option linter.unusedSimpArgs false
set_option linter.unusedVariables false
theorem ro_ptrs {w : World} {B B1 B2 B3 : Nat} (k : w.heap[B]? = some (.cells #[.pointer (some ⟨B1, 0, none⟩), .pointer (some ⟨B2, 0, none⟩), .pointer (some ⟨B3, 0, none⟩)] TRo (0, 0))) : w.cell? ⟨B, 0, none⟩ = some (.pointer (some ⟨B1, 0, none⟩)) ∧ w.cell? ⟨B, 1, none⟩ = some (.pointer (some ⟨B2, 0, none⟩)) ∧ w.cell? ⟨B, 2, none⟩ = some (.pointer (some ⟨B3, 0, none⟩)) := ⟨cellsN k 0 _ rfl, cellsN k 1 _ rfl, cellsN k 2 _ rfl⟩
theorem put_nA {T : Tb NdW} {k : ByteArray} {v : NdW} {i : Nat} : nA (T.putT k v i) = (nA T).putT k v.a i := (Tb.putT_map _ T k v i).symm
theorem layE_map {α β : Type} (f : α → β) (T : Tb α) (k : ByteArray) : layE (T.map f) k = layE T k := by unfold layE; rw [Tb.fullB_map]
def rnoE (B : Nat) (B1 : Nat) (node : Int) (addr : ByteArray) (i : Nat) (k : ByteArray) (er : Nat) : Nat → Value
  | 0 | 1 | 2 => .pointer (some ⟨B, 0, none⟩)
  | 3 => .pointer (some ⟨B1, 0, none⟩)
  | 4 => .agg #[.func (.func 88) #[] #[], .func (.func 89) #[] #[]]
  | 5 => .func (.func 89) #[] #[]
  | 6 => .int .i64 node
  | 7 => .string addr
  | 8 => .agg #[.int .i64 node, .string addr, .int .u64 0, .int .u64 0]
  | 9 => .agg #[.string k, .int .i64 node, .string addr, .int .u64 0, .int .u64 0, .int .u64 0, .int .u64 0]
  | 10 => .int .u64 (i : Int)
  | 11 | 12 => .int .i64 (er : Int)
  | _ => undef
set_option maxHeartbeats 4000000 in
set_option maxRecDepth 100000 in
theorem rnode_any {S : Nat → Prop} {w : World} {B B1 B2 B3 m : Nat} {d : Ro} (node : Int) (addr : ByteArray) (i : Nat) (h : RoAt S w B B1 B2 B3 m d) (hn : -9223372036854775808 ≤ node ∧ node ≤ 9223372036854775807) (ha : addr.size ≤ maxLen) (hi : i < 18446744073709551616) : Calls Tryz.prog 28 #[.pointer (some ⟨B, 0, none⟩), .int .i64 node, .string addr, .int .u64 (i : Int)] w fun e w' => e = .returned (.int .i64 ((d.node ⟨node, addr⟩ i).1 : Int)) ∧ RoAt (fun k => S k ∨ w.heap.size ≤ k) w' B B1 B2 B3 m (d.node ⟨node, addr⟩ i).2 ∧ But (Ch3 B1 B2 B3) w w' := by
  have HAt := Lib.hid h
  obtain ⟨hok, T1, T2, T3, h, e1, e2, e3⟩ := h
  have HMd := Lib.hid (made_is h.ptr)
  have HRt := Lib.hid (fun W => right_is node W hn)
  have HSh := Lib.hid (fun W => short_is addr W ha)
  have HN := Lib.hid hn
  have HI := Lib.hid hi
  have HIs := Lib.hid h
  have HE := Lib.hid (And.intro e1 (And.intro e2 e3))
  have HOk := Lib.hid hok
  clear h e1 e2 e3 hok hn ha hi
  cases hb : nodeB node with
  | false =>
    have hd : d.node ⟨node, addr⟩ i = (2, d) := by unfold Ro.node wrongN; simp [hb]
    rw [hd]
    rw [hb] at HRt
    clear hb hd
    go_enter Tryz.func28, Tryz.ntmps28
    go_wp2_with fail
    refine HMd.out.mono ?_
    rintro e w' ⟨rfl, hb⟩
    have HB := Lib.hid hb
    clear hb
    go_wp2_with fail
    refine (HRt.out _).mono ?_
    rintro e w2 ⟨rfl, rfl⟩
    go_wp2
    go_ret
    exact ⟨rfl, HAt.out.wide HB.out, But.of_below HB.out⟩
  | true =>
    rw [hb] at HRt
    by_cases hs : addr.size ≤ 32
    case neg =>
      have hw : wrongN ⟨node, addr⟩ = 3 := by unfold wrongN; rw [if_neg (by rw [hb]; simp), if_pos (by show 32 < addr.size; omega)]
      have hd : d.node ⟨node, addr⟩ i = (3, d) := by unfold Ro.node; rw [hw, if_pos (by decide)]
      rw [hd]
      rw [decide_eq_false hs] at HSh
      clear hb hd hs hw
      go_enter Tryz.func28, Tryz.ntmps28
      go_wp2_with fail
      refine HMd.out.mono ?_
      rintro e w' ⟨rfl, hb⟩
      have HB := Lib.hid hb
      clear hb
      go_wp2_with fail
      refine (HRt.out _).mono ?_
      rintro e w2 ⟨rfl, rfl⟩
      go_wp2_with fail
      refine (HSh.out _).mono ?_
      rintro e w3 ⟨rfl, rfl⟩
      go_wp2
      go_ret
      exact ⟨rfl, HAt.out.wide HB.out, But.of_below HB.out⟩
    case pos =>
      have hw : wrongN ⟨node, addr⟩ = 0 := wrongN_ok.2 ⟨hb, hs⟩
      have hx := wrongN_ok.1 hw
      obtain ⟨k, hk⟩ : ∃ k, keyO node noT = k := ⟨_, rfl⟩
      have hks : k.size ≤ maxLen := by rw [← hk]; exact hx.key
      obtain ⟨er, her⟩ : ∃ er, layE T1 k = er := ⟨_, rfl⟩
      obtain ⟨T1', hT1⟩ : ∃ T1', T1.putT k ⟨⟨node, addr⟩, 0, 0⟩ i = T1' := ⟨_, rfl⟩
      have hd : d.node ⟨node, addr⟩ i = (er, { d with n := nA T1' }) := by
        unfold Ro.node NdA.key
        rw [hw, if_neg (by simp), ← HE.out.1, hk, layE_map, her, ← hT1, put_nA]
      have hok2 := HOk.out.node (x := ⟨node, addr⟩) HI.out
      rw [hd] at hok2 ⊢
      have HOk2 := Lib.hid hok2
      rw [decide_eq_true hs] at HSh
      have HKs := Lib.hid hks
      have HHk := Lib.hid hk
      have HEr := Lib.hid her
      have HT1 := Lib.hid hT1
      clear hb hd hs hw hx hk her hok2 hks hT1
      go_enter Tryz.func28, Tryz.ntmps28
      go_wp2_with fail
      refine HMd.out.mono ?_
      rintro e W0 ⟨rfl, hb⟩
      have HB := Lib.hid hb
      clear hb
      go_wp2_with fail
      refine (HRt.out _).mono ?_
      rintro e w2 ⟨rfl, rfl⟩
      go_wp2_with fail
      refine (HSh.out _).mono ?_
      rintro e w3 ⟨rfl, rfl⟩
      have hA := HIs.out.below HB.out
      have HA := Lib.hid hA
      have HKb := Lib.hid hA.ptr
      have HLb := Lib.hid hA.lt
      have HL1 : Hid (B1 < W0.heap.size) := Lib.hid hA.lts.1
      have HM1 : Hid (∀ k, k = B1 → k < W0.heap.size) := Lib.hid fun k e => by rw [e]; exact HL1.out
      have HOf := Lib.hid ofNode_any
      have HRw := Lib.hid (fun W (hW : Below W0.heap.size W0 W) => (by
        have := rowNode_any ⟨noT, ⟨node, addr⟩, 0, 0⟩ W HN.out (by decide) (hA.pw.below hW)
        unfold ndV Nt.trV NdA.key at this
        rw [HHk.out] at this
        exact this : Calls Tryz.prog 89 #[.agg #[.int .i64 node, .string addr, .int .u64 0, .int .u64 0]] W fun e w' => e = .returned (.agg #[.string k, .int .i64 node, .string addr, .int .u64 0, .int .u64 0, .int .u64 0, .int .u64 0]) ∧ Below W.heap.size W w'))
      have HLay := Lib.hid (fun W (hW : Below W0.heap.size W0 W) => (by
        have := layNode_any ⟨k, ⟨⟨node, addr⟩, 0, 0⟩, 0, 0⟩ i (hA.t1.below hW) HI.out HKs.out
        unfold Nt.trV at this
        rw [HEr.out, HT1.out] at this
        exact this : Calls Tryz.prog 71 #[.pointer (some ⟨B1, 0, none⟩), .agg #[.string k, .int .i64 node, .string addr, .int .u64 0, .int .u64 0, .int .u64 0, .int .u64 0], .int .u64 (i : Int)] W fun e w' => e = .returned (.int .i64 (er : Int)) ∧ Nt.TAt (fun k => Sub S B B2 B3 k ∨ W.heap.size ≤ k) w' B1 T1' ∧ But (· = B1) W w'))
      clear hA HMd HRt HSh HIs
      go_wp2_with fail
      have hre : ∀ w : World, (But (OldB W0)) w w := (fun w => But.refl _ w)
      have hrd : ∀ (f : Nat → Bool) w i, i ≠ 11 → (TI 11 W0 (fun w => Nt.TAt (fun k => Sub S B B2 B3 k ∨ W0.heap.size ≤ k) w B1 T1' ∧ But (· = B1) W0 w)) f w → (TI 11 W0 (fun w => Nt.TAt (fun k => Sub S B B2 B3 k ∨ W0.heap.size ≤ k) w B1 T1' ∧ But (· = B1) W0 w)) (Go.Rel.upd f i) w := (fun _ _ _ hi h => h.read hi)
      refine Go.Rel.wp_tab (by kernel_rfl) (by kernel_rfl) (TI 11 W0 (fun w => Nt.TAt (fun k => Sub S B B2 B3 k ∨ W0.heap.size ≤ k) w B1 T1' ∧ But (· = B1) W0 w)) (But (OldB W0)) hre ((fun _ _ _ h k => h.trans k)) (OldB.drew) TI.start (rnoE B B1 node addr i k er) (fun _ _ _ => True) (fun i => ([] : List Nat).contains i) (fun i => ([3, 4, 9, 11] : List Nat).contains i) (by kernel_rfl) (fun _ _ _ _ h _ => h) 11 rfl hrd ?_ (Go.Rel.AllOf.get ?_) ?_
      · repeat (refine .cons (by first | exact Go.Rel.pure_sp rfl | exact Go.Rel.pure_yes (by kernel_rfl) (fun _ => by kernel_rfl) | exact Go.Rel.pure_no (by kernel_rfl) rfl) ?_)
        exact .nil
      · refine ⟨?_, ?_, ?_, ?_, trivial⟩
        · exact SpecOk.ld hrd hre (q := .pointer (some ⟨B, 0, none⟩)) (h := fun _ w' hI _ hdesc _ _ => by have cb := ro_ptrs (((hI.ahead (hdesc 60 11 (by kernel_rfl))).block B HLb.out).trans HKb.out); go_simp; rfl)
        · refine SpecOk.gen (fun e => []) rfl rfl (fun _ => by kernel_rfl) fun f w' e hI hf hdesc hanc hle hX K hK => ?_
          go_simp
          have zL : f 11 = false := hdesc 60 11 (by kernel_rfl)
          refine (HOf.out w').mono ?_
          rintro e w2 ⟨rfl, hb9⟩
          exact hK _ _ (But.of_below hb9) (hI.below zL hb9 (by decide)) rfl
        · refine SpecOk.gen (fun e => [(26, .func (.func 89) #[] #[]), (29, .agg #[.int .i64 node, .string addr, .int .u64 0, .int .u64 0])]) rfl rfl (fun _ => by kernel_rfl) fun f w' e hI hf hdesc hanc hle hX K hK => ?_
          go_simp
          have zL : f 11 = false := hdesc 60 11 (by kernel_rfl)
          refine (HRw.out w' (hI.ahead zL)).mono ?_
          rintro e w2 ⟨rfl, hb9⟩
          exact hK _ _ (But.of_below hb9) (hI.below zL hb9 (by decide)) rfl
        · refine SpecOk.call 71 #[.pointer (some ⟨B1, 0, none⟩), .agg #[.string k, .int .i64 node, .string addr, .int .u64 0, .int .u64 0, .int .u64 0, .int .u64 0], .int .u64 (i : Int)] rfl (by kernel_rfl) (fun _ => by kernel_rfl) fun _ w' hI hf _ _ _ => ?_
          refine (HLay.out w' (hI.ahead hf)).mono ?_
          rintro e9 w9 ⟨rfl, h9, hb9⟩
          exact ⟨_, rfl, (But.oldB hb9 HM1.out), (TI.last ⟨h9.narrow fun k _ z => z.imp (fun z => z) fun z => Nat.le_trans (hI.ahead hf).size z, (But.of_below (hI.ahead hf)).trans hb9⟩), rfl⟩
      · intro f w3 e hall hJ hle hv
        have HJ := Lib.hid (hJ.done_ (hall 11 (by decide)))
        have v9 := hv 12 rfl
        simp only [Go.Rel.finL, List.setIfInBounds_toArray, List.set_cons_succ, List.set_cons_zero]
        rw [show e 12 = .int .i64 (er : Int) from v9]
        clear hv hall hle hJ v9
        go_wp2
        go_ret
        refine ⟨rfl, ⟨HOk2.out, _, _, _, (HA.out.turn1 HJ.out.1 HJ.out.2).narrow fun k _ z => z.imp (fun z => z) (Nat.le_trans HB.out.size), rfl, HE.out.2⟩, (But.of_below HB.out).trans (but1 HJ.out.2)⟩
end Go.Proofs.YtilkbfmaofmjoaaGreatDoor
