/-
  Rows told, one after the other: rows, walked (layer 19).
-/
import Derived.Test.YtilkbfmaofmjoaaGreatDoorZj39
import Derived.Test.YtilkbfmaofmjoaaGreatDoorZj40
namespace Go.Proofs.YtilkbfmaofmjoaaGreatDoor
open Go.RowKit
set_option linter.unusedSimpArgs false
set_option linter.unusedVariables false

/-- Services in a row of the call's own, their tags elsewhere. -/
structure SvR (w : World) (v : Value) (l' : List (Rw SvW)) (l : List (Rw SvA)) : Prop where
  svl : SvL w l' l
  off : ∀ r ∈ l', ∀ b off, r.val.A = some ⟨b, off, none⟩ → 0 < r.val.n → v.ownBlock ≠ some b
theorem SvR.nil {w : World} {v : Value} : SvR w v [] [] := ⟨⟨rfl, by simp⟩, by simp⟩
theorem SvR.below {w w' : World} {v : Value} {l' : List (Rw SvW)} {l : List (Rw SvA)} (h : SvR w v l' l) (hb : Below w.heap.size w w') : SvR w' v l' l := ⟨h.svl.below hb, h.off⟩
theorem Tx.block {w : World} {A : Option Addr} {n c : Nat} {l : List ByteArray} (h : Tx w A n c l) {b off : Nat} (e : A = some ⟨b, off, none⟩) (hn : 0 < n) : b < w.heap.size := by
  obtain ⟨b', off', e', hb, _⟩ := h.row.at_ (j := 0) hn (by rw [h.len]; exact hn)
  rw [e] at e'
  cases e'
  exact hb
theorem SvR.snoc {w w' : World} {v v' : Value} {l' : List (Rw SvW)} {l : List (Rw SvA)} (h : SvR w v l' l) {y : Rw SvW} (hy : Tx w y.val.A y.val.n y.val.c y.val.a.tags) (ho : ∀ b off, y.val.A = some ⟨b, off, none⟩ → 0 < y.val.n → v.ownBlock ≠ some b) {o : Obj} (hg : (w.alloc o).grownBy w' v.ownBlock) (hw : v'.ownBlock = v.ownBlock ∨ ∀ r, v'.ownBlock = some r → w.heap.size + 1 ≤ r) : SvR w' v' (l' ++ [y]) (l ++ [rwMap (fun v => v.a) y]) := by
  have hba : Below w.heap.size w (w.alloc o) := (Below.refl _ w).alloc (Nat.le_refl _) o
  have hb : But (fun k => v.ownBlock = some k) w w' := (But.of_below hba).trans (But.of_grown hg fun r e _ => e)
  have key : ∀ r : Rw SvW, Tx w r.val.A r.val.n r.val.c r.val.a.tags → (∀ b off, r.val.A = some ⟨b, off, none⟩ → 0 < r.val.n → v.ownBlock ≠ some b) → Tx w' r.val.A r.val.n r.val.c r.val.a.tags ∧ ∀ b off, r.val.A = some ⟨b, off, none⟩ → 0 < r.val.n → v'.ownBlock ≠ some b := fun r h1 h2 =>
    ⟨⟨h1.row.but hb fun b off e hn z => h2 b off e hn z, h1.le, h1.max, h1.nil⟩, fun b off e hn z => by
      rcases hw with hw | hw
      · exact h2 b off e hn (hw ▸ z)
      · have := hw b z
        have := h1.block e hn
        omega⟩
  refine ⟨⟨by rw [List.map_append, h.svl.eq]; rfl, fun r hr => ?_⟩, fun r hr => ?_⟩
  · rcases List.mem_append.1 hr with hr | hr
    · exact (key r (h.svl.tx r hr) (h.off r hr)).1
    · rw [List.mem_singleton.1 hr]; exact (key y hy ho).1
  · rcases List.mem_append.1 hr with hr | hr
    · exact (key r (h.svl.tx r hr) (h.off r hr)).2
    · rw [List.mem_singleton.1 hr]; exact (key y hy ho).2
theorem wpList_append_svw {w : World} {ops : Array Oper} {rest : List Oper} {o : Oper} {a : Act} {Q : Exit → Act → World → Prop} (hgd : o.guard = none) (s x : Operand)
    (ho : o.op = .call { callee := .builtin .append, args := #[s, x], argTypes := #[42, 42] })
    (base : Nat) (v : Value) (l : List (Rw SvW)) (hs : a.eval s = v) (hown : svRow w base v l) (X : Nat) (y : Rw SvW) (hx : a.eval x = .slice (some ⟨X, 0, none⟩) 1 1) (hc : ItAt svC w X 0 y)
    (hl : l.length ≤ 1000000) (hbase : base ≤ w.heap.size)
    (h : Hid (∀ v' w', svRow w' base v' (l ++ [y]) → w.grownBy w' v.ownBlock → (v'.ownBlock = v.ownBlock ∨ ∀ r, v'.ownBlock = some r → w.heap.size ≤ r) → wpList Tryz.prog ops Q rest (a.put o.dst v') w')) : wpList Tryz.prog ops Q (o :: rest) a w := by
  obtain ⟨i0, hi, hz0, hz1, hz2⟩ := info_parts sv_info
  exact wpList_append_kw hgd s x _ ho i0 _ 88 Tryz.underlying42 hi hz0 hz1 hz2 rfl (by decide) svC_len svC_one base v l hs hown X y hx hc (by unfold maxLen; omega) (by omega) hbase h
set_option maxHeartbeats 4000000 in
set_option maxRecDepth 100000 in
theorem rowsNode_any {A : Option Addr} {n c : Nat} {l : List (Rw NdW)} (w : World) (hS : SK Nt.trC 7 w A n l) (hn : n ≤ 64) : Calls Tryz.prog 42 #[.slice A n c, kdNode] w fun e w' => NewNd w (l.map (rwMap (fun v => v.a))) e w' := by
  obtain ⟨Xk, hXk⟩ : ∃ Xk, w.heap.size = Xk := ⟨_, rfl⟩
  have k0 := heap_alloc_new w (.cells #[.func (.func 88) #[] #[], .func (.func 89) #[] #[]] 92)
  have b0 := below1 w #[.func (.func 88) #[] #[], .func (.func 89) #[] #[]] 92
  have z0 : (w.alloc (.cells #[.func (.func 88) #[] #[], .func (.func 89) #[] #[]] 92)).heap.size = w.heap.size + 1 := by simp
  rw [hXk] at k0 z0
  obtain ⟨w1, hw1⟩ : ∃ w1, w.alloc (.cells #[.func (.func 88) #[] #[], .func (.func 89) #[] #[]] 92) = w1 := ⟨_, rfl⟩
  rw [hw1] at k0 b0 z0
  have HS1 := Lib.hid (hS.below b0)
  have HB0 := Lib.hid b0
  have HK0 := Lib.hid k0
  have HZ0 := Lib.hid z0
  have HW1 := Lib.hid hw1
  have HXk := Lib.hid hXk
  have HL := Lib.hid hS.1
  have hl1 := block_lt k0
  unfold kdNode
  clear hS b0 k0 z0 hw1 hXk
  go_enter Tryz.func42, Tryz.ntmps42
  go_wp2_with fail
  rw [HW1.out, HXk.out]
  go_loopw [5, 10] (fun vv iv wr => ∃ k : Nat, k ≤ n ∧ iv = .int .i64 (k : Int) ∧ Hid (rowK ndC TNd 4 wr (Xk + 1) vv ((l.take k).map (rwMap (fun v => v.a)))) ∧ Hid (Below (Xk + 1) w1 wr)) (fun _ iv _ => n - (intOf iv).toNat)
  case atStart => exact ⟨0, Nat.zero_le _, rfl, Lib.hid (rowK.nil _ _), Lib.hid (Below.refl _ _)⟩
  case round =>
    obtain ⟨k, hk, rfl, hrow, hb⟩ := hrel
    by_cases hlt : k < n
    · have hkl : k < l.length := by rw [HL.out]; exact hlt
      have hbz : Below w1.heap.size w1 wr := by rw [HZ0.out]; exact hb.out
      obtain ⟨b, off, rfl, hbl, hit⟩ := (HS1.out.below hbz).at_ hlt hkl
      have hst : (l.take (k + 1)).map (rwMap (fun v => v.a)) = (l.take k).map (rwMap (fun v => v.a)) ++ [rwMap (fun v => v.a) l[k]] := by rw [List.take_succ_eq_append_getElem hkl, List.map_append]; rfl
      obtain ⟨x, hx⟩ : ∃ x, l[k] = x := ⟨_, rfl⟩
      rw [hx] at hit hst
      have HSt := Lib.hid hst
      obtain ⟨c0, c1, c2, c3, c4, c5, c6⟩ := Nt.tr_cells hit
      have bx := below1 wr #[.string x.key, .int .i64 x.val.a.node, .string x.val.a.addr, .int .u64 (x.val.jm : Int), .int .u64 (x.val.ji : Int), .int .u64 (x.made : Int), .int .u64 (x.ix : Int)] 130
      have kx := heap_alloc_new wr (.cells #[.string x.key, .int .i64 x.val.a.node, .string x.val.a.addr, .int .u64 (x.val.jm : Int), .int .u64 (x.val.ji : Int), .int .u64 (x.made : Int), .int .u64 (x.ix : Int)] 130)
      obtain ⟨W2, hW2⟩ : ∃ W2, wr.alloc (.cells #[.string x.key, .int .i64 x.val.a.node, .string x.val.a.addr, .int .u64 (x.val.jm : Int), .int .u64 (x.val.ji : Int), .int .u64 (x.made : Int), .int .u64 (x.ix : Int)] 130) = W2 := ⟨_, rfl⟩
      rw [hW2] at bx kx
      have hb2 : Below (Xk + 1) w1 W2 := hb.out.trans (bx.mono (by have := hb.out.size; have := HZ0.out; omega))
      have kk := (hb.out.block Xk (by omega)).trans HK0.out
      have d0 : wr.cell? ⟨Xk, 0, none⟩ = some (.func (.func 88) #[] #[]) := cellsN kk 0 _ rfl
      have lk := block_lt kk
      have lx := block_lt kx
      obtain ⟨X, hX⟩ : ∃ X, wr.heap.size = X := ⟨_, rfl⟩
      rw [hX] at lx
      have HTell := Lib.hid (tellNode_any x W2)
      have HB2 := Lib.hid hb2
      have HRow := Lib.hid (hrow.out.below bx)
      have HX := Lib.hid hX
      have HW2 := Lib.hid hW2
      unfold Nt.trV at HTell
      clear hbz hit hst bx kx hb2 kk hX hW2 hx lx
      go_wp2_with fail
      rw [HW2.out, HX.out]
      clear c0 c1 c2 c3 c4 c5 c6
      refine HTell.out.mono ?_
      rintro e W3 ⟨rfl, hb3⟩
      obtain ⟨y, hy⟩ : ∃ y, rwMap (fun v => v.a) x = y := ⟨_, rfl⟩
      rw [hy] at HSt ⊢
      clear hy
      have HB3 : Hid (Below (Xk + 1) w1 W3) := Lib.hid (HB2.out.trans (hb3.mono (by have := HB2.out.size; have := HZ0.out; omega)))
      have HRow3 := Lib.hid (HRow.out.below hb3)
      have hle : (l.take k).length ≤ 64 := by rw [List.length_take]; omega
      unfold ndV
      clear hb3 d0 lk
      go_wp2_with (at_builtin; refine wpList_append_nd rfl (.tmp 14) (.tmp 19) rfl (Xk + 1) _ ((l.take k).map (rwMap (fun v => v.a))) rfl ?qa W3.heap.size y rfl ?qb ?qd ?qc ?_)
      case qa => exact HRow3.out.below ((Below.refl _ _).alloc (Nat.le_refl _) _)
      case qb => exact nd_new W3 y _
      case qd => simp; omega
      case qc => have := HB3.out.size; have := HZ0.out; simp; omega
      refine Lib.hid ?_
      intro v4 W4 hown hgr
      have HB4 := Lib.hid (ndRow.snoc HRow3.out HB3.out (by have := HB3.out.size; have := HZ0.out; omega) hgr)
      have HR4 := Lib.hid hown
      clear hown hgr
      go_wp2
      go_roundw
      case rel => exact ⟨k + 1, by omega, by go_num, by rw [HSt.out, List.map_take]; exact HR4, HB4⟩
      case measure => simp [intOf]; omega
    · obtain rfl : k = n := by omega
      have ht : l.take k = l := List.take_of_length_le (by rw [HL.out]; omega)
      rw [ht] at hrow
      go_wp2
      go_ret
      obtain ⟨A2, c2, rfl, h1, h2, h3, h4⟩ := SK.of_row ndC_len hrow.out
      exact ⟨A2, c2, rfl, h1, h2, h3, fun b off e => by have := h4 b off e; have := HXk.out; omega, HB0.out.trans (hb.out.mono (by have := HXk.out; omega))⟩
set_option maxHeartbeats 4000000 in
set_option maxRecDepth 100000 in
theorem rowsCheck_any {A : Option Addr} {n c : Nat} {l : List (Rw CkW)} (w : World) (hS : SK Ct.trC 10 w A n l) (hn : n ≤ 64) : Calls Tryz.prog 49 #[.slice A n c, kdCheck] w fun e w' => NewCk w (l.map (rwMap (fun v => v.a))) e w' := by
  obtain ⟨Xk, hXk⟩ : ∃ Xk, w.heap.size = Xk := ⟨_, rfl⟩
  have k0 := heap_alloc_new w (.cells #[.func (.func 96) #[] #[], .func (.func 97) #[] #[]] 108)
  have b0 := below1 w #[.func (.func 96) #[] #[], .func (.func 97) #[] #[]] 108
  have z0 : (w.alloc (.cells #[.func (.func 96) #[] #[], .func (.func 97) #[] #[]] 108)).heap.size = w.heap.size + 1 := by simp
  rw [hXk] at k0 z0
  obtain ⟨w1, hw1⟩ : ∃ w1, w.alloc (.cells #[.func (.func 96) #[] #[], .func (.func 97) #[] #[]] 108) = w1 := ⟨_, rfl⟩
  rw [hw1] at k0 b0 z0
  have HS1 := Lib.hid (hS.below b0)
  have HB0 := Lib.hid b0
  have HK0 := Lib.hid k0
  have HZ0 := Lib.hid z0
  have HW1 := Lib.hid hw1
  have HXk := Lib.hid hXk
  have HL := Lib.hid hS.1
  have hl1 := block_lt k0
  unfold kdCheck
  clear hS b0 k0 z0 hw1 hXk
  go_enter Tryz.func49, Tryz.ntmps49
  go_wp2_with fail
  rw [HW1.out, HXk.out]
  go_loopw [5, 10] (fun vv iv wr => ∃ k : Nat, k ≤ n ∧ iv = .int .i64 (k : Int) ∧ Hid (rowK ckC TCk 7 wr (Xk + 1) vv ((l.take k).map (rwMap (fun v => v.a)))) ∧ Hid (Below (Xk + 1) w1 wr)) (fun _ iv _ => n - (intOf iv).toNat)
  case atStart => exact ⟨0, Nat.zero_le _, rfl, Lib.hid (rowK.nil _ _), Lib.hid (Below.refl _ _)⟩
  case round =>
    obtain ⟨k, hk, rfl, hrow, hb⟩ := hrel
    by_cases hlt : k < n
    · have hkl : k < l.length := by rw [HL.out]; exact hlt
      have hbz : Below w1.heap.size w1 wr := by rw [HZ0.out]; exact hb.out
      obtain ⟨b, off, rfl, hbl, hit⟩ := (HS1.out.below hbz).at_ hlt hkl
      have hst : (l.take (k + 1)).map (rwMap (fun v => v.a)) = (l.take k).map (rwMap (fun v => v.a)) ++ [rwMap (fun v => v.a) l[k]] := by rw [List.take_succ_eq_append_getElem hkl, List.map_append]; rfl
      obtain ⟨x, hx⟩ : ∃ x, l[k] = x := ⟨_, rfl⟩
      rw [hx] at hit hst
      have HSt := Lib.hid hst
      obtain ⟨c0, c1, c2, c3, c4, c5, c6, c7, c8, c9⟩ := Ct.tr_cells hit
      have bx := below1 wr #[.string x.key, .int .i64 x.val.a.node, .string x.val.a.id, .string x.val.a.svc, .string x.val.a.note, .int .i64 x.val.a.status, .int .u64 (x.val.jm : Int), .int .u64 (x.val.ji : Int), .int .u64 (x.made : Int), .int .u64 (x.ix : Int)] 120
      have kx := heap_alloc_new wr (.cells #[.string x.key, .int .i64 x.val.a.node, .string x.val.a.id, .string x.val.a.svc, .string x.val.a.note, .int .i64 x.val.a.status, .int .u64 (x.val.jm : Int), .int .u64 (x.val.ji : Int), .int .u64 (x.made : Int), .int .u64 (x.ix : Int)] 120)
      obtain ⟨W2, hW2⟩ : ∃ W2, wr.alloc (.cells #[.string x.key, .int .i64 x.val.a.node, .string x.val.a.id, .string x.val.a.svc, .string x.val.a.note, .int .i64 x.val.a.status, .int .u64 (x.val.jm : Int), .int .u64 (x.val.ji : Int), .int .u64 (x.made : Int), .int .u64 (x.ix : Int)] 120) = W2 := ⟨_, rfl⟩
      rw [hW2] at bx kx
      have hb2 : Below (Xk + 1) w1 W2 := hb.out.trans (bx.mono (by have := hb.out.size; have := HZ0.out; omega))
      have kk := (hb.out.block Xk (by omega)).trans HK0.out
      have d0 : wr.cell? ⟨Xk, 0, none⟩ = some (.func (.func 96) #[] #[]) := cellsN kk 0 _ rfl
      have lk := block_lt kk
      have lx := block_lt kx
      obtain ⟨X, hX⟩ : ∃ X, wr.heap.size = X := ⟨_, rfl⟩
      rw [hX] at lx
      have HTell := Lib.hid (tellCheck_any x W2)
      have HB2 := Lib.hid hb2
      have HRow := Lib.hid (hrow.out.below bx)
      have HX := Lib.hid hX
      have HW2 := Lib.hid hW2
      unfold Ct.trV at HTell
      clear hbz hit hst bx kx hb2 kk hX hW2 hx lx
      go_wp2_with fail
      rw [HW2.out, HX.out]
      clear c0 c1 c2 c3 c4 c5 c6 c7 c8 c9
      refine HTell.out.mono ?_
      rintro e W3 ⟨rfl, hb3⟩
      obtain ⟨y, hy⟩ : ∃ y, rwMap (fun v => v.a) x = y := ⟨_, rfl⟩
      rw [hy] at HSt ⊢
      clear hy
      have HB3 : Hid (Below (Xk + 1) w1 W3) := Lib.hid (HB2.out.trans (hb3.mono (by have := HB2.out.size; have := HZ0.out; omega)))
      have HRow3 := Lib.hid (HRow.out.below hb3)
      have hle : (l.take k).length ≤ 64 := by rw [List.length_take]; omega
      unfold ckV
      clear hb3 d0 lk
      go_wp2_with (at_builtin; refine wpList_append_ck rfl (.tmp 14) (.tmp 19) rfl (Xk + 1) _ ((l.take k).map (rwMap (fun v => v.a))) rfl ?qa W3.heap.size y rfl ?qb ?qd ?qc ?_)
      case qa => exact HRow3.out.below ((Below.refl _ _).alloc (Nat.le_refl _) _)
      case qb => exact ck_new W3 y _
      case qd => simp; omega
      case qc => have := HB3.out.size; have := HZ0.out; simp; omega
      refine Lib.hid ?_
      intro v4 W4 hown hgr
      have HB4 := Lib.hid (ckRow.snoc HRow3.out HB3.out (by have := HB3.out.size; have := HZ0.out; omega) hgr)
      have HR4 := Lib.hid hown
      clear hown hgr
      go_wp2
      go_roundw
      case rel => exact ⟨k + 1, by omega, by go_num, by rw [HSt.out, List.map_take]; exact HR4, HB4⟩
      case measure => simp [intOf]; omega
    · obtain rfl : k = n := by omega
      have ht : l.take k = l := List.take_of_length_le (by rw [HL.out]; omega)
      rw [ht] at hrow
      go_wp2
      go_ret
      obtain ⟨A2, c2, rfl, h1, h2, h3, h4⟩ := SK.of_row ckC_len hrow.out
      exact ⟨A2, c2, rfl, h1, h2, h3, fun b off e => by have := h4 b off e; have := HXk.out; omega, HB0.out.trans (hb.out.mono (by have := HXk.out; omega))⟩
set_option maxHeartbeats 4000000 in
set_option maxRecDepth 100000 in
theorem rowsService_any {A : Option Addr} {n c : Nat} {l : List (Rw SvW)} (w : World) (hS : SK Vt.trC 10 w A n l) (ht : ∀ r ∈ l, Tx w r.val.A r.val.n r.val.c r.val.a.tags ∧ r.val.n ≤ 4) (hn : n ≤ 64) : Calls Tryz.prog 46 #[.slice A n c, kdService] w fun e w' => NewSv w (l.map (rwMap (fun v => v.a))) e w' := by
  obtain ⟨Xk, hXk⟩ : ∃ Xk, w.heap.size = Xk := ⟨_, rfl⟩
  have k0 := heap_alloc_new w (.cells #[.func (.func 92) #[] #[], .func (.func 93) #[] #[]] 100)
  have b0 := below1 w #[.func (.func 92) #[] #[], .func (.func 93) #[] #[]] 100
  have z0 : (w.alloc (.cells #[.func (.func 92) #[] #[], .func (.func 93) #[] #[]] 100)).heap.size = w.heap.size + 1 := by simp
  rw [hXk] at k0 z0
  obtain ⟨w1, hw1⟩ : ∃ w1, w.alloc (.cells #[.func (.func 92) #[] #[], .func (.func 93) #[] #[]] 100) = w1 := ⟨_, rfl⟩
  rw [hw1] at k0 b0 z0
  have HS1 := Lib.hid (hS.below b0)
  have HB0 := Lib.hid b0
  have HK0 := Lib.hid k0
  have HZ0 := Lib.hid z0
  have HW1 := Lib.hid hw1
  have HXk := Lib.hid hXk
  have HL := Lib.hid hS.1
  have HT := Lib.hid (fun r hr => (⟨((ht r hr).1.below b0), (ht r hr).2⟩ : Tx w1 r.val.A r.val.n r.val.c r.val.a.tags ∧ r.val.n ≤ 4))
  have hl1 := block_lt k0
  unfold kdService
  clear hS b0 k0 z0 hw1 hXk ht
  go_enter Tryz.func46, Tryz.ntmps46
  go_wp2_with fail
  rw [HW1.out, HXk.out]
  go_loopw [5, 10] (fun vv iv wr => ∃ k : Nat, ∃ l2 : List (Rw SvW), k ≤ n ∧ iv = .int .i64 (k : Int) ∧ Hid (rowK svC TSv 7 wr (Xk + 1) vv l2) ∧ Hid (SvR wr vv l2 ((l.take k).map (rwMap (fun v => v.a)))) ∧ Hid (Below (Xk + 1) w1 wr)) (fun _ iv _ => n - (intOf iv).toNat)
  case atStart => exact ⟨0, [], Nat.zero_le _, rfl, Lib.hid (rowK.nil _ _), Lib.hid SvR.nil, Lib.hid (Below.refl _ _)⟩
  case round =>
    obtain ⟨k, l2, hk, rfl, hrow, hsl, hb⟩ := hrel
    by_cases hlt : k < n
    · have hkl : k < l.length := by rw [HL.out]; exact hlt
      have hbz : Below w1.heap.size w1 wr := by rw [HZ0.out]; exact hb.out
      obtain ⟨b, off, rfl, hbl, hit⟩ := (HS1.out.below hbz).at_ hlt hkl
      have hst : (l.take (k + 1)).map (rwMap (fun v => v.a)) = (l.take k).map (rwMap (fun v => v.a)) ++ [rwMap (fun v => v.a) l[k]] := by rw [List.take_succ_eq_append_getElem hkl, List.map_append]; rfl
      have htr := HT.out l[k] (List.getElem_mem hkl)
      obtain ⟨x, hx⟩ : ∃ x, l[k] = x := ⟨_, rfl⟩
      rw [hx] at hit hst htr
      have HSt := Lib.hid hst
      obtain ⟨c0, c1, c2, c3, c4, c5, c6, c7, c8, c9⟩ := Vt.tr_cells hit
      have bx := below1 wr #[.string x.key, .int .i64 x.val.a.node, .string x.val.a.id, .string x.val.a.name, .slice x.val.A x.val.n x.val.c, .int .i64 x.val.a.port, .int .u64 (x.val.jm : Int), .int .u64 (x.val.ji : Int), .int .u64 (x.made : Int), .int .u64 (x.ix : Int)] 132
      have kx := heap_alloc_new wr (.cells #[.string x.key, .int .i64 x.val.a.node, .string x.val.a.id, .string x.val.a.name, .slice x.val.A x.val.n x.val.c, .int .i64 x.val.a.port, .int .u64 (x.val.jm : Int), .int .u64 (x.val.ji : Int), .int .u64 (x.made : Int), .int .u64 (x.ix : Int)] 132)
      obtain ⟨W2, hW2⟩ : ∃ W2, wr.alloc (.cells #[.string x.key, .int .i64 x.val.a.node, .string x.val.a.id, .string x.val.a.name, .slice x.val.A x.val.n x.val.c, .int .i64 x.val.a.port, .int .u64 (x.val.jm : Int), .int .u64 (x.val.ji : Int), .int .u64 (x.made : Int), .int .u64 (x.ix : Int)] 132) = W2 := ⟨_, rfl⟩
      rw [hW2] at bx kx
      have hb2 : Below (Xk + 1) w1 W2 := hb.out.trans (bx.mono (by have := hb.out.size; have := HZ0.out; omega))
      have kk := (hb.out.block Xk (by omega)).trans HK0.out
      have d0 : wr.cell? ⟨Xk, 0, none⟩ = some (.func (.func 92) #[] #[]) := cellsN kk 0 _ rfl
      have lk := block_lt kk
      have lx := block_lt kx
      obtain ⟨X, hX⟩ : ∃ X, wr.heap.size = X := ⟨_, rfl⟩
      rw [hX] at lx
      have HTell := Lib.hid (tellService_any x W2 (htr.1.below (by rw [HZ0.out]; exact hb2)) (by have := htr.2; omega))
      have hsl2 := hsl.out.below bx
      have HSl2 := Lib.hid hsl2
      have HSz2 : Hid (X < W2.heap.size) := Lib.hid lx
      have HB2 := Lib.hid hb2
      have HRow := Lib.hid (hrow.out.below bx)
      have HX := Lib.hid hX
      have HW2 := Lib.hid hW2
      unfold Vt.trV at HTell
      clear hbz hit hst bx kx hb2 kk hX hW2 hx lx htr hsl2
      go_wp2_with fail
      rw [HW2.out, HX.out]
      clear c0 c1 c2 c3 c4 c5 c6 c7 c8 c9
      refine HTell.out.mono ?_
      rintro e W3 ⟨A3, c3, rfl, htx, hge, hb3⟩
      obtain ⟨y, hy⟩ : ∃ y : Rw SvW, (⟨x.key, { x.val with A := A3, c := c3 }, x.made, x.ix⟩ : Rw SvW) = y := ⟨_, rfl⟩
      have hy2 : rwMap (fun v => v.a) y = rwMap (fun v => v.a) x ∧ Tx W3 y.val.A y.val.n y.val.c y.val.a.tags ∧ ∀ b off, y.val.A = some ⟨b, off, none⟩ → X ≤ b := by rw [← hy]; exact ⟨rfl, htx, fun b off e => by have := hge b off e; have := HSz2.out; omega⟩
      have HY := Lib.hid hy2
      have HSl3 := Lib.hid (HSl2.out.below hb3)
      rw [hy]
      clear htx hy hy2 hge
      have HB3 : Hid (Below (Xk + 1) w1 W3) := Lib.hid (HB2.out.trans (hb3.mono (by have := HB2.out.size; have := HZ0.out; omega)))
      have HRow3 := Lib.hid (HRow.out.below hb3)
      have hle : (l.take k).length ≤ 64 := by rw [List.length_take]; omega
      have hl2 : l2.length ≤ 1000000 := by rw [hsl.out.svl.len, List.length_map]; omega
      unfold svV
      clear hb3 d0 lk
      go_wp2_with (at_builtin; refine wpList_append_svw rfl (.tmp 14) (.tmp 19) rfl (Xk + 1) _ l2 rfl ?qa W3.heap.size y rfl ?qb ?qd ?qc ?_)
      case qa => exact HRow3.out.below ((Below.refl _ _).alloc (Nat.le_refl _) _)
      case qb => exact sv_new W3 y _
      case qd => exact hl2
      case qc => have := HB3.out.size; have := HZ0.out; simp; omega
      refine Lib.hid ?_
      intro v4 W4 hown hgr hwh
      have HB4 := Lib.hid (svRow.snoc HRow3.out HB3.out (by have := HB3.out.size; have := HZ0.out; omega) hgr)
      have HR4 := Lib.hid hown
      have HSl4 : Hid (SvR W4 v4 (l2 ++ [y]) ((l.take (k + 1)).map (rwMap (fun v => v.a)))) := Lib.hid (by rw [HSt.out, ← HY.out.1]; exact HSl3.out.snoc HY.out.2.1 (fun b off e hn z => by have := HY.out.2.2 b off e; have := (HRow.out.from b z).2; have := (hrow.out.from b z).2; have := HX.out; omega) hgr (by simpa using hwh))
      clear hown hgr hwh
      go_wp2
      go_roundw
      case rel => exact ⟨k + 1, l2 ++ [y], by omega, by go_num, HR4, HSl4, HB4⟩
      case measure => simp [intOf]; omega
    · obtain rfl : k = n := by omega
      have ht : l.take k = l := List.take_of_length_le (by rw [HL.out]; omega)
      rw [ht] at hsl
      go_wp2
      go_ret
      obtain ⟨A2, c2, rfl, h1, h2, h3, h4⟩ := SK.of_row svC_len hrow.out
      exact ⟨l2, ⟨A2, c2, rfl, h1, h2, h3, fun b off e => by have := h4 b off e; have := HXk.out; omega, HB0.out.trans (hb.out.mono (by have := HXk.out; omega))⟩, hsl.out.svl⟩
end Go.Proofs.YtilkbfmaofmjoaaGreatDoor
