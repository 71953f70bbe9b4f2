/-
  Unpack, walked (layer 3).
-/
import Derived.Test.YtjbemjnofnifaaaZj43
import Derived.Maps.AppendAt
namespace Go.Proofs.Ytjbemjnofnifaaa
open Go.RowKit Go.Shelf Go.Rel
set_option linter.unusedSimpArgs false
attribute [local go_sem] Oper.semAt_some

theorem fr_info : (Try.prog.info? 28).map (fun i => (i.zero, i.size, i.bytes)) = some (some (.agg #[.int .u8 0, .slice none 0 0]), 2, 32) := by kernel_rfl
def itemCells (x : Item) : List Value := [.int .u8 (x.f.k.toNat : Int), .slice x.A x.f.b.length x.c]
theorem itemCells_length (l : List Item) : (l.flatMap itemCells).length = l.length * 2 := by
  induction l with
  | nil => rfl
  | cons x l ih => rw [List.flatMap_cons, List.length_append, ih, List.length_cons]; simp [itemCells]; omega
theorem itemCells_at : ∀ (l : List Item) (j : Nat) (h : j < l.length), (l.flatMap itemCells)[j * 2]? = some (.int .u8 (l[j].f.k.toNat : Int)) ∧ (l.flatMap itemCells)[j * 2 + 1]? = some (.slice l[j].A l[j].f.b.length l[j].c)
  | x :: l, 0, _ => ⟨rfl, rfl⟩
  | x :: l, j + 1, h => by
    have ih := itemCells_at l j (by simpa using h)
    rw [List.flatMap_cons]
    have e : (itemCells x).length = 2 := rfl
    rw [List.getElem?_append_right (by rw [e]; omega), List.getElem?_append_right (by rw [e]; omega), e, show (j + 1) * 2 - 2 = j * 2 by omega, show (j + 1) * 2 + 1 - 2 = j * 2 + 1 by omega]
    exact ih
theorem items_kept {W W' : World} {row : Option Nat} {pre : List Item} (h : ∀ x ∈ pre, itemR x W) (hg : W.grownBy W' row) (hr : ∀ r, row = some r → ∀ cur, W.heap[r]? ≠ some (.cells cur 5 (0, 0))) : ∀ x ∈ pre, itemR x W' := fun x hx => by
  obtain ⟨⟨⟨h1, h2⟩, h3⟩, h4⟩ := h x hx
  exact ⟨⟨⟨h1.grownT h3 hg hr, h2⟩, h3.grown hg hr⟩, h4⟩
theorem RFs.of_rowB {W : World} {base : Nat} {v : Value} {pre : List Item} (h : W.ownsRow base 28 2 v pre.length (pre.flatMap itemCells)) (hi : ∀ x ∈ pre, BodyAt W x.A x.c x.f.b) :
    ∃ A c, v = .slice A pre.length c ∧ RFs W A pre.length (pre.map (·.f)) ∧ (A = none → c = 0) ∧ pre.length ≤ c := by
  rcases h.2 with ⟨rfl, h0⟩ | ⟨g, cap, cur, rfl, _, hh, hle, hm, hsz, ht⟩
  · have : pre = [] := by
      cases pre with
      | nil => rfl
      | cons x l => simp [itemCells] at h0
    subst this
    exact ⟨none, 0, rfl, RFs.zero _ _, fun _ => rfl, Nat.le_refl _⟩
  · refine ⟨some ⟨g, 0, none⟩, cap, rfl, ⟨by simp, fun _ => ?_⟩, (fun e => by cases e), hle⟩
    have hgl : g < W.heap.size := (Array.getElem?_eq_some_iff.1 hh).1
    refine ⟨g, 0, rfl, hgl, fun j hj => ?_⟩
    have hj' : j < pre.length := by simpa using hj
    obtain ⟨e0, e1⟩ := itemCells_at pre j hj'
    have c0 := h.cells (g := g) rfl _ _ e0
    have c1 := h.cells (g := g) rfl _ _ e1
    have pa : ∀ k, (⟨g, 0, none⟩ : Addr).add k = ⟨g, 0 + k, none⟩ := fun k => by unfold Addr.add; split <;> simp_all
    rw [pa] at c0 c1
    have hx := hi pre[j] (List.getElem_mem hj')
    rw [List.getElem_map]
    exact ⟨hgl, c0, pre[j].A, pre[j].c, by rw [Nat.add_assoc]; exact c1, hx⟩
theorem RFs.of_row {W : World} {base : Nat} {v : Value} {pre : List Item} (h : W.ownsRow base 28 2 v pre.length (pre.flatMap itemCells)) (hi : ∀ x ∈ pre, itemR x W) :
    ∃ A c, v = .slice A pre.length c ∧ RFs W A pre.length (pre.map (·.f)) ∧ (A = none → c = 0) ∧ pre.length ≤ c := RFs.of_rowB h (fun x hx => (hi x hx).1.1)
theorem cell_two_new (w : World) (x y : Value) (t : TypeId) (j : Nat) (u : Value) (h : [x, y][j]? = some u) : (w.alloc (.cells #[x, y] t)).cell? ((⟨w.heap.size, 0, none⟩ : Addr).add j) = some u := by
  have pa : ∀ k, (⟨w.heap.size, 0, none⟩ : Addr).add k = ⟨w.heap.size, 0 + k, none⟩ := fun k => by unfold Addr.add; split <;> simp_all
  rw [pa, Nat.zero_add, cell_of_row _ w.heap.size j _ _ (0, 0) (heap_alloc_new w _)]
  simpa using h
theorem row_not_u8 {W : World} {base : Nat} {v : Value} {k : Nat} {xs : List Value} (h : W.ownsRow base 28 2 v k xs) : ∀ r, v.ownBlock = some r → ∀ cur, W.heap[r]? ≠ some (.cells cur 5 (0, 0)) := fun r e cur hc => by
  rcases h.2 with ⟨rfl, _⟩ | ⟨g, cap, cur', rfl, _, hh, _⟩
  · cases e
  · have : g = r := by simpa [Value.ownBlock] using e
    subst this
    rw [hh] at hc
    simp at hc

def UnPost (w : World) (xs : List UInt8) (fs : List Fr) (r : List UInt8) (e : Ending) (w' : World) : Prop :=
  Below w.heap.size w w' ∧ ((errUn xs fs r ≠ 0 ∧ e = .returned (.tuple #[.slice none 0 0, .int .i64 (errUn xs fs r : Int)])) ∨
    (errUn xs fs r = 0 ∧ ∃ A c, e = .returned (.tuple #[.slice A fs.length c, .int .i64 0]) ∧ RFs w' A fs.length fs ∧ (A = none → c = 0) ∧ fs.length ≤ c))
theorem keys_f {pre : List Item} {fs : List Fr} (h : ItS fs pre) : pre.map (·.f) = fs ∧ pre.length = fs.length := by
  have hl : pre.length = fs.length := by
    have := congrArg List.length h
    rwa [List.length_map, told_length] at this
  refine ⟨?_, hl⟩
  have h2 := congrArg (List.map Prod.snd) h
  rw [List.map_map] at h2
  have e1 : pre.map (·.f) = pre.map (Prod.snd ∘ Item.key) := rfl
  rw [e1, h2, told, List.map_map]
  apply List.ext_getElem
  · simp
  · intro i h1 h3
    simp [List.getD, List.getElem?_eq_getElem h3]

set_option maxHeartbeats 4000000 in
set_option maxRecDepth 100000 in
theorem unpack_any (A : Option Addr) (n c : Nat) (xs : List UInt8) (fs : List Fr) (r : List UInt8) (hcut : Cut xs fs r) (w : World) (hR : RB w A n xs) (hnc : n ≤ c) :
    Calls Try.prog 41 #[.slice A n c] w (UnPost w xs fs r) := by
  refine (callsIn_wide (n := 3)).1 ?_
  obtain ⟨i0, hi, hz0, hz1, hz2⟩ := info_parts fr_info
  have hl := hR.1
  by_cases hsz : n = 0 ∨ 1400 < n
  · have HE : Hid (errUn xs fs r = 5) := Lib.hid (by unfold errUn; rw [if_pos (by rw [hl]; exact hsz)])
    clear hR hcut hl
    refine callsIn_of_wp_marks Try.func41 rfl trivial ?_ rfl
    simp only [Try.ntmps41, List.size_toArray, List.length_cons, List.length_nil, Nat.reduceAdd, Nat.reduceSub, Array.replicate_succ, Array.replicate_zero, List.push_toArray, List.append_toArray, List.nil_append, List.cons_append]
    rcases hsz with h0 | h0
    · subst h0
      gi_wp2
      refine ⟨_, results_tmp2 rfl _ _ _, Below.refl _ _, .inl ⟨by rw [HE.out]; omega, by rw [HE.out]; rfl⟩⟩
    · have q0 : ((n : Int) == 0) = false := by rw [beq_eq_false_iff_ne]; omega
      have q1 : (1400 : Int) < (n : Int) := by omega
      gi_wp2
      refine ⟨_, results_tmp2 rfl _ _ _, Below.refl _ _, .inl ⟨by rw [HE.out]; omega, by rw [HE.out]; rfl⟩⟩
  · have h1 : 0 < n := by omega
    have h2 : n ≤ 1400 := by omega
    have q0 : ((n : Int) == 0) = false := by rw [beq_eq_false_iff_ne]; omega
    have q1 : (n : Int) ≤ 1400 := by omega
    have s1 := end_any A n c xs fs r hcut w hR hnc (by omega)
    obtain ⟨ER, hER⟩ : ∃ e, errE r = e := ⟨_, rfl⟩
    have HUn : Hid (errUn xs fs r = if ER ≠ 0 then ER else if 32 < fs.length then 5 else 0) := Lib.hid (by unfold errUn; rw [if_neg (by rw [hl]; exact hsz), hER])
    rw [hER] at s1
    obtain ⟨PL, hPL⟩ : ∃ e, placeOf fs fs.length = e := ⟨_, rfl⟩
    rw [hPL] at s1
    have HR := Lib.hid hR
    have HSeq := Lib.hid (fun (w3 : World) (hb : Below w.heap.size w w3) => walk_tells (3 - 1) (by omega) (w3.heap.size + 1) w.heap.size n c A xs fs r hcut ((w3.alloc (.cells #[.slice none 0 0] 55)).alloc (.cells #[.slice A n c] 26)) (by simp) (by have := hb.size; simp; omega)
      (by
        have := cell_of_row ((w3.alloc (.cells #[.slice none 0 0] 55)).alloc (.cells #[.slice A n c] 26)) (w3.heap.size + 1) 0 #[.slice A n c] 26 (0, 0) (by
          have := heap_alloc_new (w3.alloc (.cells #[.slice none 0 0] 55)) (.cells #[.slice A n c] 26)
          rwa [World.size_alloc] at this)
        exact this)
      ⟨((hR.below hb).alloc _).alloc _, fun b off e h0 => by obtain ⟨b', o', e', hlt, _⟩ := hR.2 h0; rw [e] at e'; cases e'; exact hlt⟩ hnc (by omega))
    have hfl : fs.length ≤ 200 := by
      have h3 := encs_length_le fs
      have h4 := hcut.2.1
      rw [h4, List.length_append] at hl
      omega
    clear hR hcut hl hsz hER hPL
    refine callsIn_of_wp_marks Try.func41 rfl trivial ?_ rfl
    simp only [Try.ntmps41, List.size_toArray, List.length_cons, List.length_nil, Nat.reduceAdd, Nat.reduceSub, Array.replicate_succ, Array.replicate_zero, List.push_toArray, List.append_toArray, List.nil_append, List.cons_append]
    gi_wp2_with fail
    refine ⟨trivial, (callsIn_wide.2 s1).mono ?_⟩
    rintro e w3 ⟨rfl, hb3⟩
    have HB3 := Lib.hid hb3
    clear s1 hb3
    by_cases hE0 : ER = 0
    · subst hE0
      gi_wp2_with fail
      refine ⟨trivial, (callsIn_wide.2 (walk_any A n c _)).mono ?_⟩
      rintro e w4 ⟨rfl, rfl⟩
      have hBw3 := HB3.out.size
      have bL := (Boxed.new w3 55 (.slice none 0 0)).alloc (.cells #[.slice A n c] 26)
      have bN := Boxed.new (w3.alloc (.cells #[.slice none 0 0] 55)) 26 (.slice A n c)
      rw [World.size_alloc] at bN
      have hB4 : Below w.heap.size w ((w3.alloc (.cells #[.slice none 0 0] 55)).alloc (.cells #[.slice A n c] 26)) := (HB3.out.alloc hBw3 _).alloc (by simp; omega) _
      gi_wp2
      refine wpIn_range_tells rfl (by omega) (gf := 79) (lb := #[.pointer (some ⟨w3.heap.size + 1, 0, none⟩)]) (by simp [go_sem]) trivial (enters_of Try.func79 (by kernel_rfl) rfl) (HSeq.out w3 HB3.out) kpB_t (kpB_b (by simp; omega) (by simp)) (Below.refl _ _) (fun _ => rfl)
        (fun pre W => (((∃ v, Boxed W w3.heap.size 55 v ∧ W.ownsRow w.heap.size 28 2 v pre.length (pre.flatMap itemCells) ∧ True) ∧ Boxed W (w3.heap.size + 1) 26 (.slice A n c)) ∧ (∀ x ∈ pre, itemR x W)) ∧ Below w.heap.size w W)
        (fun _ _ _ => False)
        (OwnFrom.and (OwnFrom.and (OwnFrom.and (Own.from (holdsRow_own w.heap.size w3.heap.size 55 28 2 (fun pre : List Item => pre.length) (fun pre => pre.flatMap itemCells) (fun _ _ => True)) _) (Own.from (boxed_own (w3.heap.size + 1) 26 (fun _ => .slice A n c)) _)) (fun pre W W' row hs hg hr => items_kept hs hg (fun r e cur h => by obtain ⟨_, o, ho, hn⟩ := hr r e; rw [ho] at h; cases h; cases hn))) (ownFrom_below (Nat.le_refl _) (by simp; omega)))
        (fun _ _ _ _ _ hs _ _ => hs)
        ⟨⟨⟨⟨_, bL, World.ownsRow_nil _ _ _ _, trivial⟩, bN⟩, by simp⟩, hB4⟩
        (itemAx (fun x Bx => { tmps := #[.slice A n c, undef, .slice none 0 0, .int .i64 0, .int .i64 (PL : Int), .int .i64 0, .pointer (some ⟨w3.heap.size, 0, none⟩), undef, .pointer (some ⟨Bx, 0, none⟩), .slice A n c, .int .i64 (n : Int), .bool false, .bool false, .slice A n c, .int .i64 (n : Int), .bool (decide ((1400 : Int) < (n : Int))), .bool (decide ((1400 : Int) < (n : Int))), .tuple #[.int .i64 (PL : Int), .int .i64 0], .slice A n c, .tuple #[.int .i64 (PL : Int), .int .i64 0], .int .i64 (PL : Int), .int .i64 0, .int .i64 0, .bool false, undef, .slice A n c, .func (.func 79) #[] #[.pointer (some ⟨w3.heap.size + 1, 0, none⟩)], .int .i64 (x.p : Int), frV x.f x.A x.c, undef, undef, undef, undef, undef, undef, undef, undef], defers := [] }))
        (itemAx_own _ _) ?assign ?body ?done ?stop
      case assign =>
        rintro l pre x W K ⟨⟨⟨⟨v, hv, hrow, _⟩, hbn⟩, hit⟩, hB⟩ hR' hK
        unfold itemEncs frV
        gi_wp2
        have hbx : Below W.heap.size W (W.alloc (.cells #[.int .u8 (x.f.k.toNat : Int), .slice x.A x.f.b.length x.c] 28)) := (Below.refl _ W).alloc (Nat.le_refl _) _
        have hnl : w3.heap.size + 1 < W.heap.size := (Array.getElem?_eq_some_iff.1 hbn).1
        obtain ⟨e0, e1, _, _⟩ := box2 (Below.refl (W.heap.size + 1) (W.alloc (.cells #[.int .u8 (x.f.k.toNat : Int), .slice x.A x.f.b.length x.c] 28)))
        exact hK _ _ ((KeepsOthers.alloc _ _).from _) (kpB_of hbx hB.size hnl) ⟨⟨⟨⟨v, hv.alloc _, hrow.alloc _, trivial⟩, hbn.alloc _⟩, items_kept hit (grown_of hbx none) (fun r e => by cases e)⟩, hB.alloc hB.size _⟩ ⟨W.heap.size, e0, e1, ⟨⟨hR'.1.1.below hbx, hR'.1.2.grown (grown_of hbx none) (fun r e => by cases e)⟩, hR'.2⟩, rfl⟩
      case body =>
        rintro l pre x a' W hl ⟨r0, hr0⟩ ⟨⟨⟨⟨v, hv, hrow, _⟩, hbn⟩, hit⟩, hB⟩ ⟨Bx, e0, e1, hRx, rfl⟩ hlt
        have hcL := hv.cell
        have hpl : pre.length < 200 := by omega
        have hBsz := hB.size
        have HRow := Lib.hid hrow
        have HV := Lib.hid hv
        have HBN := Lib.hid hbn
        have HIt := Lib.hid hit
        have HBB := Lib.hid hB
        have HRX := Lib.hid hRx
        unfold frV
        dsimp only
        clear hrow hv hbn hit hB hRx hr0 hlt
        gi_wp2_with (gi_at_builtin; refine wpListIn_append_own _ rfl _ _ 55 rfl w.heap.size 28 i0 (.agg #[.int .u8 0, .slice none 0 0]) 2 32 Try.underlying55 hi hz0 hz1 hz2 rfl (by decide) _ _ _ rfl (HRow.out.alloc _) ⟨W.heap.size, 0, none⟩ 1 1 [.int .u8 (x.f.k.toNat : Int), .slice x.A x.f.b.length x.c] rfl rfl (cell_two_new _ _ _ _) (by simp [Value.oneCell']) (by unfold maxLen; omega) (by omega) (by simp; omega) ?_; intro v' w1 hown' hgrow _; obtain ⟨g', cap', rfl⟩ := ownsRow_succ hown'; obtain ⟨hv1, hv2, hr2, hk2, hb2⟩ := HV.out.appended (by decide) HRow.out hBsz (by omega) hown' hgrow; have hc1 := hv1.cell; have hf1 := hv1.frozen; have HV2 := Lib.hid hv2; have HR2 := Lib.hid hr2; have HK2 := Lib.hid hk2; have HB2 := Lib.hid hb2; have HG := Lib.hid hgrow; clear hv1 hv2 hr2 hk2 hb2 hgrow hown')
        have hgA : ∀ r, v.ownBlock = some r → ∀ cur, (W.alloc (.cells #[.int .u8 (x.f.k.toNat : Int), .slice x.A x.f.b.length x.c] 28)).heap[r]? ≠ some (.cells cur 5 (0, 0)) := row_not_u8 (HRow.out.alloc _)
        have hbx : Below W.heap.size W (W.alloc (.cells #[.int .u8 (x.f.k.toNat : Int), .slice x.A x.f.b.length x.c] 28)) := (Below.refl _ W).alloc (Nat.le_refl _) _
        have hi1 : ∀ y ∈ pre ++ [x], itemR y (W.alloc (.cells #[.int .u8 (x.f.k.toNat : Int), .slice x.A x.f.b.length x.c] 28)) := items_kept (fun y hy => by
          rcases List.mem_append.1 hy with h | h
          · exact HIt.out y h
          · rw [List.mem_singleton.1 h]; exact HRX.out) (grown_of hbx none) (fun r e => by cases e)
        have hi2 := items_kept hi1 HG.out hgA
        have hvA := HV.out.alloc (.cells #[.int .u8 (x.f.k.toNat : Int), .slice x.A x.f.b.length x.c] 28)
        have hbA := HBN.out.alloc (.cells #[.int .u8 (x.f.k.toNat : Int), .slice x.A x.f.b.length x.c] 28)
        have hrA := HRow.out.alloc (.cells #[.int .u8 (x.f.k.toNat : Int), .slice x.A x.f.b.length x.c] 28)
        have hbl1 : Boxed w1 w3.heap.size 55 v := hvA.kept HG.out (Boxed.not_row hvA (by decide) hrA)
        have hi3 := items_kept hi2 (grown_set w1 w3.heap.size 0 (.slice (some ⟨g', 0, none⟩) (pre.length + 1) cap')) (fun r e cur h => by
          have e' : w3.heap.size = r := by simpa using e
          subst e'
          rw [show w1.heap[w3.heap.size]? = _ from hbl1] at h
          simp at h)
        have hbn1 : Boxed w1 (w3.heap.size + 1) 26 (.slice A n c) := hbA.kept HG.out (Boxed.not_row hbA (by decide) hrA)
        have hbn2 := hbn1.other (B' := w3.heap.size) (by omega) (.slice (some ⟨g', 0, none⟩) (pre.length + 1) cap')
        refine ⟨HK2.out.from _, ⟨HB2.out, ?_⟩, ⟨⟨⟨⟨_, HV2.out, ?_, trivial⟩, hbn2⟩, hi3⟩, HBB.out.trans HB2.out⟩⟩
        · rw [show _ = _ from hbn2, show _ = _ from HBN.out]
        · have := HR2.out
          rw [List.length_append, List.flatMap_append]
          simpa [itemCells] using this
      case done =>
        rintro D ys W hD hS ⟨⟨⟨⟨v, hv, hrow, _⟩, hbn⟩, hit⟩, hB⟩ hK
        obtain ⟨hkf, hkl⟩ := keys_f hS
        obtain ⟨A4, c4, rfl, hRF, hnil4, hle4⟩ := RFs.of_row (ownsRow_putObj hrow (.deferred none) hK rfl) (items_kept hit (grownBy_putObj' W D (.deferred none)) (fun r e cur h => by cases e; rw [hK] at h; cases h))
        rw [hkf, hkl] at hRF
        rw [hkl] at hle4 hv
        have hcL := hv.cell
        have HRF := Lib.hid hRF
        have HN4 := Lib.hid hnil4
        have HD : Hid (Below w.heap.size w (W.putObj D (.deferred none))) := Lib.hid (hB.trans (belowK_b (w := w) (Nat.le_refl _) W D _ _ (by simp at hD; omega) hK rfl rfl))
        have HUE : Hid (errUn xs fs r = if 32 < fs.length then 5 else 0) := Lib.hid (by rw [HUn.out, if_neg (by simp)])
        obtain ⟨N, hN⟩ : ∃ N, fs.length = N := ⟨_, rfl⟩
        rw [hN] at hcL hle4 HRF HUE
        have HNN := Lib.hid hN
        clear hkf hkl hrow hRF hnil4 hS hit hN
        by_cases h32 : 32 < N
        · have HU5 : Hid (errUn xs fs r = 5) := Lib.hid (by rw [HUE.out, if_pos h32])
          have t1 : (32 : Int) < (N : Int) := by omega
          gi_wp2
          refine ⟨by simp, .inl ⟨_, _, rfl, run_takeDeferred hK, ?_⟩⟩
          exact ⟨_, results_tmp2 rfl _ _ _, HD.out, .inl ⟨by rw [HU5.out]; omega, by rw [HU5.out]; rfl⟩⟩
        · have HU5 : Hid (errUn xs fs r = 0) := Lib.hid (by rw [HUE.out, if_neg h32])
          have t1 : (N : Int) ≤ 32 := by omega
          clear h32
          gi_wp2
          refine ⟨by simp, .inl ⟨_, _, rfl, run_takeDeferred hK, ?_⟩⟩
          exact ⟨_, results_tmp2 rfl _ _ _, HD.out, .inr ⟨HU5.out, A4, c4, by rw [HNN.out]; rfl, by rw [HNN.out]; exact HRF.out, HN4.out, by rw [HNN.out]; exact hle4⟩⟩
      case stop =>
        rintro D c' pre W _ _ h _
        exact h.elim
    · have HUE : Hid (errUn xs fs r = ER) := Lib.hid (by rw [HUn.out, if_pos hE0])
      have e0 : ((ER : Int) == 0) = false := by rw [beq_eq_false_iff_ne]; omega
      have e0' : ((ER : Int) != 0) = true := by rw [bne_iff_ne]; omega
      have HE0 := Lib.hid hE0
      clear hE0
      gi_wp2
      exact ⟨_, results_tmp2 rfl _ _ _, HB3.out, .inl ⟨by rw [HUE.out]; exact HE0.out, by rw [HUE.out]; rfl⟩⟩
end Go.Proofs.Ytjbemjnofnifaaa
