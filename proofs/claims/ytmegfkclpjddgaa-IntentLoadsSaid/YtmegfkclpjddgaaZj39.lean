/-
  List: the intentions in their order; For, Decide, walked (layer 17).
-/
import Derived.Test.YtmegfkclpjddgaaZj34
import Derived.Test.YtmegfkclpjddgaaZj37
import Derived.Test.YtmegfkclpjddgaaZj19
import Derived.Test.YtmegfkclpjddgaaZj38
namespace Go.Proofs.Ytmegfkclpjddgaa
open Go.RowKit Go.Sort
set_option linter.unusedSimpArgs false
set_option linter.unusedVariables false

theorem differ_of {l : List Ir} (h : SI l) : l.Pairwise fun a b => ¬ (a.src = b.src ∧ a.dst = b.dst) := List.Pairwise.imp (fun {a b} hab e => by
  have := ahead_diff hab
  rw [sam_iff.2 e] at this
  cases this) h
/-- What the library's sort leaves is the one sorted list. -/
theorem sorted_is {L xs : List Ir} (hs : SI L) (hp : xs.Perm L) {d : Array Ir} (h1 : PermIn 0 xs.toArray.size xs.toArray d) (h2 : SortedIn (Go.Proofs.ltOf cfI) 0 xs.toArray.size d) : d = L.toArray := by
  obtain ⟨hsz, _, hpm⟩ := h1
  have e1 : (d.extract 0 xs.toArray.size).toList = d.toList := by rw [← hsz]; simp
  have e2 : (xs.toArray.extract 0 xs.toArray.size).toList = xs := by simp
  rw [e1, e2] at hpm
  have hpL := hpm.trans hp
  have hdf : d.toList.Pairwise fun a b => ¬ (a.src = b.src ∧ a.dst = b.dst) := (hpL.pairwise_iff (fun {a b} h e => h ⟨e.1.symm, e.2.symm⟩)).2 (differ_of hs)
  have hsd : SI d.toList := by
    unfold SI
    rw [List.pairwise_iff_getElem] at hdf ⊢
    intro i j hi hj hij
    have hi' : i < d.size := by simpa using hi
    have hj' : j < d.size := by simpa using hj
    have h9 := h2 i j (Nat.zero_le _) hij (by rw [← hsz]; exact hj')
    rw [getElem!_pos d j hj', getElem!_pos d i hi', ltOf_cfI] at h9
    have hne := hdf i j hi hj hij
    simp only [Array.getElem_toList] at hne ⊢
    cases hh : aheadI d[i] d[j] with
    | true => rfl
    | false => exact absurd (ahead_tri hh h9) hne
  have := SI.ext hsd hs fun x => hpL.mem_iff
  rw [← this]
set_option maxHeartbeats 2000000 in
theorem sort_any {base : Nat} (L xs : List Ir) (v : Value) (w : World) (hrow : irRow w base v xs) (hp : xs.Perm L) (hs : SI L) (h8 : L.length ≤ 1000) :
    Calls Try.prog 41 #[v, .func (.func 42) #[] #[]] w fun e w' => e = .returned (.tuple #[]) ∧ irRow w' base v L ∧ w.grownBy w' v.ownBlock := by
  have hl := hp.length_eq
  by_cases h0 : xs = []
  · subst h0
    have : L = [] := List.eq_nil_of_length_eq_zero (by simpa using hl.symm)
    subst this
    obtain ⟨A, c, rfl, _⟩ := SK.of_row irC_len hrow
    refine (AnyF.slices_SortFunc_none Try.laysSort A c (.func (.func 42) #[] #[]) w).mono ?_
    rintro e w' ⟨rfl, rfl⟩
    exact ⟨rfl, hrow, World.grownBy.but (World.grownBy.refl _ _) _⟩
  · obtain ⟨g, cap, e, hb, hlt⟩ : ∃ g cap, v = .slice (some ⟨g, 0, none⟩) xs.length cap ∧ base ≤ g ∧ g < w.heap.size := own_form hrow (by
      cases xs with
      | nil => exact absurd rfl h0
      | cons a b => simp)
    subst e
    have hH := holdsK_of_row irC_len hrow
    have eg : ∀ args w, (callFunc 42 args).run Try.prog w = .ok (.enter 42 args) w := enters_of Try.func42 (by kernel_rfl) rfl
    have hcmp : CmpLays Try.prog 42 #[] irC 5 cfI g 0 xs.toArray.size w := fun _ _ _ _ x y => cmp_any x y _
    have hcon := AnyQ.slices_SortFunc Try.laysSort 5 Try.isAgg45 Try.sizeOf45 irC irC_len irC_one cfI swo_cfI 42 #[] g 0 cap xs.toArray w eg hcmp hH hlt (by simp; omega)
    rw [List.size_toArray] at hcon
    refine hcon.mono ?_
    rintro e w' ⟨rfl, d, n, os, h1, h2, rfl⟩
    have e := sorted_is hs hp (d := d) (by simpa using h1) (by simpa using h2)
    subst e
    exact ⟨rfl, by
      have := rowK.sorted (m := n) (os := os) irC_len (l' := L) hl.symm hrow
      exact this, grownBy_sortK _⟩
theorem ir_new' (W : World) (x : Ir) (k : Nat) (hk : W.heap.size = k) (T : TypeId) : ItAt irC (W.alloc (.cells #[.string x.src, .string x.dst, .bool x.allow, .int .u64 (x.made : Int), .int .u64 (x.ix : Int)] T)) k 0 x := hk ▸ ir_new W x T
theorem map_step {l : List (Rw Rl)} {k : Nat} (hk : k < l.length) : (l.take (k + 1)).map irOf = (l.take k).map irOf ++ [irOf l[k]] := by
  rw [List.take_succ_eq_append_getElem hk, List.map_append]
  rfl
set_option maxHeartbeats 4000000 in
set_option maxRecDepth 100000 in
theorem list_walk {p q : Option Addr} {w : World} (rows : List (Rw Rl)) (L : List Ir) (hp : (rows.map irOf).Perm L) (hs : SI L) (h8 : rows.length ≤ 64)
    (hT : Calls Try.prog 38 #[.pointer p] w fun e w' => e = .returned (.pointer q) ∧ w = w') (hL : Calls Try.prog 40 #[.pointer q] w (It.New w rows)) :
    Calls Try.prog 17 #[.pointer p] w fun e w' => ∃ v, e = .returned v ∧ irRow w' w.heap.size v L ∧ Below w.heap.size w w' := by
  have HT := Lib.hid hT
  have HL := Lib.hid hL
  have HP := Lib.hid hp
  have HS := Lib.hid hs
  obtain ⟨X, hX⟩ : ∃ X, w.heap.size = X := ⟨_, rfl⟩
  have HX := Lib.hid hX
  obtain ⟨M, hM⟩ : ∃ M, rows.map irOf = M := ⟨_, rfl⟩
  rw [hM] at HP
  have HM := Lib.hid hM
  obtain ⟨N, hN⟩ : ∃ N, rows.length = N := ⟨_, rfl⟩
  rw [hN] at h8
  have HN := Lib.hid hN
  have hm : N ≤ 9223372036854775807 := by omega
  rw [hX]
  clear hT hL hp hs hX hN hM
  go_enter Try.func17, Try.ntmps17
  go_wp2_with fail
  refine HT.out.mono ?_
  rintro e w' ⟨rfl, rfl⟩
  go_wp2_with fail
  refine HL.out.mono ?_
  rintro e w1 ⟨A, c, rfl, hrow, hle, hmx, hge, hb⟩
  have HR := Lib.hid hrow
  have HB1 := Lib.hid hb
  have hz := hb.size
  obtain ⟨Y, hY⟩ : ∃ Y, w1.heap.size = Y := ⟨_, rfl⟩
  have HY := Lib.hid hY
  rw [hY] at hz
  rw [HX.out] at hz
  have hN := HN.out
  obtain ⟨n2, hn2⟩ : ∃ n2, rows.length = n2 := ⟨_, rfl⟩
  obtain rfl : n2 = N := by omega
  rw [hn2]
  clear hrow hle hmx hge hb hY HL HT hN hn2
  go_wp2
  go_loopw [3, 11] (fun vv iv wr => ∃ k : Nat, k ≤ n2 ∧ iv = .int .i64 (k : Int) ∧ Hid (irRow wr Y vv (M.take k)) ∧ Hid (Below Y w1 wr)) (fun _ iv _ => n2 - (intOf iv).toNat)
  case atStart => exact ⟨0, Nat.zero_le _, rfl, Lib.hid (rowK.nil _ _), Lib.hid (HY.out ▸ Below.refl _ _)⟩
  case round =>
    obtain ⟨k, hk, rfl, hrow, hb⟩ := hrel
    by_cases hlt : k < n2
    · have hkl : k < rows.length := by rw [HN.out]; exact hlt
      obtain ⟨b, off, rfl, hbl, hit⟩ := (HR.out.below (by rw [HY.out]; exact hb.out)).at_ hkl hkl
      obtain ⟨x, hx⟩ : ∃ x, rows[k] = x := ⟨_, rfl⟩
      have hst : M.take (k + 1) = M.take k ++ [irOf x] := by
        rw [← HM.out, ← List.map_take, ← List.map_take, map_step hkl, hx]
      rw [hx] at hit
      obtain ⟨e0, e1, e2, e3, e4, e5⟩ := It.tr_cells hit
      have HSt := Lib.hid hst
      have hle : (M.take k).length ≤ 1000000 := by
        rw [List.length_take]
        omega
      clear hst hx hit
      go_wp2_with (at_builtin; refine wpList_append_ir rfl (.tmp 17) (.tmp 29) rfl Y _ _ rfl ?qa (wr.heap.size + 1 + 1) (irOf x) rfl ?qb hle ?qc ?_)
      case qa => exact hrow.out.below ((((Below.refl _ _).alloc (Nat.le_refl _) _).alloc (by simp) _).alloc (by simp; omega) _)
      case qb => exact ir_new' _ _ _ (by simp) _
      case qc => have := hb.out.size; have := HY.out; simp; omega
      refine Lib.hid ?_
      intro v' w' hown hgr
      have hYz : Y ≤ wr.heap.size := by have := hb.out.size; have := HY.out; omega
      have HB' := Lib.hid ((((hb.out.alloc hYz _).alloc (by simp; omega) _).alloc (by simp; omega) _).grown hgr (by simp; omega) fun _ e => (hrow.out.from _ e).1)
      rw [← HSt.out] at hown
      have HRw := Lib.hid hown
      clear hown hgr e0 e1 e2 e3 e4 e5
      go_wp2
      go_roundw
      case rel => exact ⟨k + 1, by omega, by go_num, HRw, HB'⟩
      case measure => simp [intOf]; omega
    · have hke : M.take k = M := by rw [List.take_of_length_le (by rw [← HM.out, List.length_map, HN.out]; omega)]
      rw [hke] at hrow
      have HSo := Lib.hid (sort_any L M u3 wr hrow.out HP.out HS.out (by have := HP.out.length_eq; have h9 := congrArg List.length HM.out; rw [List.length_map, HN.out] at h9; omega))
      have HRw := Lib.hid hrow.out
      clear hke hrow
      go_wp2_with fail
      refine HSo.out.mono ?_
      rintro e w2 ⟨rfl, hr2, hg2⟩
      have HR2 := Lib.hid hr2
      have HB2 : Hid (Below X w w2) := Lib.hid (by
        have h1 : Below Y w1 w2 := hb.out.grown hg2 (by have := hb.out.size; have := HY.out; omega) fun _ e => (HRw.out.from _ e).1
        have h2 := HB1.out
        rw [HX.out] at h2
        exact h2.trans (h1.mono hz))
      clear hr2 hg2 HSo
      go_wp2
      go_ret
      exact ⟨_, rfl, rowK.base_le HR2.out hz, HB2.out⟩
theorem ilist_any {S : Nat → Prop} {w : World} {B Bt : Nat} {t : Im} (h : InAt S w B Bt t) : Calls Try.prog 17 #[.pointer (some ⟨B, 0, none⟩)] w fun e w' => ∃ v, e = .returned v ∧ irRow w' w.heap.size v t.l ∧ Below w.heap.size w w' := by
  obtain ⟨_, k, T, h0, h1⟩ := h
  exact list_walk T.l t.l h0.perm h0.ok.sorted (by have := h0.len; have := h0.ok.len; have := h0.ok.most.2; omega) (table_is k) (It.list_any h1)
theorem ilist_no {w : World} {p : Option Addr} (h : NoIn w p) : Calls Try.prog 17 #[.pointer p] w fun e w' => ∃ v, e = .returned v ∧ irRow w' w.heap.size v [] ∧ Below w.heap.size w w' :=
  list_walk [] [] (.refl _) .nil (by simp) (table_no h) (It.list_no ⟨.inl rfl⟩)
/-! ### For -/
set_option maxHeartbeats 4000000 in
theorem for_walk {p : Option Addr} {w : World} (l : List Ir) (d : ByteArray) (hd : d.size ≤ maxLen) (h8 : l.length ≤ 64)
    (hL : Calls Try.prog 17 #[.pointer p] w fun e w' => ∃ v, e = .returned v ∧ irRow w' w.heap.size v l ∧ Below w.heap.size w w') :
    Calls Try.prog 14 #[.pointer p, .string d] w fun e w' => ∃ v, e = .returned v ∧ irRow w' w.heap.size v (forI l d) ∧ Below w.heap.size w w' := by
  have HL := Lib.hid hL
  have HMd := Lib.hid (fun (p : ByteArray) (W : World) => match_any p d W hd)
  obtain ⟨X, hX⟩ : ∃ X, w.heap.size = X := ⟨_, rfl⟩
  have HX := Lib.hid hX
  rw [hX]
  clear hL hd hX
  go_enter Try.func14, Try.ntmps14
  go_wp2_with fail
  refine HL.out.mono ?_
  rintro e w1 ⟨v, rfl, hrow0, hb⟩
  obtain ⟨A, c, rfl, hrow1, hle, hmx, hge⟩ := SK.of_row irC_len hrow0
  have HR := Lib.hid hrow1
  have HB1 := Lib.hid hb
  have hz := hb.size
  obtain ⟨Y, hY⟩ : ∃ Y, w1.heap.size = Y := ⟨_, rfl⟩
  have HY := Lib.hid hY
  rw [hY] at hz
  rw [HX.out] at hz
  obtain ⟨n2, hn2⟩ : ∃ n2, l.length = n2 := ⟨_, rfl⟩
  rw [hn2] at h8 ⊢
  have HN := Lib.hid hn2
  have hm : n2 ≤ 9223372036854775807 := by omega
  clear hrow0 hrow1 hle hmx hge hb hY HL hn2
  go_wp2
  go_loopw [5, 11] (fun vv iv wr => ∃ k : Nat, k ≤ n2 ∧ iv = .int .i64 (k : Int) ∧ Hid (irRow wr Y vv (forI (l.take k) d)) ∧ Hid (Below Y w1 wr)) (fun _ iv _ => n2 - (intOf iv).toNat)
  case atStart => exact ⟨0, Nat.zero_le _, rfl, Lib.hid (rowK.nil _ _), Lib.hid (HY.out ▸ Below.refl _ _)⟩
  case round =>
    obtain ⟨k, hk, rfl, hrow, hb⟩ := hrel
    by_cases hlt : k < n2
    · have hkl : k < l.length := by rw [HN.out]; exact hlt
      obtain ⟨b, off, rfl, hbl, hit⟩ := (HR.out.below (by rw [HY.out]; exact hb.out)).at_ hkl hkl
      have hs := for_step (d := d) hkl
      obtain ⟨y, hy⟩ : ∃ y, l[k] = y := ⟨_, rfl⟩
      rw [hy] at hit hs
      obtain ⟨e0, e1, e2, e3, e4⟩ := ir_cells hit
      have HM := Lib.hid (HMd.out y.dst)
      obtain ⟨ub, hub⟩ : ∃ ub, matchB y.dst.data.toList d.data.toList = ub := ⟨_, rfl⟩
      rw [hub] at hs HM
      have HSt := Lib.hid hs
      have hYz : Y ≤ wr.heap.size := by have := hb.out.size; have := HY.out; omega
      obtain ⟨W3, hW3⟩ : ∃ W3, wr.alloc (.cells #[.string y.src, .string y.dst, .bool y.allow, .int .u64 (y.made : Int), .int .u64 (y.ix : Int)] TIn) = W3 := ⟨_, rfl⟩
      have hn : W3.heap[wr.heap.size]? = some (.cells #[.string y.src, .string y.dst, .bool y.allow, .int .u64 (y.made : Int), .int .u64 (y.ix : Int)] TIn (0, 0)) := by rw [← hW3]; exact heap_alloc_new wr _
      have hb3 : Below wr.heap.size wr W3 := by rw [← hW3]; exact below1 _ _ _
      have HB3 : Hid (Below Y w1 W3) := Lib.hid (hb.out.trans (hb3.mono hYz))
      have HR3 : Hid (irRow W3 Y u5 (forI (l.take k) d)) := Lib.hid (hrow.out.below hb3)
      have hYz3 : Y ≤ W3.heap.size := Nat.le_trans hYz hb3.size
      have HW3 := Lib.hid hW3
      obtain ⟨d0, d1, d2, d3, d4⟩ := ir_blk hn
      clear hs hy hit hub hW3 hb3 hn
      go_wp2_with fail
      rw [HW3.out]
      refine (HM.out W3).mono ?_
      rintro e w' ⟨rfl, rfl⟩
      clear HM HW3 e0 e1 e2 e3 e4
      cases ub with
      | false =>
        have HRw := Lib.hid (show irRow W3 Y u5 (forI (l.take (k + 1)) d) by rw [HSt.out, if_neg (by simp), List.append_nil]; exact HR3.out)
        go_wp2
        go_roundw
        case rel => exact ⟨k + 1, by omega, by go_num, HRw, HB3⟩
        case measure => simp [intOf]; omega
      | true =>
        have hle : (forI (l.take k) d).length ≤ 1000000 := by
          have := for_length (l.take k) d
          rw [List.length_take] at this
          omega
        go_wp2_with (at_builtin; refine wpList_append_ir rfl (.tmp 19) (.tmp 21) rfl Y _ _ rfl ?qa W3.heap.size y rfl ?qb hle ?qc ?_)
        case qa => exact HR3.out.below ((Below.refl _ _).alloc (Nat.le_refl _) _)
        case qb => exact ir_new W3 y _
        case qc => simp; omega
        refine Lib.hid ?_
        intro v' w' hown hgr
        have HB' := Lib.hid (irRow.snoc HR3.out HB3.out hYz3 hgr)
        rw [show forI (l.take k) d ++ [y] = forI (l.take (k + 1)) d by rw [HSt.out]; simp] at hown
        have HRw := Lib.hid hown
        clear hown hgr d0 d1 d2 d3 d4
        go_wp2
        go_roundw
        case rel => exact ⟨k + 1, by omega, by go_num, HRw, HB'⟩
        case measure => simp [intOf]; omega
    · have hke : forI (l.take k) d = forI l d := by rw [List.take_of_length_le (by rw [HN.out]; omega)]
      rw [hke] at hrow
      have HB2 : Hid (Below X w wr) := Lib.hid (by
        have h2 := HB1.out
        rw [HX.out] at h2
        exact h2.trans (hb.out.mono hz))
      clear hke
      go_wp2
      go_ret
      exact ⟨_, rfl, rowK.base_le hrow.out hz, HB2.out⟩
theorem ifor_any {S : Nat → Prop} {w : World} {B Bt : Nat} {t : Im} (d : ByteArray) (h : InAt S w B Bt t) (hd : d.size ≤ maxLen) : Calls Try.prog 14 #[.pointer (some ⟨B, 0, none⟩), .string d] w fun e w' => ∃ v, e = .returned v ∧ irRow w' w.heap.size v (forI t.l d) ∧ Below w.heap.size w w' :=
  for_walk t.l d hd (by have := h.ok.len; have := h.ok.most.2; omega) (ilist_any h)
theorem ifor_no {w : World} {p : Option Addr} (d : ByteArray) (h : NoIn w p) (hd : d.size ≤ maxLen) : Calls Try.prog 14 #[.pointer p, .string d] w fun e w' => ∃ v, e = .returned v ∧ irRow w' w.heap.size v [] ∧ Below w.heap.size w w' :=
  for_walk [] d hd (by simp) (ilist_no h)
/-! ### Decide -/
/-- What Decide tells. -/
def DecPost (w : World) (l : List Ir) (s d : ByteArray) (b : Bool) (e : Ending) (w' : World) : Prop :=
  ∃ o, Chosen l s d o ∧ e = .returned (.tuple #[.bool (match o with | none => b | some k => (l.map (·.allow)).getD k false), .bool o.isSome]) ∧ Below w.heap.size w w'
theorem dec_walk {p : Option Addr} {w : World} (l : List Ir) (s d : ByteArray) (b : Bool) (hs : s.size ≤ maxLen) (hd : d.size ≤ maxLen) (h8 : l.length ≤ 64)
    (hL : Calls Try.prog 17 #[.pointer p] w fun e w' => ∃ v, e = .returned v ∧ irRow w' w.heap.size v l ∧ Below w.heap.size w w') :
    Calls Try.prog 28 #[.pointer p, .string s, .string d, .bool b] w (DecPost w l s d b) := by
  have HL := Lib.hid hL
  have HC := Lib.hid (fun (A : Option Addr) (c : Nat) (W : World) (hS : SK irC 5 W A l.length l) => choose_any A l.length c l s d b W hS (by unfold maxLen; omega) hs hd)
  clear hL hs hd
  go_enter Try.func28, Try.ntmps28
  go_wp2_with fail
  refine HL.out.mono ?_
  rintro e w1 ⟨v, rfl, hrow0, hb⟩
  obtain ⟨A, c, rfl, hrow1, hle, hmx, hge⟩ := SK.of_row irC_len hrow0
  have HB1 := Lib.hid hb
  have HC1 := Lib.hid (HC.out A c w1 hrow1)
  clear hrow0 hrow1 hle hmx hge hb HL HC
  go_wp2_with fail
  refine HC1.out.mono ?_
  rintro e w2 ⟨o, ho, rfl, hb2⟩
  have HO := Lib.hid ho
  have HB2 := Lib.hid (HB1.out.trans (hb2.mono HB1.out.size))
  clear ho hb2 HC1
  cases o with
  | none =>
    go_wp2
    go_ret2
    exact ⟨none, HO.out, rfl, HB2.out⟩
  | some k =>
    have q : decide ((k : Int) ≥ 0) = true := decide_eq_true (by omega)
    have q2 : (0 : Int) ≤ (k : Int) := by omega
    obtain ⟨av, hav⟩ : ∃ av, (l.map (·.allow)).getD k false = av := ⟨_, rfl⟩
    have HAv := Lib.hid hav
    simp only [hav]
    clear hav
    go_wp2
    go_ret2
    exact ⟨some k, HO.out, by rw [← HAv.out]; rfl, HB2.out⟩
theorem decide_any {S : Nat → Prop} {w : World} {B Bt : Nat} {t : Im} (s d : ByteArray) (b : Bool) (h : InAt S w B Bt t) (hs : s.size ≤ maxLen) (hd : d.size ≤ maxLen) : Calls Try.prog 28 #[.pointer (some ⟨B, 0, none⟩), .string s, .string d, .bool b] w (DecPost w t.l s d b) :=
  dec_walk t.l s d b hs hd (by have := h.ok.len; have := h.ok.most.2; omega) (ilist_any h)
theorem decide_no {w : World} {p : Option Addr} (s d : ByteArray) (b : Bool) (h : NoIn w p) (hs : s.size ≤ maxLen) (hd : d.size ≤ maxLen) : Calls Try.prog 28 #[.pointer p, .string s, .string d, .bool b] w (DecPost w [] s d b) :=
  dec_walk [] s d b hs hd (by simp) (ilist_no h)
end Go.Proofs.Ytmegfkclpjddgaa
