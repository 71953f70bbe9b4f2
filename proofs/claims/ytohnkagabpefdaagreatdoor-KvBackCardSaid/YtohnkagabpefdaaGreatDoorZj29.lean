/-
  List: the entries under a prefix, walked (layer 16).
-/
import Derived.Test.YtohnkagabpefdaaGreatDoorZj28
namespace Go.Proofs.YtohnkagabpefdaaGreatDoor
open Go.RowKit Go.Rel Go.Shelf
set_option linter.unusedSimpArgs false
set_option linter.unusedVariables false

theorem en_info : (Tryz.prog.info? TEn).map (fun i => (i.zero, i.size, i.bytes)) = some (some (.agg #[.string ⟨#[]⟩, .string ⟨#[]⟩, .int .u64 0, .int .u64 0, .int .u64 0, .int .u64 0]), 6, 64) := by kernel_rfl
abbrev enRow (w : World) (base : Nat) (v : Value) (l : List En) : Prop := rowK enC TEn 6 w base v l
/-- append of an entry to a row of the call's own. -/
theorem wpList_append_en {w : World} {ops : Array Oper} {rest : List Oper} {o : Oper} {a : Act} {Q : Exit → Act → World → Prop} (hgd : o.guard = none) (s x : Operand)
    (ho : o.op = .call { callee := .builtin .append, args := #[s, x], argTypes := #[36, 36] })
    (base : Nat) (v : Value) (l : List En) (hs : a.eval s = v) (hown : enRow w base v l) (X : Nat) (y : En) (hx : a.eval x = .slice (some ⟨X, 0, none⟩) 1 1) (hc : ItAt enC w X 0 y)
    (hl : l.length ≤ 1000) (hbase : base ≤ w.heap.size)
    (h : Hid (∀ v' w', enRow w' base v' (l ++ [y]) → w.grownBy w' v.ownBlock → wpList Tryz.prog ops Q rest (a.put o.dst v') w')) : wpList Tryz.prog ops Q (o :: rest) a w := by
  obtain ⟨i0, hi, hz0, hz1, hz2⟩ := info_parts en_info
  exact wpList_append_k hgd s x _ ho i0 _ 64 Tryz.underlying36 hi hz0 hz1 hz2 rfl (by decide) Kt.trC_len Kt.trC_one base v l hs hown X y hx hc (by unfold maxLen; omega) (by omega) hbase h
/-- An entry that was just laid. -/
theorem en_new (w : World) (r : En) (T : TypeId) : ItAt enC (w.alloc (.cells #[.string r.key, .string r.val.v, .int .u64 (r.val.ses : Int), .int .u64 (r.val.lck : Int), .int .u64 (r.made : Int), .int .u64 (r.ix : Int)] T)) w.heap.size 0 r := ItAt.of_new r _ rfl T
theorem enRow.snoc {w0 wr w' : World} {base : Nat} {v : Value} {l : List En} (h : enRow wr base v l) (hb : Below base w0 wr) (hB : base ≤ wr.heap.size) (hg : wr.grownBy w' v.ownBlock) : Below base w0 w' :=
  hb.grown hg hB fun _ e => (h.from _ e).1
set_option maxHeartbeats 4000000 in
theorem list_walk {w : World} {v0 : Value} {q : Option Addr} {l : List En} (p : ByteArray) (hT : Calls Tryz.prog 34 #[v0] w fun e w' => e = .returned (.pointer q) ∧ w = w')
    (hU : Calls Tryz.prog 38 #[.pointer q, .string p] w (Kt.New w l)) (hl : l.length ≤ 64) :
    Calls Tryz.prog 14 #[v0, .string p] w (NewRows enC 6 w l) := by
  have HT := Lib.hid hT
  have HU := Lib.hid hU
  obtain ⟨L, hL⟩ : ∃ L, l.length = L := ⟨_, rfl⟩
  rw [hL] at hl
  have HL := Lib.hid hL
  have hm : L ≤ 9223372036854775807 := by omega
  clear hT hU hL
  go_enter Tryz.func14, Tryz.ntmps14
  go_wp2_with fail
  refine HT.out.mono ?_
  rintro e w' ⟨rfl, rfl⟩
  go_wp2_with fail
  refine HU.out.mono ?_
  rintro e w1 ⟨A, c, rfl, hsk, hlc, hcm, -, hb1⟩
  have HB1 := Lib.hid hb1
  have HSk := Lib.hid hsk
  obtain ⟨g0, hg0⟩ : ∃ g0, w1.heap.size = g0 := ⟨_, rfl⟩
  have HG0 := Lib.hid hg0
  rw [HL.out] at hlc
  rw [HL.out]
  clear hb1 hsk hg0 HU HT
  go_wp2_with fail
  go_loopw [5, 13] (fun vv iv wr => ∃ k : Nat, k ≤ L ∧ iv = .int .i64 (k : Int) ∧ Hid (enRow wr g0 vv (l.take k)) ∧ Hid (Below g0 w1 wr)) (fun _ iv _ => L - (intOf iv).toNat)
  case atStart => exact ⟨0, Nat.zero_le _, rfl, Lib.hid (rowK.nil _ _), Lib.hid (HG0.out ▸ Below.refl _ _)⟩
  case round =>
    obtain ⟨k, hk, rfl, hrow, hb⟩ := hrel
    have hgs : g0 ≤ wr.heap.size := by have := hb.out.size; have := HG0.out; omega
    by_cases hlt : k < L
    · have hkl : k < l.length := by rw [HL.out]; exact hlt
      have hsk := HSk.out.below (HG0.out ▸ hb.out)
      obtain ⟨b, off, rfl, hbl, hit⟩ := hsk.at_ hkl hkl
      have hst : l.take (k + 1) = l.take k ++ [l[k]] := List.take_succ_eq_append_getElem hkl
      obtain ⟨y, hy⟩ : ∃ y, l[k] = y := ⟨_, rfl⟩
      rw [hy] at hit hst
      have HSt := Lib.hid hst
      obtain ⟨e0, e1, e2, e3, e4, e5⟩ := Kt.tr_cells hit
      obtain ⟨W3, hW3⟩ : ∃ W3, wr.alloc (.cells #[.string y.key, .string y.val.v, .int .u64 (y.val.ses : Int), .int .u64 (y.val.lck : Int), .int .u64 (y.made : Int), .int .u64 (y.ix : Int)] 68) = W3 := ⟨_, rfl⟩
      have hn : W3.heap[wr.heap.size]? = some (.cells #[.string y.key, .string y.val.v, .int .u64 (y.val.ses : Int), .int .u64 (y.val.lck : Int), .int .u64 (y.made : Int), .int .u64 (y.ix : Int)] 68 (0, 0)) := by rw [← hW3]; exact heap_alloc_new wr _
      have hb3 : Below wr.heap.size wr W3 := by rw [← hW3]; exact below1 _ _ _
      obtain ⟨d0, d1, d2, d3, d4, d5⟩ := Kt.blk hn
      have hle : (l.take k).length ≤ 1000 := by rw [List.length_take]; omega
      have HR3 := Lib.hid (hrow.out.below hb3)
      have HB3 := Lib.hid (hb.out.trans (hb3.mono hgs))
      have HS3 : Hid (g0 ≤ W3.heap.size) := Lib.hid (Nat.le_trans hgs hb3.size)
      have HWh := Lib.hid (whole_any y W3)
      unfold enV Kt.trV at HWh
      have HW3 := Lib.hid hW3
      clear hy hit hsk hst hn hb3 hW3 hrow hb
      go_wp2_with fail
      rw [HW3.out]
      refine HWh.out.mono ?_
      rintro e w4 ⟨rfl, hb4⟩
      have HR4 := Lib.hid (HR3.out.below hb4)
      have HB4 := Lib.hid (HB3.out.trans (hb4.mono HS3.out))
      have HS4 : Hid (g0 ≤ w4.heap.size) := Lib.hid (Nat.le_trans HS3.out hb4.size)
      clear hb4 HR3 HB3 HS3 HWh d0 d1 d2 d3 d4 d5
      go_wp2_with (at_builtin; refine wpList_append_en rfl (.tmp 17) (.tmp 20) rfl g0 _ _ rfl ?qa w4.heap.size y rfl ?qb hle ?qc ?_)
      case qa => exact HR4.out.below (below1 _ _ _)
      case qb => exact en_new w4 y _
      case qc => have := HS4.out; simp; omega
      refine Lib.hid ?_
      intro v' w' hown hgr
      have HB' := Lib.hid (enRow.snoc (HR4.out.below (below1 w4 #[.string y.key, .string y.val.v, .int .u64 (y.val.ses : Int), .int .u64 (y.val.lck : Int), .int .u64 (y.made : Int), .int .u64 (y.ix : Int)] TEn)) (HB4.out.alloc HS4.out _) (by have := HS4.out; simp; omega) hgr)
      rw [← HSt.out] at hown
      have HR := Lib.hid hown
      clear hown hgr
      go_wp2
      go_roundw
      case rel => exact ⟨k + 1, by omega, by go_num, HR, HB'⟩
      case measure => simp [intOf]; omega
    · have hke : l.take k = l := List.take_of_length_le (by rw [HL.out]; omega)
      rw [hke] at hrow
      obtain ⟨A2, c2, rfl, hSK, hnc, hmc, hge⟩ := SK.of_row Kt.trC_len hrow.out
      have HX := Lib.hid (And.intro hSK (And.intro hnc (And.intro hmc hge)))
      clear hke hSK hnc hmc hge hrow
      go_wp2
      go_ret
      have h1 := HB1.out.size
      exact ⟨A2, c2, rfl, HX.out.1, HX.out.2.1, HX.out.2.2.1, fun b off e => by have := HX.out.2.2.2 b off e; have := HG0.out; omega, HB1.out.trans (hb.out.mono (by have := HG0.out; omega))⟩
theorem klist_any {S : Nat → Prop} {w : World} {B Bt : Nat} {t : Tb Kp} (p : ByteArray) (h : KvAt S w B Bt t) (hp : p.size ≤ maxLen) : Calls Tryz.prog 14 #[.pointer (some ⟨B, 0, none⟩), .string p] w (NewRows enC 6 w (undR t.l p)) := by
  obtain ⟨hk, _, k, h1⟩ := h
  exact list_walk p (table_is k) (Kt.under_t p h1 hp) (Nat.le_trans (und_length _ _) (Nat.le_trans hk.ok.len hk.ok.most.2))
theorem klist_no {w : World} {q : Option Addr} (p : ByteArray) (h : NoKv w q) (hp : p.size ≤ maxLen) : Calls Tryz.prog 14 #[.pointer q, .string p] w (NewRows enC 6 w []) :=
  list_walk (l := []) p (table_no h) (Kt.under_no p ⟨.inl rfl⟩ hp) (Nat.zero_le _)
end Go.Proofs.YtohnkagabpefdaaGreatDoor
/-
  The document's store in memory; its New, walked (layer 16).
-/
namespace Go.Proofs.YtohnkagabpefdaaGreatDoor
open Go.RowKit
set_option linter.unusedSimpArgs false
set_option linter.unusedVariables false

abbrev TKr : TypeId := 38
/-- The document's table t behind block B, its rows in S. -/
structure KrIs (S : Nat → Prop) (w : World) (B : Nat) (A : Option Addr) (c : Nat) (t : Tb Kp) : Prop where
  mine : S B
  blk : w.heap[B]? = some (.cells #[.int .i64 (t.most : Int), .slice A t.l.length c, .int .u64 (t.last : Int)] TKr (0, 0))
  row : SK enC 6 w A t.l.length t.l
  own : ∀ b off, A = some ⟨b, off, none⟩ → 0 < t.l.length → S b ∧ b ≠ B
  le : t.l.length ≤ c
  max : c ≤ maxLen
def KrAt (S : Nat → Prop) (w : World) (B : Nat) (t : Tb Kp) : Prop := t.Ok ∧ ∃ A c, KrIs S w B A c t
section
variable {S S' : Nat → Prop} {w w' : World} {B : Nat} {A : Option Addr} {c : Nat} {t : Tb Kp}
theorem KrIs.lt (h : KrIs S w B A c t) : B < w.heap.size := block_lt h.blk
theorem KrIs.but (h : KrIs S w B A c t) (hb : But S' w w') (hS : ∀ k, S' k → ¬ S k) : KrIs S w' B A c t :=
  ⟨h.mine, (hb.block B h.lt fun e => hS B e h.mine).trans h.blk, h.row.but hb fun b off e hn z => hS b z (h.own b off e hn).1, h.own, h.le, h.max⟩
theorem KrIs.below (h : KrIs S w B A c t) (hb : Below w.heap.size w w') : KrIs S w' B A c t := h.but (S' := fun _ => False) (But.of_below hb) (fun _ h => h.elim)
theorem KrIs.narrow (h : KrIs S w B A c t) (hs : ∀ k, k < w.heap.size → S k → S' k) : KrIs S' w B A c t :=
  ⟨hs _ h.lt h.mine, h.blk, h.row, fun b off e hn => by
    obtain ⟨b', off', e', hb, _⟩ := h.row.at_ (j := 0) hn hn
    rw [e] at e'
    cases e'
    exact ⟨hs b hb (h.own b off e hn).1, (h.own b off e hn).2⟩, h.le, h.max⟩
theorem KrIs.c0 (h : KrIs S w B A c t) : w.cell? ⟨B, 0, none⟩ = some (.int .i64 (t.most : Int)) := by rw [cell_of_row _ _ _ _ _ _ h.blk]; rfl
theorem KrIs.c1 (h : KrIs S w B A c t) : w.cell? ⟨B, 1, none⟩ = some (.slice A t.l.length c) := by rw [cell_of_row _ _ _ _ _ _ h.blk]; rfl
theorem KrIs.c2 (h : KrIs S w B A c t) : w.cell? ⟨B, 2, none⟩ = some (.int .u64 (t.last : Int)) := by rw [cell_of_row _ _ _ _ _ _ h.blk]; rfl
theorem KrIs.froz (h : KrIs S w B A c t) (i : Nat) : w.frozen? ⟨B, i, none⟩ = false := by
  have hb := h.blk
  simp [World.frozen?, hb]
/-- The last index is set. -/
theorem KrIs.setLast (h : KrIs S w B A c t) (n : Nat) : KrIs S (w.setCell ⟨B, 2, none⟩ (.int .u64 (n : Int))) B A c { t with last := n } :=
  ⟨h.mine, block_set (cur := #[.int .i64 (t.most : Int), .slice A t.l.length c, .int .u64 (t.last : Int)]) h.blk 2 _, h.row.but (S := (· = B)) (But.set (S := (· = B)) w (p := ⟨B, 2, none⟩) rfl _) (fun b off e hn => (h.own b off e hn).2), h.own, h.le, h.max⟩
/-- The rows are set: a row of the call's own. -/
theorem KrIs.setRows (h : KrIs S w B A c t) {l : List (En)} {A' : Option Addr} {c' : Nat} (hr : SK enC 6 w A' l.length l) (ho : ∀ b off, A' = some ⟨b, off, none⟩ → 0 < l.length → S b ∧ b ≠ B) (h1 : l.length ≤ c') (h2 : c' ≤ maxLen) : KrIs S (w.setCell ⟨B, 1, none⟩ (.slice A' l.length c')) B A' c' { t with l := l } :=
  ⟨h.mine, block_set (cur := #[.int .i64 (t.most : Int), .slice A t.l.length c, .int .u64 (t.last : Int)]) h.blk 1 _, hr.but (S := (· = B)) (But.set (S := (· = B)) w (p := ⟨B, 1, none⟩) rfl _) (fun b off e hn => (ho b off e hn).2), ho, h1, h2⟩
theorem KrAt.but (h : KrAt S w B t) (hb : But S' w w') (hS : ∀ k, S' k → ¬ S k) : KrAt S w' B t := by
  obtain ⟨h0, A, c, h1⟩ := h
  exact ⟨h0, A, c, h1.but hb hS⟩
theorem KrAt.below (h : KrAt S w B t) (hb : Below w.heap.size w w') : KrAt S w' B t := h.but (S' := fun _ => False) (But.of_below hb) (fun _ h => h.elim)
theorem KrAt.lt (h : KrAt S w B t) : B < w.heap.size := by
  obtain ⟨_, A, c, h1⟩ := h
  exact h1.lt
end
set_option maxHeartbeats 1000000 in
theorem krnew_any (m : Int) (w : World) (hm : -9223372036854775808 ≤ m ∧ m ≤ 9223372036854775807) :
    Calls Tryz.prog 8 #[.int .i64 m] w fun e w' => e = .returned (.pointer (some ⟨w.heap.size, 0, none⟩)) ∧ KrAt (· = w.heap.size) w' w.heap.size ⟨mostT m, [], 0⟩ ∧ Below w.heap.size w w' := by
  obtain ⟨X, hX⟩ : ∃ X, w.heap.size = X := ⟨_, rfl⟩
  have HX := Lib.hid hX
  obtain ⟨M, hM⟩ : ∃ M, mostT m = M := ⟨_, rfl⟩
  have HM := Lib.hid hM
  have hm1 := hm.1
  have hm2 := hm.2
  have fin : ∀ k : Int, (k = (mostT m : Int)) → Hid (KrAt (· = w.heap.size) (w.alloc (.cells #[.int .i64 k, .slice none 0 0, .int .u64 0] TKr)) w.heap.size ⟨mostT m, [], 0⟩ ∧ Below w.heap.size w (w.alloc (.cells #[.int .i64 k, .slice none 0 0, .int .u64 0] TKr))) := fun k hk => Lib.hid ⟨⟨Tb.Ok.new m, none, 0, rfl, by rw [hk]; exact heap_alloc_new _ _, .zero, fun _ _ e => (by cases e), Nat.le_refl _, Nat.zero_le _⟩, (Below.refl _ w).alloc (Nat.le_refl _) _⟩
  rw [hX, hM] at fin
  rw [hX, hM]
  have FIN := Lib.hid fin
  clear hX hM fin hm
  go_enter Tryz.func8, Tryz.ntmps8
  by_cases h1 : m < 1
  · go_wp2
    go_ret
    obtain ⟨f1, f2⟩ := (FIN.out 1 (by rw [← HM.out]; unfold mostT; split <;> (try split) <;> omega)).out
    exact ⟨by rw [← HX.out]; rfl, f1, f2⟩
  · by_cases h2 : 64 < m
    · go_wp2
      go_ret
      obtain ⟨f1, f2⟩ := (FIN.out 64 (by rw [← HM.out]; unfold mostT; split <;> (try split) <;> omega)).out
      exact ⟨by rw [← HX.out]; rfl, f1, f2⟩
    · go_wp2
      go_ret
      obtain ⟨f1, f2⟩ := (FIN.out m (by rw [← HM.out]; unfold mostT; split <;> (try split) <;> omega)).out
      exact ⟨by rw [← HX.out]; rfl, f1, f2⟩
end Go.Proofs.YtohnkagabpefdaaGreatDoor
/-
  The document's store: raise, Get, walked (layer 16).
-/
namespace Go.Proofs.YtohnkagabpefdaaGreatDoor
open Go.RowKit
set_option linter.unusedSimpArgs false
set_option linter.unusedVariables false

set_option maxHeartbeats 1000000 in
theorem krraise_any {S : Nat → Prop} {B : Nat} {t : Tb Kp} {A : Option Addr} {c : Nat} (i : Nat) (w : World) (h : KrIs S w B A c t) (hl : t.last < 18446744073709551616) (hi : i < 18446744073709551616) :
    Calls Tryz.prog 72 #[.pointer (some ⟨B, 0, none⟩), .int .u64 (i : Int)] w fun e w' => e = .returned (.tuple #[]) ∧ KrIs S w' B A c (t.raise i) ∧ But (· = B) w w' := by
  have H := Lib.hid h
  have c2 := h.c2
  have z2 := h.froz 2
  clear h
  go_enter Tryz.func72, Tryz.ntmps72
  by_cases h1 : t.last < i
  · have q : (t.last : Int) < (i : Int) := by omega
    go_wp2
    refine bodyPost_end (results_none rfl _ _ _) rfl ?_
    refine ⟨rfl, ?_, But.set (S := (· = B)) w (p := ⟨B, 2, none⟩) rfl _⟩
    rw [raise_max h1]
    exact H.out.setLast i
  · have q : ¬ (t.last : Int) < (i : Int) := by omega
    go_wp2
    refine bodyPost_end (results_none rfl _ _ _) rfl ?_
    refine ⟨rfl, ?_, But.refl _ _⟩
    rw [raise_same h1]
    exact H.out
/-- The entry with a key, or none. -/
def gotE (o : Option (En)) : Value := .tuple #[enV (o.getD noEn), .bool o.isSome]
theorem get_step {l : List (En)} {k : Nat} {key : ByteArray} (hk : k < l.length) (hno : getR (l.take k) key = none) :
    (l[k].key = key → getR l key = some l[k]) ∧ (l[k].key ≠ key → getR (l.take (k + 1)) key = none) := by
  unfold getR at hno ⊢
  refine ⟨fun e => ?_, fun e => ?_⟩
  · obtain ⟨x, hx⟩ : ∃ x, l[k] = x := ⟨_, rfl⟩
    rw [hx] at e ⊢
    have : l = l.take k ++ x :: l.drop (k + 1) := by rw [← hx]; simp
    rw [this, List.find?_append, hno, List.find?_cons_of_pos (by rw [text_same]; exact e)]
    rfl
  · rw [List.take_succ_eq_append_getElem hk, List.find?_append, hno, List.find?_cons_of_neg (by rw [text_same]; exact e)]
    rfl
theorem get_end {l : List (En)} {k : Nat} {key : ByteArray} (hk : l.length ≤ k) (hno : getR (l.take k) key = none) : getR l key = none := by
  rw [List.take_of_length_le hk] at hno
  exact hno
set_option maxHeartbeats 2000000 in
theorem krget_any {S : Nat → Prop} {B : Nat} {t : Tb Kp} {A : Option Addr} {c : Nat} (key : ByteArray) (w : World) (h : KrIs S w B A c t) :
    Calls Tryz.prog 11 #[.pointer (some ⟨B, 0, none⟩), .string key] w fun e w' => e = .returned (gotE (getR t.l key)) ∧ Below w.heap.size w w' := by
  obtain ⟨X, hX⟩ : ∃ X, w.heap.size = X := ⟨_, rfl⟩
  obtain ⟨W, hW⟩ : ∃ W, w.alloc (.cells #[.string ⟨#[]⟩, .string ⟨#[]⟩, .int .u64 0, .int .u64 0, .int .u64 0, .int .u64 0] TEn) = W := ⟨_, rfl⟩
  have hb0 : Below w.heap.size w W := by rw [← hW]; exact below1 _ _ _
  have hs0 : W.heap.size = X + 1 := by rw [← hW, ← hX]; simp
  have k0 : W.heap[X]? = some (.cells #[.string ⟨#[]⟩, .string ⟨#[]⟩, .int .u64 0, .int .u64 0, .int .u64 0, .int .u64 0] TEn (0, 0)) := by rw [← hW, ← hX]; exact heap_alloc_new w _
  have HB0 := Lib.hid hb0
  have HS0 := Lib.hid hs0
  have HK0 := Lib.hid k0
  have HW := Lib.hid hW
  have HX := Lib.hid hX
  have HT := Lib.hid (h.below hb0)
  obtain ⟨L, hL⟩ : ∃ L, t.l.length = L := ⟨_, rfl⟩
  have hm : L ≤ 9223372036854775807 := by have := h.le; have := h.max; unfold maxLen at this; omega
  have HL := Lib.hid hL
  obtain ⟨o, ho⟩ : ∃ o, getR t.l key = o := ⟨_, rfl⟩
  rw [ho]
  have HO := Lib.hid ho
  clear h hX hL ho hW hb0 hs0 k0
  go_enter Tryz.func11, Tryz.ntmps11
  go_wp2_with fail
  rw [HW.out, HX.out]
  go_loopw [6] (fun iv wr => ∃ k : Nat, k ≤ L ∧ iv = .int .i64 (k : Int) ∧ Hid (getR (t.l.take k) key = none) ∧ Hid (Below (X + 1) W wr)) (fun iv _ => L - (intOf iv).toNat)
  case atStart => exact ⟨0, Nat.zero_le _, rfl, Lib.hid rfl, Lib.hid (HS0.out ▸ Below.refl _ _)⟩
  case round =>
    obtain ⟨k, hk, rfl, hno, hb⟩ := hrel
    have ht := HT.out.below (by rw [HS0.out]; exact hb.out)
    have c1 : wr.cell? ⟨B, 1, none⟩ = some (.slice A L c) := by have := ht.c1; rw [HL.out] at this; exact this
    have hj0 := (hb.out.block X (by omega)).trans HK0.out
    have HJ := Lib.hid hj0
    obtain ⟨d0, d1, d2, d3, d4, d5⟩ := Kt.blk hj0
    have g0 := blk_froz hj0 0
    have g1 := blk_froz hj0 1
    have g2 := blk_froz hj0 2
    have g3 := blk_froz hj0 3
    have g4 := blk_froz hj0 4
    have g5 := blk_froz hj0 5
    have hXl := block_lt hj0
    by_cases hlt : k < L
    · have hkl : k < t.l.length := by rw [HL.out]; exact hlt
      obtain ⟨b, off, rfl, hbl, hit⟩ := ht.row.at_ hkl hkl
      obtain ⟨r, hr⟩ : ∃ r, t.l[k] = r := ⟨_, rfl⟩
      have hs := get_step hkl hno.out
      rw [hr] at hit hs
      obtain ⟨e0, e1, e2, e3, e4, e5⟩ := Kt.tr_cells hit
      by_cases hz : r.key = key
      · have zz : (r.key.toList == key.toList) = true := text_same.2 hz
        obtain rfl : some r = o := by rw [← HO.out, hs.1 hz]
        have HQ := Lib.hid (setL_all hj0 [.string r.key, .string r.val.v, .int .u64 (r.val.ses : Int), .int .u64 (r.val.lck : Int), .int .u64 (r.made : Int), .int .u64 (r.ix : Int)] rfl)
        clear hs hz hr hit ht hj0
        go_wp2
        have hq := HQ.out
        simp only [setL] at hq
        obtain ⟨q0, q1, q2, q3, q4, q5⟩ := Kt.blk hq
        refine bodyPost_ret (v := .tuple #[enV r, .bool true]) (by simp [results, Tryz.results11, go_sem, q0, q1, q2, q3, q4, q5, enV, Kt.trV]) rfl ⟨rfl, ?_⟩
        have hbw : Below w.heap.size w wr := HB0.out.trans (hb.out.mono (by have := HX.out; omega))
        rw [HX.out] at hbw ⊢
        exact below_setL hbw (by rw [HX.out]; exact Nat.le_refl _) [.string r.key, .string r.val.v, .int .u64 (r.val.ses : Int), .int .u64 (r.val.lck : Int), .int .u64 (r.made : Int), .int .u64 (r.ix : Int)] 0
      · have zz : (r.key.toList == key.toList) = false := text_other.2 hz
        have HN := Lib.hid (hs.2 hz)
        clear hs hz hr hit ht hj0 d0 d1 d2 d3 d4 d5 g0 g1 g2 g3 g4 g5
        go_wp2
        go_roundw
        case rel => exact ⟨k + 1, by omega, by go_num, HN, hb⟩
        case measure => simp [intOf]; omega
    · have hn := get_end (show t.l.length ≤ k by rw [HL.out]; omega) hno.out
      obtain rfl : none = o := by rw [← HO.out, hn]
      have HQ := Lib.hid (setL_all hj0 [.string ⟨#[]⟩, .string ⟨#[]⟩, .int .u64 0, .int .u64 0, .int .u64 0, .int .u64 0] rfl)
      clear hn ht hj0
      go_wp2
      have hq := HQ.out
      simp only [setL] at hq
      obtain ⟨q0, q1, q2, q3, q4, q5⟩ := Kt.blk hq
      refine bodyPost_ret (v := .tuple #[enV noEn, .bool false]) (by simp [results, Tryz.results11, go_sem, q0, q1, q2, q3, q4, q5, enV, Kt.trV, noEn]) rfl ⟨rfl, ?_⟩
      have hbw : Below w.heap.size w wr := HB0.out.trans (hb.out.mono (by have := HX.out; omega))
      rw [HX.out] at hbw ⊢
      exact below_setL hbw (by rw [HX.out]; exact Nat.le_refl _) [.string ⟨#[]⟩, .string ⟨#[]⟩, .int .u64 0, .int .u64 0, .int .u64 0, .int .u64 0] 0
end Go.Proofs.YtohnkagabpefdaaGreatDoor
