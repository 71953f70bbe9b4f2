/-
  List: the entries under a prefix, walked (layer 16).
-/
import Derived.Test.YtohnkagabpefdaaDoorZj36
namespace Go.Proofs.YtohnkagabpefdaaDoor
open Go.RowKit Go.Rel Go.Shelf
set_option linter.unusedSimpArgs false
set_option linter.unusedVariables false

theorem en_info : (Tryd.prog.info? TEn).map (fun i => (i.zero, i.size, i.bytes)) = some (some (.agg #[.string ⟨#[]⟩, .string ⟨#[]⟩, .int .u64 0, .int .u64 0, .int .u64 0, .int .u64 0]), 6, 64) := by kernel_rfl
abbrev enRow (w : World) (base : Nat) (v : Value) (l : List En) : Prop := rowK enC TEn 6 w base v l
/-- append of an entry to a row of the call's own. -/
theorem wpList_append_en {w : World} {ops : Array Oper} {rest : List Oper} {o : Oper} {a : Act} {Q : Exit → Act → World → Prop} (hgd : o.guard = none) (s x : Operand)
    (ho : o.op = .call { callee := .builtin .append, args := #[s, x], argTypes := #[22, 22] })
    (base : Nat) (v : Value) (l : List En) (hs : a.eval s = v) (hown : enRow w base v l) (X : Nat) (y : En) (hx : a.eval x = .slice (some ⟨X, 0, none⟩) 1 1) (hc : ItAt enC w X 0 y)
    (hl : l.length ≤ 1000) (hbase : base ≤ w.heap.size)
    (h : Hid (∀ v' w', enRow w' base v' (l ++ [y]) → w.grownBy w' v.ownBlock → wpList Tryd.prog ops Q rest (a.put o.dst v') w')) : wpList Tryd.prog ops Q (o :: rest) a w := by
  obtain ⟨i0, hi, hz0, hz1, hz2⟩ := info_parts en_info
  exact wpList_append_k hgd s x _ ho i0 _ 64 Tryd.underlying22 hi hz0 hz1 hz2 rfl (by decide) Kt.trC_len Kt.trC_one base v l hs hown X y hx hc (by unfold maxLen; omega) (by omega) hbase h
/-- An entry that was just laid. -/
theorem en_new (w : World) (r : En) (T : TypeId) : ItAt enC (w.alloc (.cells #[.string r.key, .string r.val.v, .int .u64 (r.val.ses : Int), .int .u64 (r.val.lck : Int), .int .u64 (r.made : Int), .int .u64 (r.ix : Int)] T)) w.heap.size 0 r := ItAt.of_new r _ rfl T
theorem enRow.snoc {w0 wr w' : World} {base : Nat} {v : Value} {l : List En} (h : enRow wr base v l) (hb : Below base w0 wr) (hB : base ≤ wr.heap.size) (hg : wr.grownBy w' v.ownBlock) : Below base w0 w' :=
  hb.grown hg hB fun _ e => (h.from _ e).1
set_option maxHeartbeats 4000000 in
theorem list_walk {w : World} {v0 : Value} {q : Option Addr} {l : List En} (p : ByteArray) (hT : Calls Tryd.prog 28 #[v0] w fun e w' => e = .returned (.pointer q) ∧ w = w')
    (hU : Calls Tryd.prog 29 #[.pointer q, .string p] w (Kt.New w l)) (hl : l.length ≤ 64) :
    Calls Tryd.prog 9 #[v0, .string p] w (NewRows enC 6 w l) := by
  have HT := Lib.hid hT
  have HU := Lib.hid hU
  obtain ⟨L, hL⟩ : ∃ L, l.length = L := ⟨_, rfl⟩
  rw [hL] at hl
  have HL := Lib.hid hL
  have hm : L ≤ 9223372036854775807 := by omega
  clear hT hU hL
  go_enter Tryd.func9, Tryd.ntmps9
  go_wp2_with fail
  refine HT.out.mono ?_
  rintro e w' ⟨rfl, rfl⟩
  go_wp2_with fail
  refine HU.out.mono ?_
  rintro e w1 ⟨A, c, rfl, hsk, hlc, hcm, -, hb1⟩
  have HB1 := Lib.hid hb1
  have HSk := Lib.hid hsk
  obtain ⟨g0, hg0⟩ : ∃ g0, w1.heap.size = g0 := ⟨_, rfl⟩
  have HG0 := Lib.hid hg0
  rw [HL.out] at hlc
  rw [HL.out]
  clear hb1 hsk hg0 HU HT
  go_wp2_with fail
  go_loopw [5, 13] (fun vv iv wr => ∃ k : Nat, k ≤ L ∧ iv = .int .i64 (k : Int) ∧ Hid (enRow wr g0 vv (l.take k)) ∧ Hid (Below g0 w1 wr)) (fun _ iv _ => L - (intOf iv).toNat)
  case atStart => exact ⟨0, Nat.zero_le _, rfl, Lib.hid (rowK.nil _ _), Lib.hid (HG0.out ▸ Below.refl _ _)⟩
  case round =>
    obtain ⟨k, hk, rfl, hrow, hb⟩ := hrel
    have hgs : g0 ≤ wr.heap.size := by have := hb.out.size; have := HG0.out; omega
    by_cases hlt : k < L
    · have hkl : k < l.length := by rw [HL.out]; exact hlt
      have hsk := HSk.out.below (HG0.out ▸ hb.out)
      obtain ⟨b, off, rfl, hbl, hit⟩ := hsk.at_ hkl hkl
      have hst : l.take (k + 1) = l.take k ++ [l[k]] := List.take_succ_eq_append_getElem hkl
      obtain ⟨y, hy⟩ : ∃ y, l[k] = y := ⟨_, rfl⟩
      rw [hy] at hit hst
      have HSt := Lib.hid hst
      obtain ⟨e0, e1, e2, e3, e4, e5⟩ := Kt.tr_cells hit
      obtain ⟨W3, hW3⟩ : ∃ W3, wr.alloc (.cells #[.string y.key, .string y.val.v, .int .u64 (y.val.ses : Int), .int .u64 (y.val.lck : Int), .int .u64 (y.made : Int), .int .u64 (y.ix : Int)] 70) = W3 := ⟨_, rfl⟩
      have hn : W3.heap[wr.heap.size]? = some (.cells #[.string y.key, .string y.val.v, .int .u64 (y.val.ses : Int), .int .u64 (y.val.lck : Int), .int .u64 (y.made : Int), .int .u64 (y.ix : Int)] 70 (0, 0)) := by rw [← hW3]; exact heap_alloc_new wr _
      have hb3 : Below wr.heap.size wr W3 := by rw [← hW3]; exact below1 _ _ _
      obtain ⟨d0, d1, d2, d3, d4, d5⟩ := Kt.blk hn
      have hle : (l.take k).length ≤ 1000 := by rw [List.length_take]; omega
      have HR3 := Lib.hid (hrow.out.below hb3)
      have HB3 := Lib.hid (hb.out.trans (hb3.mono hgs))
      have HS3 : Hid (g0 ≤ W3.heap.size) := Lib.hid (Nat.le_trans hgs hb3.size)
      have HWh := Lib.hid (whole_any y W3)
      unfold enV Kt.trV at HWh
      have HW3 := Lib.hid hW3
      clear hy hit hsk hst hn hb3 hW3 hrow hb
      go_wp2_with fail
      rw [HW3.out]
      refine HWh.out.mono ?_
      rintro e w4 ⟨rfl, hb4⟩
      have HR4 := Lib.hid (HR3.out.below hb4)
      have HB4 := Lib.hid (HB3.out.trans (hb4.mono HS3.out))
      have HS4 : Hid (g0 ≤ w4.heap.size) := Lib.hid (Nat.le_trans HS3.out hb4.size)
      clear hb4 HR3 HB3 HS3 HWh d0 d1 d2 d3 d4 d5
      go_wp2_with (at_builtin; refine wpList_append_en rfl (.tmp 17) (.tmp 20) rfl g0 _ _ rfl ?qa w4.heap.size y rfl ?qb hle ?qc ?_)
      case qa => exact HR4.out.below (below1 _ _ _)
      case qb => exact en_new w4 y _
      case qc => have := HS4.out; simp; omega
      refine Lib.hid ?_
      intro v' w' hown hgr
      have HB' := Lib.hid (enRow.snoc (HR4.out.below (below1 w4 #[.string y.key, .string y.val.v, .int .u64 (y.val.ses : Int), .int .u64 (y.val.lck : Int), .int .u64 (y.made : Int), .int .u64 (y.ix : Int)] TEn)) (HB4.out.alloc HS4.out _) (by have := HS4.out; simp; omega) hgr)
      rw [← HSt.out] at hown
      have HR := Lib.hid hown
      clear hown hgr
      go_wp2
      go_roundw
      case rel => exact ⟨k + 1, by omega, by go_num, HR, HB'⟩
      case measure => simp [intOf]; omega
    · have hke : l.take k = l := List.take_of_length_le (by rw [HL.out]; omega)
      rw [hke] at hrow
      obtain ⟨A2, c2, rfl, hSK, hnc, hmc, hge⟩ := SK.of_row Kt.trC_len hrow.out
      have HX := Lib.hid (And.intro hSK (And.intro hnc (And.intro hmc hge)))
      clear hke hSK hnc hmc hge hrow
      go_wp2
      go_ret
      have h1 := HB1.out.size
      exact ⟨A2, c2, rfl, HX.out.1, HX.out.2.1, HX.out.2.2.1, fun b off e => by have := HX.out.2.2.2 b off e; have := HG0.out; omega, HB1.out.trans (hb.out.mono (by have := HG0.out; omega))⟩
theorem klist_any {S : Nat → Prop} {w : World} {B Bt : Nat} {t : Tb Kp} (p : ByteArray) (h : KvAt S w B Bt t) (hp : p.size ≤ maxLen) : Calls Tryd.prog 9 #[.pointer (some ⟨B, 0, none⟩), .string p] w (NewRows enC 6 w (undR t.l p)) := by
  obtain ⟨hk, _, k, h1⟩ := h
  exact list_walk p (table_is k) (Kt.under_t p h1 hp) (Nat.le_trans (und_length _ _) (Nat.le_trans hk.ok.len hk.ok.most.2))
theorem klist_no {w : World} {q : Option Addr} (p : ByteArray) (h : NoKv w q) (hp : p.size ≤ maxLen) : Calls Tryd.prog 9 #[.pointer q, .string p] w (NewRows enC 6 w []) :=
  list_walk (l := []) p (table_no h) (Kt.under_no p ⟨.inl rfl⟩ hp) (Nat.zero_le _)
end Go.Proofs.YtohnkagabpefdaaDoor
