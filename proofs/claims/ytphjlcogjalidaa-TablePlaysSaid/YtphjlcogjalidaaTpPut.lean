/-
  Put, walked (layer 15).
-/
import Derived.Test.YtphjlcogjalidaaTpGet
import Derived.Test.YtphjlcogjalidaaRelT
namespace Go.Proofs.Ytphjlcogjalidaa
open Go.RowKit
set_option linter.unusedSimpArgs false
set_option linter.unusedVariables false

theorem stepOf_slice {P : Program} {ops : Array Oper} {Q : Exit → Act → World → Prop} {o : Oper} {K : Act → World → Prop} {a : Act} {w w' : World} {v : Value} (t : TypeId) (x : Operand) (lo hi mx : Option Operand)
    (ho : o.op = .slice t x lo hi mx) (hg : o.guard = none) (hr : (Instr.sliceAt t (a.eval x) (lo.map a.eval) (hi.map a.eval) (mx.map a.eval)).run P w = .ok v w') (h : K (a.put o.dst v) w') : Go.Rel.stepOf P ops Q o K a w := by
  unfold Go.Rel.stepOf
  rw [if_pos (by simp [Region.wanted, hg])]
  unfold Oper.wp execOp
  simp only [ho, Sem.run_bind, Sem.run_pure, hr, Result.andThen_ok, Sem.run_map]
  exact h
theorem SK.row0 {α : Type} {enc : α → List Value} {k : Nat} {E : TypeId} {w : World} {base n c : Nat} {A : Option Addr} {l : List α} (h : rowK enc E k w base (.slice A n c) l) : (A = none ∧ c = 0) ∨ ∃ g, A = some ⟨g, 0, none⟩ := by
  rcases h.2 with ⟨e, _⟩ | ⟨g, _, _, e, _⟩
  · simp only [Value.slice.injEq] at e
    exact .inl ⟨e.1, e.2.2⟩
  · simp only [Value.slice.injEq] at e
    exact .inr ⟨g, e.1⟩
/-- Rows of the call's own are laid. -/
theorem PtIs.fresh {S : Nat → Prop} {w : World} {B : Nat} {A : Option Addr} {c : Nat} {t : Tb Int} {g0 : Nat} (h : PtIs S w B A c t) {l : List (Rw Int)} {A' : Option Addr} {c' : Nat} (ho : ∀ b off, A' = some ⟨b, off, none⟩ → 0 < l.length → g0 ≤ b) (hr : SK trC 4 w A' l.length l) (h1 : l.length ≤ c') (h2 : c' ≤ maxLen) (h3 : (A' = none ∧ c' = 0) ∨ ∃ g, A' = some ⟨g, 0, none⟩) (hB : ∀ b off, A' = some ⟨b, off, none⟩ → 0 < l.length → b ≠ B) :
    PtIs (fun k => S k ∨ g0 ≤ k) (w.setCell ⟨B, 2, none⟩ (.slice A' l.length c')) B A' c' { t with l := l } :=
  (h.narrow fun _ _ z => .inl z).setRows hr (fun b off e hn => ⟨.inr (ho b off e hn), hB b off e hn⟩) h1 h2 h3
def putR (S : Nat → Prop) (B : Nat) (Y : Nat) (W0 : World) (A : Option Addr) (L : Nat) (c : Nat) (pa : Nat) (pb : Nat) (r : Rw Int) (l2 : List (Rw Int)) : Nat → Value → World → Prop
  | 0, v, _ => v = .pointer (some ⟨B, 0, none⟩)
  | 1, v, _ => v = .pointer (some ⟨B, 0, none⟩)
  | 2, v, _ => v = .pointer (some ⟨B, 0, none⟩)
  | 3, v, _ => v = .pointer (some ⟨B, 2, none⟩)
  | 4, v, _ => v = .slice A L c
  | 5, v, _ => v = .int .i64 (pa : Int)
  | 6, v, _ => v = .slice A pa c
  | 7, v, _ => v = .agg #[.string r.key, .int .i64 r.val, .int .u64 (r.made : Int), .int .u64 (r.ix : Int)]
  | 8, v, w => ∃ Z, v = .slice (some ⟨Z, 0, none⟩) 1 1 ∧ W0.heap.size ≤ Z ∧ w.heap[Z]? = some (.cells #[.string r.key, .int .i64 r.val, .int .u64 (r.made : Int), .int .u64 (r.ix : Int)] 32 (0, 0))
  | 9, v, _ => v = .pointer (some ⟨B, 0, none⟩)
  | 10, v, _ => v = .pointer (some ⟨B, 0, none⟩)
  | 11, v, _ => v = .pointer (some ⟨B, 2, none⟩)
  | 12, v, _ => v = .slice A L c
  | 13, v, _ => v = .int .i64 (pb : Int)
  | 14, v, _ => v = .slice (tailA A pb c) (L - pb) (c - pb)
  | 15, v, w => ∃ Z2 Z, v = .slice (some ⟨Z2, 0, none⟩) 3 3 ∧ W0.heap.size ≤ Z2 ∧ W0.heap.size ≤ Z ∧ w.heap[Z2]? = some (.cells #[.slice A pa c, .slice (some ⟨Z, 0, none⟩) 1 1, .slice (tailA A pb c) (L - pb) (c - pb)] 39 (0, 0)) ∧ w.heap[Z]? = some (.cells #[.string r.key, .int .i64 r.val, .int .u64 (r.made : Int), .int .u64 (r.ix : Int)] 32 (0, 0))
  | 16, v, w => twRow w W0.heap.size v l2
  | 17, v, _ => v = .pointer (some ⟨B, 0, none⟩)
  | 18, v, _ => v = .pointer (some ⟨B, 2, none⟩)
  | 19, v, w => True
  | _, _, _ => True
theorem putR_stable (B : Nat) (Y : Nat) (W0 : World) (A : Option Addr) (L : Nat) (c : Nat) (pa : Nat) (pb : Nat) (r : Rw Int) (l2 : List (Rw Int)) : ∀ i v w w', putR (OldB W0) B Y W0 A L c pa pb r l2 i v w → But (OldB W0) w w' → putR (OldB W0) B Y W0 A L c pa pb r l2 i v w'
  | 0, _, _, _, h, _ | 1, _, _, _, h, _ | 2, _, _, _, h, _ | 3, _, _, _, h, _ | 4, _, _, _, h, _ | 5, _, _, _, h, _ | 6, _, _, _, h, _ | 7, _, _, _, h, _ | 9, _, _, _, h, _ | 10, _, _, _, h, _ | 11, _, _, _, h, _ | 12, _, _, _, h, _ | 13, _, _, _, h, _ | 14, _, _, _, h, _ | 17, _, _, _, h, _ | 18, _, _, _, h, _ => h
  | 8, _, _, _, h, g => by obtain ⟨Z, e, hz, k⟩ := h; exact ⟨Z, e, hz, (g.block Z (block_lt k) (by unfold OldB; omega)).trans k⟩
  | 15, _, _, _, h, g => by obtain ⟨Z, Y, e, hz, hy, k, j⟩ := h; exact ⟨Z, Y, e, hz, hy, (g.block Z (block_lt k) (by unfold OldB; omega)).trans k, (g.block Y (block_lt j) (by unfold OldB; omega)).trans j⟩
  | 16, _, _, _, h, g => own_old h g
  | 19, _, _, _, h, g => trivial
  | _ + 20, _, _, _, h, _ => h
/-- What the row's pieces make. -/
theorem cat3 {S : Nat → Prop} {W : World} {B : Nat} {A : Option Addr} {c : Nat} {t : Tb Int} (h : PtIs S W B A c t) {a b : Nat} (ha : a ≤ t.l.length) (hb : b ≤ t.l.length) (hab : a ≤ b) (h64 : t.l.length ≤ 64) (r : Rw Int) (Z Y : Nat)
    (kz : W.heap[Z]? = some (.cells #[.slice A a c, .slice (some ⟨Y, 0, none⟩) 1 1, .slice (tailA A b c) (t.l.length - b) (c - b)] 39 (0, 0))) (ky : W.heap[Y]? = some (.cells #[.string r.key, .int .i64 r.val, .int .u64 (r.made : Int), .int .u64 (r.ix : Int)] 32 (0, 0))) :
    Calls Try.prog 31 #[.slice (some ⟨Z, 0, none⟩) 3 3] W fun e w' => ∃ v, e = .returned v ∧ twRow w' W.heap.size v (t.l.take a ++ r :: t.l.drop b) ∧ Below W.heap.size W w' := by
  have h1 := h.head ha
  have h3 := h.tail hb
  have hp : Pcs W Z [⟨A, c, t.l.take a⟩, ⟨some ⟨Y, 0, none⟩, 1, [r]⟩, ⟨tailA A b c, c - b, t.l.drop b⟩] := by
    refine ⟨fun j hj => ?_, fun p hp => ?_, block_lt kz⟩
    · have hl1 : (t.l.take a).length = a := by rw [List.length_take]; omega
      have hl3 : (t.l.drop b).length = t.l.length - b := List.length_drop
      rw [cell_of_row _ _ _ _ _ _ kz]
      match j, hj with
      | 0, _ => simp [hl1]
      | 1, _ => simp
      | 2, _ => simp
      | n + 3, hj => exact absurd hj (by simp)
    · simp only [List.mem_cons, List.not_mem_nil, or_false] at hp
      rcases hp with rfl | rfl | rfl
      · exact h1
      · refine ⟨⟨rfl, fun _ => ⟨Y, 0, rfl, block_lt ky, fun j hj i u hu => ?_⟩⟩, (fun e => by cases e)⟩
        obtain rfl : j = 0 := by have : j < 1 := hj; omega
        rw [cell_of_row _ _ _ _ _ _ ky, ← Array.getElem?_toList, Nat.zero_mul, Nat.zero_add]
        exact hu
      · exact h3
  have e : joinP [⟨A, c, t.l.take a⟩, ⟨some ⟨Y, 0, none⟩, 1, [r]⟩, ⟨tailA A b c, c - b, t.l.drop b⟩] = t.l.take a ++ r :: t.l.drop b := by simp [joinP]
  have := concat_any Z _ W hp (by simp) (by rw [e]; simp; omega)
  rw [e] at this
  exact this
set_option maxHeartbeats 8000000 in
set_option maxRecDepth 100000 in
theorem put_any {S : Nat → Prop} {w : World} {B : Nat} {t : Tb Int} (k : ByteArray) (v : Int) (i : Nat) (h : PtAt S w B t) (hi : i < 18446744073709551616) (hk : k.size ≤ maxLen) :
    Calls Try.prog 17 #[.pointer (some ⟨B, 0, none⟩), .string k, .int .i64 v, .int .u64 (i : Int)] w fun e w' => e = .returned (putV t k v i) ∧ PtAt (fun k => S k ∨ w.heap.size ≤ k) w' B (t.putT k v i) ∧ But (· = B) w w' := by
  obtain ⟨X, hX⟩ : ∃ X, w.heap.size = X := ⟨_, rfl⟩
  obtain ⟨W, hW⟩ : ∃ W, w.alloc (.cells #[.string ⟨#[]⟩, .int .i64 0, .int .u64 0, .int .u64 0] 32) = W := ⟨_, rfl⟩
  have hb0 : Below w.heap.size w W := by rw [← hW]; exact below1 _ _ _
  have hs0 : W.heap.size = X + 1 := by rw [← hW, ← hX]; simp
  have k0 : W.heap[X]? = some (.cells #[.string ⟨#[]⟩, .int .i64 0, .int .u64 0, .int .u64 0] 32 (0, 0)) := by rw [← hW, ← hX]; exact heap_alloc_new w _
  obtain ⟨W2, hW2⟩ : ∃ W2, W.alloc (.cells #[.string k, .int .i64 v, .int .u64 (i : Int), .int .u64 (i : Int)] 32) = W2 := ⟨_, rfl⟩
  have hb2 : Below W.heap.size W W2 := by rw [← hW2]; exact below1 _ _ _
  have k2 : W2.heap[X + 1]? = some (.cells #[.string k, .int .i64 v, .int .u64 (i : Int), .int .u64 (i : Int)] 32 (0, 0)) := by rw [← hW2, ← hs0]; exact heap_alloc_new W _
  obtain ⟨S2, hS2⟩ : ∃ S2 : Nat → Prop, S2 = fun k => S k ∧ k < X := ⟨_, rfl⟩
  have hn : PtAt S2 w B t := h.narrow fun j hj hs => by rw [hS2]; exact ⟨hs, hX ▸ hj⟩
  have HS2 := Lib.hid hS2
  have HAt := Lib.hid h
  have h0 := hn.below hb0
  have h2 := h0.below hb2
  have HMd := Lib.hid (made_yes h0)
  have HF := Lib.hid (find_any k h2)
  have HB0 := Lib.hid (hb0.trans (hb2.mono hb0.size))
  have HK0 := Lib.hid ((hb2.block X (by omega)).trans k0)
  have HK2 := Lib.hid k2
  have HW := Lib.hid hW
  have HW2 := Lib.hid hW2
  have HX := Lib.hid hX
  have HS0 := Lib.hid hs0
  have HBX : B < X := by rw [← hX]; exact h.lt
  obtain ⟨hok, A, c, h1⟩ := h2
  have h64 : t.l.length ≤ 64 := Nat.le_trans hok.len hok.most.2
  have hmost := hok.most
  have hll := hok.len
  have HT := Lib.hid h1
  have HOk := Lib.hid hok
  have HR := Lib.hid hok.rise
  obtain ⟨L, hL⟩ : ∃ L, t.l.length = L := ⟨_, rfl⟩
  rw [hL] at h64 hll
  have HL := Lib.hid hL
  obtain ⟨o, ho⟩ : ∃ o, getR t.l k = o := ⟨_, rfl⟩
  obtain ⟨pl, hpl⟩ : ∃ pl, plc t.l k = pl := ⟨_, rfl⟩
  have hple : pl ≤ L := by rw [← hpl, ← hL]; exact plc_le _ _
  obtain ⟨hv, hhv⟩ : ∃ hv, hasB t.l k = hv := ⟨_, rfl⟩
  rw [hpl, hhv] at HF
  have HO := Lib.hid ho
  have HPl := Lib.hid hpl
  have HHv := Lib.hid hhv
  have HKs := Lib.hid hk
  obtain ⟨most, hmo⟩ : ∃ most, t.most = most := ⟨_, rfl⟩
  rw [hmo] at hmost hll
  have HMo := Lib.hid hmo
  have hlst := hok.lst
  obtain ⟨g0, hg0⟩ : ∃ g0, w.heap.size = g0 := ⟨_, rfl⟩
  rw [hg0]
  have HG := Lib.hid (show g0 = X from hg0.symm.trans hX)
  clear h hn hS2 hX hL ho hW hW2 hb0 hb2 hs0 k0 k2 h0 hok h1 hpl hhv hk hmo hg0
  go_enter Try.func17, Try.ntmps17
  go_wp2_with fail
  rw [HW.out, HX.out]
  refine HMd.out.mono ?_
  rintro e w' ⟨rfl, rfl⟩
  clear HMd
  go_wp2_with fail
  rw [HW2.out, HS0.out]
  refine HF.out.mono ?_
  rintro e w3 ⟨rfl, hb3⟩
  have kx3 := (hb3.block X (block_lt HK0.out)).trans HK0.out
  have ky3 := (hb3.block (X + 1) (block_lt HK2.out)).trans HK2.out
  have HKx := Lib.hid kx3
  have HKy := Lib.hid ky3
  have HB3 : Hid (Below X w w3) := Lib.hid (by rw [← HX.out]; exact HB0.out.trans (hb3.mono HB0.out.size))
  have HT3 := Lib.hid (HT.out.below hb3)
  have hYl := block_lt ky3
  clear hb3 HF kx3 ky3
  cases hv with
  | true =>
    have hq := HHv.out
    have hpL : pl < t.l.length := by
      rw [← HPl.out]
      rcases Nat.lt_or_ge (plc t.l k) t.l.length with e | e
      · exact e
      · rw [hasB_end HR.out (by omega)] at hq; cases hq
    have hpL' : pl < L := by rw [← HL.out]; exact hpL
    have hhas : hasR t.l k := by
      have hp := HPl.out
      subst hp
      refine ⟨hpL, ?_⟩
      rw [hasB_at HR.out hpL] at hq
      exact text_same.1 hq
    have ho : o = some (t.l[pl]'hpL) := by
      have hp := HPl.out
      subst hp
      rw [← HO.out]
      exact get_some HR.out hhas
    have c2 : w3.cell? ⟨B, 2, none⟩ = some (.slice A L c) := by have := HT3.out.c2; rw [HL.out] at this; exact this
    obtain ⟨bb, off, hA, hbl, hit⟩ := HT3.out.row.at_ hpL hpL
    obtain ⟨old, hr⟩ : ∃ old, t.l[pl]'hpL = old := ⟨_, rfl⟩
    rw [hr] at hit ho
    subst ho
    obtain ⟨e0, e1, e2, e3⟩ := tr_cells hit
    rw [hA] at c2
    obtain ⟨d0, d1, d2, d3⟩ := blk4 HKy.out
    have z2 := blk_froz HKy.out 2
    have HA := Lib.hid hA
    have HHas := Lib.hid hhas
    have hrow : t.row k v i = ⟨k, v, old.made, i⟩ := by unfold Tb.row; rw [HO.out]; rfl
    obtain ⟨r, hr2⟩ : ∃ r, t.row k v i = r := ⟨_, rfl⟩
    have er : r = ⟨k, v, old.made, i⟩ := hr2.symm.trans hrow
    have HRow := Lib.hid hr2
    have HEr := Lib.hid er
    have HLay : Hid (layR r false t.l = t.l.take pl ++ r :: t.l.drop (pl + 1)) := Lib.hid (by
      have e : r.key = k := by rw [er]
      rw [lay_old r HR.out (by rw [e]; exact hhas), e, HPl.out, List.set_eq_take_append_cons_drop, if_pos hpL])
    have HFull : Hid (t.fullB k = false) := Lib.hid (by unfold Tb.fullB; rw [HO.out]; rfl)
    clear hq hpL hr hit hA hhas hrow hr2 er
    go_wp2
    obtain ⟨Y, hYe⟩ : ∃ Y, X + 1 = Y := ⟨_, rfl⟩
    obtain ⟨pb, hbe⟩ : ∃ pb, pl + 1 = pb := ⟨_, rfl⟩
    obtain ⟨pa, hae⟩ : ∃ pa, pl = pa := ⟨_, rfl⟩
    have hbI : (pl : Int) + 1 = (pb : Int) := by omega
    rw [hbI]
    obtain ⟨W0, hW0⟩ : ∃ W0, w3.setCell ⟨X + 1, 2, none⟩ (.int .u64 (old.made : Int)) = W0 := ⟨_, rfl⟩
    rw [hW0, hYe]
    have hset : But (· = Y) w3 W0 := by rw [← hW0]; exact But.set (S := (· = Y)) w3 (p := ⟨X + 1, 2, none⟩) hYe _
    have hpt : PtIs S2 W0 B A c t := HT3.out.but hset (fun j e hj => by rw [HS2.out] at hj; have := hj.2; omega)
    have hy : W0.heap[Y]? = some (.cells #[.string r.key, .int .i64 r.val, .int .u64 (r.made : Int), .int .u64 (r.ix : Int)] 32 (0, 0)) := by
      rw [HEr.out, ← hW0, ← hYe]
      exact block_set HKy.out 2 _
    have HKx0 : Hid (W0.heap[X]? = some (.cells #[.string ⟨#[]⟩, .int .i64 0, .int .u64 0, .int .u64 0] 32 (0, 0))) := Lib.hid ((hset.block X (block_lt HKx.out) (by omega)).trans HKx.out)
    have HB0w : Hid (Below X w W0) := Lib.hid (by rw [← hW0]; exact HB3.out.setCell (by show X ≤ X + 1; omega) _)
    have hab : pa ≤ L ∧ pb ≤ L ∧ pa ≤ pb := by omega
    have HYa : Hid (Y ≠ B) := Lib.hid (by omega)
    rw [hbe, hae] at HLay
    rw [hae]
    clear c2 e0 e1 e2 e3 d0 d1 d2 d3 z2 hset hW0 HKx HKy HT3 HK0 HK2 hbI hYl HEr HA hae
    have hlt0 := hpt.lt
    obtain ⟨l2, hl2⟩ : ∃ l2, t.l.take pa ++ r :: t.l.drop pb = l2 := ⟨_, rfl⟩
    have HC := Lib.hid (fun W (hw : Below W0.heap.size W0 W) => (show W.cell? ⟨B, 2, none⟩ = some (.slice A L c) by have := (hpt.below hw).c2; rw [HL.out] at this; exact this))
    have HC2 := Lib.hid (fun W (hw : Below W0.heap.size W0 W) => hpt.below hw)
    have HY := Lib.hid (fun W (hw : Below W0.heap.size W0 W) => (hw.block Y (block_lt hy)).trans hy)
    have HCat := Lib.hid (fun W (hw : Below W0.heap.size W0 W) (Z Y2 : Nat) (kz : W.heap[Z]? = some (.cells #[.slice A pa c, .slice (some ⟨Y2, 0, none⟩) 1 1, .slice (tailA A pb c) (L - pb) (c - pb)] 39 (0, 0))) (ky : W.heap[Y2]? = some (.cells #[.string r.key, .int .i64 r.val, .int .u64 (r.made : Int), .int .u64 (r.ix : Int)] 32 (0, 0))) => (by rw [← HL.out] at kz; have := cat3 (hpt.below hw) (a := pa) (b := pb) (by rw [HL.out]; exact hab.1) (by rw [HL.out]; exact hab.2.1) hab.2.2 (by rw [HL.out]; exact h64) r Z Y2 kz ky; rw [hl2] at this; exact this : Calls Try.prog 31 #[.slice (some ⟨Z, 0, none⟩) 3 3] W fun e w' => ∃ v, e = .returned v ∧ twRow w' W.heap.size v l2 ∧ Below W.heap.size W w'))
    have HSz := Lib.hid (show (A = none ∨ ∃ g, A = some ⟨g, 0, none⟩) ∧ pa ≤ c ∧ pb ≤ L ∧ L ≤ c from ⟨hpt.or, by have := hpt.le; rw [HL.out] at this; omega, hab.2.1, by have := hpt.le; rw [HL.out] at this; exact this⟩)
    have HBl : Hid (OldB W0 B) := Lib.hid hlt0
    rw [hl2] at HLay
    have HYk := Lib.hid hy
    have HYl := Lib.hid (block_lt hy)
    have HXl := Lib.hid (block_lt HKx0.out)
    clear hpt hlt0 hl2 hy hab
    go_wp2_with fail
    refine Go.Rel.wp_region_states (by kernel_rfl) (by kernel_rfl) (by kernel_rfl) (by kernel_rfl) (TI 19 W0 (fun W => ∃ A2 c2, PtIs (fun k => S2 k ∨ W0.heap.size ≤ k) W B A2 c2 { t with l := l2 } ∧ But (· = B) W0 W)) (But (OldB W0)) (fun _ _ _ h k => h.trans k) OldB.drew TI.start (putR (OldB W0) B Y W0 A L c pa pb r l2) (putR_stable B Y W0 A L c pa pb r l2) ?hs1 ?he1
    case hs1 =>
      refine (.cons ?_ (.cons ?_ (.cons ?_ (.cons ?_ (.cons ?_ (.cons ?_ (.cons ?_ (.cons ?_ (.cons ?_ (.cons ?_ (.cons ?_ (.cons ?_ (.cons ?_ (.cons ?_ (.cons ?_ (.cons ?_ (.cons ?_ (.cons ?_ (.cons ?_ (.cons ?_ .nil))))))))))))))))))))
      · intro f a w' hI hf hanc hdesc hle hs' hd K hK
        have f0 : a.tmps[0]? = some (.pointer (some ⟨B, 0, none⟩)) := hs'.2.2 0 (by kernel_rfl)
        unfold Go.Rel.stepOf
        go_simp
        exact hK _ _ (But.refl _ _) (hI.read (j := 0) (by decide)) rfl
      · intro f a w' hI hf hanc hdesc hle hs' hd K hK
        have f0 : a.tmps[0]? = some (.pointer (some ⟨B, 0, none⟩)) := hs'.2.2 0 (by kernel_rfl)
        unfold Go.Rel.stepOf
        go_simp
        exact hK _ _ (But.refl _ _) (hI.read (j := 1) (by decide)) rfl
      · intro f a w' hI hf hanc hdesc hle hs' hd K hK
        obtain ⟨_, t1, rfl⟩ := hd 1 54 (by kernel_rfl)
        unfold Go.Rel.stepOf
        go_simp
        exact hK _ _ (But.refl _ _) (hI.read (j := 2) (by decide)) rfl
      · intro f a w' hI hf hanc hdesc hle hs' hd K hK
        obtain ⟨_, t2, rfl⟩ := hd 2 55 (by kernel_rfl)
        unfold Go.Rel.stepOf
        go_simp
        exact hK _ _ (But.refl _ _) (hI.read (j := 3) (by decide)) rfl
      · intro f a w' hI hf hanc hdesc hle hs' hd K hK
        obtain ⟨_, t3, rfl⟩ := hd 3 56 (by kernel_rfl)
        have zL : f 19 = false := hdesc 60 19 (by kernel_rfl)
        have cc := HC.out w' (hI.ahead zL)
        unfold Go.Rel.stepOf
        go_simp
        exact hK _ _ (But.refl _ _) (hI.read (j := 4) (by decide)) rfl
      · intro f a w' hI hf hanc hdesc hle hs' hd K hK
        have f11 : a.tmps[11]? = some (.int .i64 (pa : Int)) := hs'.2.2 11 (by kernel_rfl)
        unfold Go.Rel.stepOf
        go_simp
        exact hK _ _ (But.refl _ _) (hI.read (j := 5) (by decide)) rfl
      · intro f a w' hI hf hanc hdesc hle hs' hd K hK
        obtain ⟨_, t4, rfl⟩ := hd 4 57 (by kernel_rfl)
        obtain ⟨_, t5, rfl⟩ := hd 5 58 (by kernel_rfl)
        have zL : f 19 = false := hdesc 60 19 (by kernel_rfl)
        refine stepOf_slice 39 (.tmp 57) none (some (.tmp 58)) none rfl rfl (w' := w') (v := .slice A pa c) ?_ (hK _ _ (But.refl _ _) (hI.read (j := 6) (by decide)) rfl)
        simp only [Act.eval, Option.map_some, Option.map_none, t4, t5, Array.getD_eq_getD_getElem?, Option.getD_some]
        exact run_head w' HSz.out.1 HSz.out.2.1
      · intro f a w' hI hf hanc hdesc hle hs' hd K hK
        have f10 : a.tmps[10]? = some (.pointer (some ⟨Y, 0, none⟩)) := hs'.2.2 10 (by kernel_rfl)
        have zL : f 19 = false := hdesc 60 19 (by kernel_rfl)
        obtain ⟨y0, y1, y2, y3⟩ := blk4 (HY.out w' (hI.ahead zL))
        unfold Go.Rel.stepOf
        go_simp
        exact hK _ _ (But.refl _ _) (hI.read (j := 7) (by decide)) rfl
      · intro f a w' hI hf hanc hdesc hle hs' hd K hK
        obtain ⟨_, t7, rfl⟩ := hd 7 60 (by kernel_rfl)
        have zL : f 19 = false := hdesc 60 19 (by kernel_rfl)
        unfold Go.Rel.stepOf
        go_simp
        exact hK _ _ (But.of_below (below1 _ _ _)) (hI.below zL (below1 _ _ _) (by decide)) ⟨_, rfl, (hI.ahead zL).size, heap_alloc_new w' _⟩
      · intro f a w' hI hf hanc hdesc hle hs' hd K hK
        have f0 : a.tmps[0]? = some (.pointer (some ⟨B, 0, none⟩)) := hs'.2.2 0 (by kernel_rfl)
        unfold Go.Rel.stepOf
        go_simp
        exact hK _ _ (But.refl _ _) (hI.read (j := 9) (by decide)) rfl
      · intro f a w' hI hf hanc hdesc hle hs' hd K hK
        obtain ⟨_, t9, rfl⟩ := hd 9 62 (by kernel_rfl)
        unfold Go.Rel.stepOf
        go_simp
        exact hK _ _ (But.refl _ _) (hI.read (j := 10) (by decide)) rfl
      · intro f a w' hI hf hanc hdesc hle hs' hd K hK
        obtain ⟨_, t10, rfl⟩ := hd 10 63 (by kernel_rfl)
        unfold Go.Rel.stepOf
        go_simp
        exact hK _ _ (But.refl _ _) (hI.read (j := 11) (by decide)) rfl
      · intro f a w' hI hf hanc hdesc hle hs' hd K hK
        obtain ⟨_, t11, rfl⟩ := hd 11 64 (by kernel_rfl)
        have zL : f 19 = false := hdesc 60 19 (by kernel_rfl)
        have cc := HC.out w' (hI.ahead zL)
        unfold Go.Rel.stepOf
        go_simp
        exact hK _ _ (But.refl _ _) (hI.read (j := 12) (by decide)) rfl
      · intro f a w' hI hf hanc hdesc hle hs' hd K hK
        have f13 : a.tmps[13]? = some (.int .i64 (pb : Int)) := hs'.2.2 13 (by kernel_rfl)
        unfold Go.Rel.stepOf
        go_simp
        exact hK _ _ (But.refl _ _) (hI.read (j := 13) (by decide)) rfl
      · intro f a w' hI hf hanc hdesc hle hs' hd K hK
        obtain ⟨_, t12, rfl⟩ := hd 12 65 (by kernel_rfl)
        obtain ⟨_, t13, rfl⟩ := hd 13 66 (by kernel_rfl)
        have zL : f 19 = false := hdesc 60 19 (by kernel_rfl)
        refine stepOf_slice 39 (.tmp 65) (some (.tmp 66)) none none rfl rfl (w' := w') (v := .slice (tailA A pb c) (L - pb) (c - pb)) ?_ (hK _ _ (But.refl _ _) (hI.read (j := 14) (by decide)) rfl)
        simp only [Act.eval, Option.map_some, Option.map_none, t12, t13, Array.getD_eq_getD_getElem?, Option.getD_some]
        exact run_tail w' HSz.out.2.2.1 HSz.out.2.2.2
      · intro f a w' hI hf hanc hdesc hle hs' hd K hK
        obtain ⟨_, t6, rfl⟩ := hd 6 59 (by kernel_rfl)
        obtain ⟨_, t8, Z8, rfl, g8, k8⟩ := hd 8 61 (by kernel_rfl)
        obtain ⟨_, t14, rfl⟩ := hd 14 67 (by kernel_rfl)
        have zL : f 19 = false := hdesc 60 19 (by kernel_rfl)
        unfold Go.Rel.stepOf
        go_simp
        exact hK _ _ (But.of_below (below1 _ _ _)) (hI.below zL (below1 _ _ _) (by decide)) ⟨_, _, rfl, (hI.ahead zL).size, g8, heap_alloc_new w' _, ((below1 w' _ _).block Z8 (block_lt k8)).trans k8⟩
      · intro f a w' hI hf hanc hdesc hle hs' hd K hK
        obtain ⟨_, t15, Z15, Y15, rfl, g15, e15, k15, j15⟩ := hd 15 68 (by kernel_rfl)
        have zL : f 19 = false := hdesc 60 19 (by kernel_rfl)
        unfold Go.Rel.stepOf
        go_simp
        refine (HCat.out w' (hI.ahead zL) Z15 Y15 k15 j15).mono ?_
        rintro e w2 ⟨v2, rfl, hr2, hb2⟩
        exact hK _ _ (But.of_below hb2) (hI.below zL hb2 (by decide)) (bown_base hr2 (hI.ahead zL).size)
      · intro f a w' hI hf hanc hdesc hle hs' hd K hK
        obtain ⟨_, t0, rfl⟩ := hd 0 53 (by kernel_rfl)
        unfold Go.Rel.stepOf
        go_simp
        exact hK _ _ (But.refl _ _) (hI.read (j := 17) (by decide)) rfl
      · intro f a w' hI hf hanc hdesc hle hs' hd K hK
        obtain ⟨_, t17, rfl⟩ := hd 17 70 (by kernel_rfl)
        unfold Go.Rel.stepOf
        go_simp
        exact hK _ _ (But.refl _ _) (hI.read (j := 18) (by decide)) rfl
      · intro f a w' hI hf hanc hdesc hle hs' hd K hK
        obtain ⟨_, t18, rfl⟩ := hd 18 71 (by kernel_rfl)
        obtain ⟨_, t16, h16⟩ := hd 16 69 (by kernel_rfl)
        obtain ⟨A9, c9, e9, hsk9, hl9, hm9, hn9⟩ := SK.of_row trC_len h16
        subst e9
        have hit9 := HC2.out w' (hI.ahead hf)
        have cB := hit9.c2
        have zB := hit9.froz 2
        unfold Go.Rel.stepOf
        go_simp
        exact hK undef _ (But.set w' (p := ⟨B, 2, none⟩) HBl.out (.slice A9 l2.length c9)) (TI.last ⟨A9, c9, (hit9.fresh (fun b off e _ => hn9 b off e) hsk9 hl9 hm9 (SK.row0 h16) (fun b off e _ => by have h1 := hn9 b off e; have h2 := HBl.out; unfold OldB at h2; omega)), (But.of_below (hI.ahead hf)).trans (But.set (S := (· = B)) w' (p := ⟨B, 2, none⟩) rfl (.slice A9 l2.length c9))⟩) trivial
    case he1 =>
      intro f a w1 hall hJ hle hs' hR'
      have HP1 := Lib.hid (hJ.done_ (hall 19 (by decide)))
      clear hJ hall hle
      obtain ⟨v53, s53, _⟩ := hR' 0 53 (by kernel_rfl)
      obtain ⟨v54, s54, _⟩ := hR' 1 54 (by kernel_rfl)
      obtain ⟨v55, s55, _⟩ := hR' 2 55 (by kernel_rfl)
      obtain ⟨v56, s56, _⟩ := hR' 3 56 (by kernel_rfl)
      obtain ⟨v57, s57, _⟩ := hR' 4 57 (by kernel_rfl)
      obtain ⟨v58, s58, _⟩ := hR' 5 58 (by kernel_rfl)
      obtain ⟨v59, s59, _⟩ := hR' 6 59 (by kernel_rfl)
      obtain ⟨v60, s60, _⟩ := hR' 7 60 (by kernel_rfl)
      obtain ⟨v61, s61, _⟩ := hR' 8 61 (by kernel_rfl)
      obtain ⟨v62, s62, _⟩ := hR' 9 62 (by kernel_rfl)
      obtain ⟨v63, s63, _⟩ := hR' 10 63 (by kernel_rfl)
      obtain ⟨v64, s64, _⟩ := hR' 11 64 (by kernel_rfl)
      obtain ⟨v65, s65, _⟩ := hR' 12 65 (by kernel_rfl)
      obtain ⟨v66, s66, _⟩ := hR' 13 66 (by kernel_rfl)
      obtain ⟨v67, s67, _⟩ := hR' 14 67 (by kernel_rfl)
      obtain ⟨v68, s68, _⟩ := hR' 15 68 (by kernel_rfl)
      obtain ⟨v69, s69, _⟩ := hR' 16 69 (by kernel_rfl)
      obtain ⟨v70, s70, _⟩ := hR' 17 70 (by kernel_rfl)
      obtain ⟨v71, s71, _⟩ := hR' 18 71 (by kernel_rfl)
      have e := hs'.shape
      simp only [List.toList_toArray, List.foldl, Go.Rel.reset, Array.getD_eq_getD_getElem?, s53, s54, s55, s56, s57, s58, s59, s60, s61, s62, s63, s64, s65, s66, s67, s68, s69, s70, s71, Option.getD_some] at e
      simp at e
      clear hR' hs' s53 s54 s55 s56 s57 s58 s59 s60 s61 s62 s63 s64 s65 s66 s67 s68 s69 s70 s71
      subst e
      obtain ⟨A3, c3, hp1, hbt⟩ := HP1.out
      have HRs := Lib.hid (raise_is i hp1 (by show 1 ≤ t.most; rw [HMo.out]; exact hmost.1) hlst hi)
      have HBt := Lib.hid hbt
      have HXa := Lib.hid (show X ≠ B by omega)
      clear hp1 hbt HP1 HCat HC HC2 HY HSz
      go_wp2_with fail
      refine HRs.out.mono ?_
      rintro e w2 ⟨rfl, hp2, hb2⟩
      have hbt2 : But (· = B) W0 w2 := HBt.out.trans hb2
      have ky := (hbt2.block Y HYl.out (fun e => HYa.out e)).trans HYk.out
      have kx := (hbt2.block X HXl.out (fun e => HXa.out e)).trans HKx0.out
      have HP2 := Lib.hid hp2
      have HBt2 := Lib.hid hbt2
      obtain ⟨d0, d1, d2, d3⟩ := blk4 kx
      obtain ⟨y0, y1, y2, y3⟩ := blk4 ky
      have z0 := blk_froz kx 0
      have z1 := blk_froz kx 1
      have z2 := blk_froz kx 2
      have z3 := blk_froz kx 3
      have HQ := Lib.hid (set4_blk kx (.string r.key) (.int .i64 r.val) (.int .u64 (r.made : Int)) (.int .u64 (r.ix : Int)))
      have hxl2 := block_lt kx
      clear hp2 hb2 hbt2 ky kx HRs
      go_wp2
      obtain ⟨q0, q1, q2, q3⟩ := blk4 HQ.out
      refine bodyPost_ret (v := .tuple #[trV r, .int .i64 0]) (by simp [results, Try.results17, go_sem, q0, q1, q2, q3, trV]) rfl ?_
      have hF := HFull.out
      unfold putV Tb.putT
      rw [if_neg (by rw [hF]; simp), if_neg (by rw [hF]; simp), HRow.out]
      have hset := but_set4 X w2 (.string r.key) (.int .i64 r.val) (.int .u64 (r.made : Int)) (.int .u64 (r.ix : Int))
      have hgx : w.heap.size ≤ X := by rw [HX.out]; exact Nat.le_refl _
      have hbw : But (· = B) w W0 := But.of_below (by rw [HX.out]; exact HB0w.out)
      have hX1 := HXl.out
      refine ⟨rfl, ⟨HOk.out.put k v hi HKs.out (full_of hF), A3, c3, ?_⟩, (hbw.trans HBt2.out).then_ hset (fun j e hj => by omega)⟩
      have e : t.put k v i = ({ t with l := l2 } : Tb Int).raise i := by
        unfold Tb.put Tb.raise
        rw [HRow.out, HLay.out]
      rw [e]
      have hs0 : X < W0.heap.size := HXl.out
      have := (HP2.out.but hset (fun j e hj => by
        rw [e] at hj
        rcases hj with hj | hj
        · rw [HS2.out] at hj
          exact Nat.lt_irrefl _ hj.2
        · omega))
      refine this.narrow fun j hj hs => ?_
      rcases hs with hs | hs
      · rw [HS2.out] at hs
        exact .inl hs.1
      · refine .inr ?_
        have := HG.out
        omega
  | false =>
    have hq := HHv.out
    obtain rfl : none = o := by
      unfold hasB at hq
      rw [HO.out] at hq
      cases o
      · rfl
      · cases hq
    have hno : ¬ hasR t.l k := fun e => by
      have := get_some HR.out e
      rw [HO.out] at this
      cases this
    have c2 : w3.cell? ⟨B, 2, none⟩ = some (.slice A L c) := by have := HT3.out.c2; rw [HL.out] at this; exact this
    have c0 : w3.cell? ⟨B, 0, none⟩ = some (.int .i64 (most : Int)) := by have := HT3.out.c0; rw [HMo.out] at this; exact this
    have HNo := Lib.hid hno
    clear hq hno
    by_cases hf : most ≤ L
    · have f1 : decide ((most : Int) ≤ (L : Int)) = true := decide_eq_true (by omega)
      have f2 : decide (most ≤ L) = true := decide_eq_true hf
      obtain ⟨d0, d1, d2, d3⟩ := blk4 HKx.out
      have z0 := blk_froz HKx.out 0
      have z1 := blk_froz HKx.out 1
      have z2 := blk_froz HKx.out 2
      have z3 := blk_froz HKx.out 3
      have hxl := block_lt HKx.out
      go_wp2
      go_quiet (fail)
      generalize hW4 : w3.drewN _ = W4
      have f3 : W4.heap = w3.heap := by rw [← hW4]; rfl
      have HB4 : Hid (Below X w W4) := Lib.hid (by rw [← hW4]; exact below_drewN HB3.out _)
      have kx : W4.heap[X]? = some (.cells #[.string ⟨#[]⟩, .int .i64 0, .int .u64 0, .int .u64 0] 32 (0, 0)) := by rw [f3]; exact HKx.out
      clear hW4 f3 d0 d1 d2 d3 z0 z1 z2 z3 hxl
      obtain ⟨d0, d1, d2, d3⟩ := blk4 kx
      have z0 := blk_froz kx 0
      have z1 := blk_froz kx 1
      have z2 := blk_froz kx 2
      have z3 := blk_froz kx 3
      have hxl := block_lt kx
      have HQ := Lib.hid (set4_blk kx (.string ⟨#[]⟩) (.int .i64 0) (.int .u64 0) (.int .u64 0))
      clear kx
      go_wp2
      obtain ⟨q0, q1, q2, q3⟩ := blk4 HQ.out
      refine bodyPost_ret (v := .tuple #[trV noRw, .int .i64 5]) (by simp [results, Try.results17, go_sem, q0, q1, q2, q3, trV, noRw]) rfl ?_
      have hF : t.fullB k = true := by unfold Tb.fullB; rw [HO.out, HMo.out, HL.out, f2]; rfl
      unfold putV Tb.putT
      rw [if_pos hF, if_pos hF]
      have hb4 := below_set4 HB4.out (.string ⟨#[]⟩) (.int .i64 0) (.int .u64 0) (.int .u64 0)
      rw [← HX.out] at hb4
      refine ⟨rfl, ?_, ?_⟩
      · rw [← HX.out]
        exact (HAt.out.below hb4).narrow fun j _ hs => .inl hs
      · rw [← HX.out]; exact But.of_below hb4
    · have f1 : decide ((most : Int) ≤ (L : Int)) = false := decide_eq_false (by omega)
      have f2 : decide (most ≤ L) = false := decide_eq_false hf
      have hrow : t.row k v i = ⟨k, v, i, i⟩ := by unfold Tb.row; rw [HO.out]; rfl
      obtain ⟨r, hr2⟩ : ∃ r, t.row k v i = r := ⟨_, rfl⟩
      have er : r = ⟨k, v, i, i⟩ := hr2.symm.trans hrow
      have HRow := Lib.hid hr2
      have HLay : Hid (layR r false t.l = t.l.take pl ++ r :: t.l.drop pl) := Lib.hid (by
        have e : r.key = k := by rw [er]
        rw [lay_new r HR.out (by rw [e]; exact HNo.out), e, HPl.out])
      have HFull : Hid (t.fullB k = false) := Lib.hid (by unfold Tb.fullB; rw [HMo.out, HL.out, f2]; simp)
      have HEr := Lib.hid er
      clear hrow hr2 er
      go_wp2
      go_quiet (fail)
      go_wp2
      obtain ⟨Y, hYe⟩ : ∃ Y, X + 1 = Y := ⟨_, rfl⟩
      obtain ⟨pa, hae⟩ : ∃ pa, pl = pa := ⟨_, rfl⟩
      generalize hW0 : w3.drewN _ = W0
      have f3 : W0.heap = w3.heap := by rw [← hW0]; rfl
      rw [hYe]
      have hpt : PtIs S2 W0 B A c t := by rw [← hW0]; exact HT3.out.below (below_drewN (Below.refl _ _) _)
      have hy : W0.heap[Y]? = some (.cells #[.string r.key, .int .i64 r.val, .int .u64 (r.made : Int), .int .u64 (r.ix : Int)] 32 (0, 0)) := by
        rw [HEr.out, f3, ← hYe]
        exact HKy.out
      have HKx0 : Hid (W0.heap[X]? = some (.cells #[.string ⟨#[]⟩, .int .i64 0, .int .u64 0, .int .u64 0] 32 (0, 0))) := Lib.hid (by rw [f3]; exact HKx.out)
      have HB0w : Hid (Below X w W0) := Lib.hid (by rw [← hW0]; exact below_drewN HB3.out _)
      have hab : pa ≤ L ∧ pa ≤ L ∧ pa ≤ pa := by omega
      have HYa : Hid (Y ≠ B) := Lib.hid (by omega)
      rw [hae] at HLay ⊢
      clear c2 c0 f3 hW0 HKx HKy HT3 HK0 HK2 hYl HEr HNo hae f1 f2 hf
      have hlt0 := hpt.lt
      obtain ⟨l2, hl2⟩ : ∃ l2, t.l.take pa ++ r :: t.l.drop pa = l2 := ⟨_, rfl⟩
      have HC := Lib.hid (fun W (hw : Below W0.heap.size W0 W) => (show W.cell? ⟨B, 2, none⟩ = some (.slice A L c) by have := (hpt.below hw).c2; rw [HL.out] at this; exact this))
      have HC2 := Lib.hid (fun W (hw : Below W0.heap.size W0 W) => hpt.below hw)
      have HY := Lib.hid (fun W (hw : Below W0.heap.size W0 W) => (hw.block Y (block_lt hy)).trans hy)
      have HCat := Lib.hid (fun W (hw : Below W0.heap.size W0 W) (Z Y2 : Nat) (kz : W.heap[Z]? = some (.cells #[.slice A pa c, .slice (some ⟨Y2, 0, none⟩) 1 1, .slice (tailA A pa c) (L - pa) (c - pa)] 39 (0, 0))) (ky : W.heap[Y2]? = some (.cells #[.string r.key, .int .i64 r.val, .int .u64 (r.made : Int), .int .u64 (r.ix : Int)] 32 (0, 0))) => (by rw [← HL.out] at kz; have := cat3 (hpt.below hw) (a := pa) (b := pa) (by rw [HL.out]; exact hab.1) (by rw [HL.out]; exact hab.2.1) hab.2.2 (by rw [HL.out]; exact h64) r Z Y2 kz ky; rw [hl2] at this; exact this : Calls Try.prog 31 #[.slice (some ⟨Z, 0, none⟩) 3 3] W fun e w' => ∃ v, e = .returned v ∧ twRow w' W.heap.size v l2 ∧ Below W.heap.size W w'))
      have HSz := Lib.hid (show (A = none ∨ ∃ g, A = some ⟨g, 0, none⟩) ∧ pa ≤ c ∧ pa ≤ L ∧ L ≤ c from ⟨hpt.or, by have := hpt.le; rw [HL.out] at this; omega, hab.2.1, by have := hpt.le; rw [HL.out] at this; exact this⟩)
      have HBl : Hid (OldB W0 B) := Lib.hid hlt0
      rw [hl2] at HLay
      have HYk := Lib.hid hy
      have HYl := Lib.hid (block_lt hy)
      have HXl := Lib.hid (block_lt HKx0.out)
      clear hpt hlt0 hl2 hy hab
      go_wp2_with fail
      refine Go.Rel.wp_region_states (by kernel_rfl) (by kernel_rfl) (by kernel_rfl) (by kernel_rfl) (TI 19 W0 (fun W => ∃ A2 c2, PtIs (fun k => S2 k ∨ W0.heap.size ≤ k) W B A2 c2 { t with l := l2 } ∧ But (· = B) W0 W)) (But (OldB W0)) (fun _ _ _ h k => h.trans k) OldB.drew TI.start (putR (OldB W0) B Y W0 A L c pa pa r l2) (putR_stable B Y W0 A L c pa pa r l2) ?hs1 ?he1
      case hs1 =>
        refine (.cons ?_ (.cons ?_ (.cons ?_ (.cons ?_ (.cons ?_ (.cons ?_ (.cons ?_ (.cons ?_ (.cons ?_ (.cons ?_ (.cons ?_ (.cons ?_ (.cons ?_ (.cons ?_ (.cons ?_ (.cons ?_ (.cons ?_ (.cons ?_ (.cons ?_ (.cons ?_ .nil))))))))))))))))))))
        · intro f a w' hI hf hanc hdesc hle hs' hd K hK
          have f0 : a.tmps[0]? = some (.pointer (some ⟨B, 0, none⟩)) := hs'.2.2 0 (by kernel_rfl)
          unfold Go.Rel.stepOf
          go_simp
          exact hK _ _ (But.refl _ _) (hI.read (j := 0) (by decide)) rfl
        · intro f a w' hI hf hanc hdesc hle hs' hd K hK
          have f0 : a.tmps[0]? = some (.pointer (some ⟨B, 0, none⟩)) := hs'.2.2 0 (by kernel_rfl)
          unfold Go.Rel.stepOf
          go_simp
          exact hK _ _ (But.refl _ _) (hI.read (j := 1) (by decide)) rfl
        · intro f a w' hI hf hanc hdesc hle hs' hd K hK
          obtain ⟨_, t1, rfl⟩ := hd 1 54 (by kernel_rfl)
          unfold Go.Rel.stepOf
          go_simp
          exact hK _ _ (But.refl _ _) (hI.read (j := 2) (by decide)) rfl
        · intro f a w' hI hf hanc hdesc hle hs' hd K hK
          obtain ⟨_, t2, rfl⟩ := hd 2 55 (by kernel_rfl)
          unfold Go.Rel.stepOf
          go_simp
          exact hK _ _ (But.refl _ _) (hI.read (j := 3) (by decide)) rfl
        · intro f a w' hI hf hanc hdesc hle hs' hd K hK
          obtain ⟨_, t3, rfl⟩ := hd 3 56 (by kernel_rfl)
          have zL : f 19 = false := hdesc 60 19 (by kernel_rfl)
          have cc := HC.out w' (hI.ahead zL)
          unfold Go.Rel.stepOf
          go_simp
          exact hK _ _ (But.refl _ _) (hI.read (j := 4) (by decide)) rfl
        · intro f a w' hI hf hanc hdesc hle hs' hd K hK
          have f11 : a.tmps[11]? = some (.int .i64 (pa : Int)) := hs'.2.2 11 (by kernel_rfl)
          unfold Go.Rel.stepOf
          go_simp
          exact hK _ _ (But.refl _ _) (hI.read (j := 5) (by decide)) rfl
        · intro f a w' hI hf hanc hdesc hle hs' hd K hK
          obtain ⟨_, t4, rfl⟩ := hd 4 57 (by kernel_rfl)
          obtain ⟨_, t5, rfl⟩ := hd 5 58 (by kernel_rfl)
          have zL : f 19 = false := hdesc 60 19 (by kernel_rfl)
          refine stepOf_slice 39 (.tmp 57) none (some (.tmp 58)) none rfl rfl (w' := w') (v := .slice A pa c) ?_ (hK _ _ (But.refl _ _) (hI.read (j := 6) (by decide)) rfl)
          simp only [Act.eval, Option.map_some, Option.map_none, t4, t5, Array.getD_eq_getD_getElem?, Option.getD_some]
          exact run_head w' HSz.out.1 HSz.out.2.1
        · intro f a w' hI hf hanc hdesc hle hs' hd K hK
          have f10 : a.tmps[10]? = some (.pointer (some ⟨Y, 0, none⟩)) := hs'.2.2 10 (by kernel_rfl)
          have zL : f 19 = false := hdesc 60 19 (by kernel_rfl)
          obtain ⟨y0, y1, y2, y3⟩ := blk4 (HY.out w' (hI.ahead zL))
          unfold Go.Rel.stepOf
          go_simp
          exact hK _ _ (But.refl _ _) (hI.read (j := 7) (by decide)) rfl
        · intro f a w' hI hf hanc hdesc hle hs' hd K hK
          obtain ⟨_, t7, rfl⟩ := hd 7 60 (by kernel_rfl)
          have zL : f 19 = false := hdesc 60 19 (by kernel_rfl)
          unfold Go.Rel.stepOf
          go_simp
          exact hK _ _ (But.of_below (below1 _ _ _)) (hI.below zL (below1 _ _ _) (by decide)) ⟨_, rfl, (hI.ahead zL).size, heap_alloc_new w' _⟩
        · intro f a w' hI hf hanc hdesc hle hs' hd K hK
          have f0 : a.tmps[0]? = some (.pointer (some ⟨B, 0, none⟩)) := hs'.2.2 0 (by kernel_rfl)
          unfold Go.Rel.stepOf
          go_simp
          exact hK _ _ (But.refl _ _) (hI.read (j := 9) (by decide)) rfl
        · intro f a w' hI hf hanc hdesc hle hs' hd K hK
          obtain ⟨_, t9, rfl⟩ := hd 9 62 (by kernel_rfl)
          unfold Go.Rel.stepOf
          go_simp
          exact hK _ _ (But.refl _ _) (hI.read (j := 10) (by decide)) rfl
        · intro f a w' hI hf hanc hdesc hle hs' hd K hK
          obtain ⟨_, t10, rfl⟩ := hd 10 63 (by kernel_rfl)
          unfold Go.Rel.stepOf
          go_simp
          exact hK _ _ (But.refl _ _) (hI.read (j := 11) (by decide)) rfl
        · intro f a w' hI hf hanc hdesc hle hs' hd K hK
          obtain ⟨_, t11, rfl⟩ := hd 11 64 (by kernel_rfl)
          have zL : f 19 = false := hdesc 60 19 (by kernel_rfl)
          have cc := HC.out w' (hI.ahead zL)
          unfold Go.Rel.stepOf
          go_simp
          exact hK _ _ (But.refl _ _) (hI.read (j := 12) (by decide)) rfl
        · intro f a w' hI hf hanc hdesc hle hs' hd K hK
          have f13 : a.tmps[13]? = some (.int .i64 (pa : Int)) := hs'.2.2 13 (by kernel_rfl)
          unfold Go.Rel.stepOf
          go_simp
          exact hK _ _ (But.refl _ _) (hI.read (j := 13) (by decide)) rfl
        · intro f a w' hI hf hanc hdesc hle hs' hd K hK
          obtain ⟨_, t12, rfl⟩ := hd 12 65 (by kernel_rfl)
          obtain ⟨_, t13, rfl⟩ := hd 13 66 (by kernel_rfl)
          have zL : f 19 = false := hdesc 60 19 (by kernel_rfl)
          refine stepOf_slice 39 (.tmp 65) (some (.tmp 66)) none none rfl rfl (w' := w') (v := .slice (tailA A pa c) (L - pa) (c - pa)) ?_ (hK _ _ (But.refl _ _) (hI.read (j := 14) (by decide)) rfl)
          simp only [Act.eval, Option.map_some, Option.map_none, t12, t13, Array.getD_eq_getD_getElem?, Option.getD_some]
          exact run_tail w' HSz.out.2.2.1 HSz.out.2.2.2
        · intro f a w' hI hf hanc hdesc hle hs' hd K hK
          obtain ⟨_, t6, rfl⟩ := hd 6 59 (by kernel_rfl)
          obtain ⟨_, t8, Z8, rfl, g8, k8⟩ := hd 8 61 (by kernel_rfl)
          obtain ⟨_, t14, rfl⟩ := hd 14 67 (by kernel_rfl)
          have zL : f 19 = false := hdesc 60 19 (by kernel_rfl)
          unfold Go.Rel.stepOf
          go_simp
          exact hK _ _ (But.of_below (below1 _ _ _)) (hI.below zL (below1 _ _ _) (by decide)) ⟨_, _, rfl, (hI.ahead zL).size, g8, heap_alloc_new w' _, ((below1 w' _ _).block Z8 (block_lt k8)).trans k8⟩
        · intro f a w' hI hf hanc hdesc hle hs' hd K hK
          obtain ⟨_, t15, Z15, Y15, rfl, g15, e15, k15, j15⟩ := hd 15 68 (by kernel_rfl)
          have zL : f 19 = false := hdesc 60 19 (by kernel_rfl)
          unfold Go.Rel.stepOf
          go_simp
          refine (HCat.out w' (hI.ahead zL) Z15 Y15 k15 j15).mono ?_
          rintro e w2 ⟨v2, rfl, hr2, hb2⟩
          exact hK _ _ (But.of_below hb2) (hI.below zL hb2 (by decide)) (bown_base hr2 (hI.ahead zL).size)
        · intro f a w' hI hf hanc hdesc hle hs' hd K hK
          obtain ⟨_, t0, rfl⟩ := hd 0 53 (by kernel_rfl)
          unfold Go.Rel.stepOf
          go_simp
          exact hK _ _ (But.refl _ _) (hI.read (j := 17) (by decide)) rfl
        · intro f a w' hI hf hanc hdesc hle hs' hd K hK
          obtain ⟨_, t17, rfl⟩ := hd 17 70 (by kernel_rfl)
          unfold Go.Rel.stepOf
          go_simp
          exact hK _ _ (But.refl _ _) (hI.read (j := 18) (by decide)) rfl
        · intro f a w' hI hf hanc hdesc hle hs' hd K hK
          obtain ⟨_, t18, rfl⟩ := hd 18 71 (by kernel_rfl)
          obtain ⟨_, t16, h16⟩ := hd 16 69 (by kernel_rfl)
          obtain ⟨A9, c9, e9, hsk9, hl9, hm9, hn9⟩ := SK.of_row trC_len h16
          subst e9
          have hit9 := HC2.out w' (hI.ahead hf)
          have cB := hit9.c2
          have zB := hit9.froz 2
          unfold Go.Rel.stepOf
          go_simp
          exact hK undef _ (But.set w' (p := ⟨B, 2, none⟩) HBl.out (.slice A9 l2.length c9)) (TI.last ⟨A9, c9, (hit9.fresh (fun b off e _ => hn9 b off e) hsk9 hl9 hm9 (SK.row0 h16) (fun b off e _ => by have h1 := hn9 b off e; have h2 := HBl.out; unfold OldB at h2; omega)), (But.of_below (hI.ahead hf)).trans (But.set (S := (· = B)) w' (p := ⟨B, 2, none⟩) rfl (.slice A9 l2.length c9))⟩) trivial
      case he1 =>
        intro f a w1 hall hJ hle hs' hR'
        have HP1 := Lib.hid (hJ.done_ (hall 19 (by decide)))
        clear hJ hall hle
        obtain ⟨v53, s53, _⟩ := hR' 0 53 (by kernel_rfl)
        obtain ⟨v54, s54, _⟩ := hR' 1 54 (by kernel_rfl)
        obtain ⟨v55, s55, _⟩ := hR' 2 55 (by kernel_rfl)
        obtain ⟨v56, s56, _⟩ := hR' 3 56 (by kernel_rfl)
        obtain ⟨v57, s57, _⟩ := hR' 4 57 (by kernel_rfl)
        obtain ⟨v58, s58, _⟩ := hR' 5 58 (by kernel_rfl)
        obtain ⟨v59, s59, _⟩ := hR' 6 59 (by kernel_rfl)
        obtain ⟨v60, s60, _⟩ := hR' 7 60 (by kernel_rfl)
        obtain ⟨v61, s61, _⟩ := hR' 8 61 (by kernel_rfl)
        obtain ⟨v62, s62, _⟩ := hR' 9 62 (by kernel_rfl)
        obtain ⟨v63, s63, _⟩ := hR' 10 63 (by kernel_rfl)
        obtain ⟨v64, s64, _⟩ := hR' 11 64 (by kernel_rfl)
        obtain ⟨v65, s65, _⟩ := hR' 12 65 (by kernel_rfl)
        obtain ⟨v66, s66, _⟩ := hR' 13 66 (by kernel_rfl)
        obtain ⟨v67, s67, _⟩ := hR' 14 67 (by kernel_rfl)
        obtain ⟨v68, s68, _⟩ := hR' 15 68 (by kernel_rfl)
        obtain ⟨v69, s69, _⟩ := hR' 16 69 (by kernel_rfl)
        obtain ⟨v70, s70, _⟩ := hR' 17 70 (by kernel_rfl)
        obtain ⟨v71, s71, _⟩ := hR' 18 71 (by kernel_rfl)
        have e := hs'.shape
        simp only [List.toList_toArray, List.foldl, Go.Rel.reset, Array.getD_eq_getD_getElem?, s53, s54, s55, s56, s57, s58, s59, s60, s61, s62, s63, s64, s65, s66, s67, s68, s69, s70, s71, Option.getD_some] at e
        simp at e
        clear hR' hs' s53 s54 s55 s56 s57 s58 s59 s60 s61 s62 s63 s64 s65 s66 s67 s68 s69 s70 s71
        subst e
        obtain ⟨A3, c3, hp1, hbt⟩ := HP1.out
        have HRs := Lib.hid (raise_is i hp1 (by show 1 ≤ t.most; rw [HMo.out]; exact hmost.1) hlst hi)
        have HBt := Lib.hid hbt
        have HXa := Lib.hid (show X ≠ B by omega)
        clear hp1 hbt HP1 HCat HC HC2 HY HSz
        go_wp2_with fail
        refine HRs.out.mono ?_
        rintro e w2 ⟨rfl, hp2, hb2⟩
        have hbt2 : But (· = B) W0 w2 := HBt.out.trans hb2
        have ky := (hbt2.block Y HYl.out (fun e => HYa.out e)).trans HYk.out
        have kx := (hbt2.block X HXl.out (fun e => HXa.out e)).trans HKx0.out
        have HP2 := Lib.hid hp2
        have HBt2 := Lib.hid hbt2
        obtain ⟨d0, d1, d2, d3⟩ := blk4 kx
        obtain ⟨y0, y1, y2, y3⟩ := blk4 ky
        have z0 := blk_froz kx 0
        have z1 := blk_froz kx 1
        have z2 := blk_froz kx 2
        have z3 := blk_froz kx 3
        have HQ := Lib.hid (set4_blk kx (.string r.key) (.int .i64 r.val) (.int .u64 (r.made : Int)) (.int .u64 (r.ix : Int)))
        have hxl2 := block_lt kx
        clear hp2 hb2 hbt2 ky kx HRs
        go_wp2
        obtain ⟨q0, q1, q2, q3⟩ := blk4 HQ.out
        refine bodyPost_ret (v := .tuple #[trV r, .int .i64 0]) (by simp [results, Try.results17, go_sem, q0, q1, q2, q3, trV]) rfl ?_
        have hF := HFull.out
        unfold putV Tb.putT
        rw [if_neg (by rw [hF]; simp), if_neg (by rw [hF]; simp), HRow.out]
        have hset := but_set4 X w2 (.string r.key) (.int .i64 r.val) (.int .u64 (r.made : Int)) (.int .u64 (r.ix : Int))
        have hgx : w.heap.size ≤ X := by rw [HX.out]; exact Nat.le_refl _
        have hbw : But (· = B) w W0 := But.of_below (by rw [HX.out]; exact HB0w.out)
        have hX1 := HXl.out
        refine ⟨rfl, ⟨HOk.out.put k v hi HKs.out (full_of hF), A3, c3, ?_⟩, (hbw.trans HBt2.out).then_ hset (fun j e hj => by omega)⟩
        have e : t.put k v i = ({ t with l := l2 } : Tb Int).raise i := by
          unfold Tb.put Tb.raise
          rw [HRow.out, HLay.out]
        rw [e]
        have hs0 : X < W0.heap.size := HXl.out
        have := (HP2.out.but hset (fun j e hj => by
          rw [e] at hj
          rcases hj with hj | hj
          · rw [HS2.out] at hj
            exact Nat.lt_irrefl _ hj.2
          · omega))
        refine this.narrow fun j hj hs => ?_
        rcases hs with hs | hs
        · rw [HS2.out] at hs
          exact .inl hs.1
        · refine .inr ?_
          have := HG.out
          omega
end Go.Proofs.Ytphjlcogjalidaa
