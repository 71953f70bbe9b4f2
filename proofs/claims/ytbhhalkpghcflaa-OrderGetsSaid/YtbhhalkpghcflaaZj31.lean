/-
  The document's Num and Text, walked (layer 4).
-/
import Derived.Test.YtbhhalkpghcflaaZj18
namespace Go.Proofs.Ytbhhalkpghcflaa
open Go.RowKit
set_option linter.unusedSimpArgs false

theorem rb_one (w : World) (x : Int) (c : UInt8) (h : x = (c.toNat : Int)) (t : TypeId) : RB (w.alloc (.cells #[.int .u8 x] t)) (some ⟨w.heap.size, 0, none⟩) 1 [c] := by
  subst h
  refine ⟨rfl, fun _ => ⟨_, _, rfl, by simp, fun j hj => ?_⟩⟩
  rw [cell_of_row _ w.heap.size _ _ _ (0, 0) (heap_alloc_new w _)]
  have hj1 : j < 1 := hj
  match j, hj1 with
  | 0, _ => rfl
theorem own_one (w : World) (x : Int) (c : UInt8) (h : x = (c.toNat : Int)) : (w.alloc (.cells #[.int .u8 x] 5)).ownsRow w.heap.size 5 1 (.slice (some ⟨w.heap.size, 0, none⟩) 1 1) 1 ([c].map byteV) := by
  subst h
  exact World.ownsRow_lit w _ 1 (Nat.le_refl _) (by unfold maxLen; omega) rfl
/-- One byte more. -/
theorem wpList_append_one {P : Program} {w : World} {ops : Array Oper} {rest : List Oper} {o : Oper} {a : Act} {Q : Exit → Act → World → Prop} (hgd : o.guard = none) (s x : Operand) (t : TypeId)
    (ho : o.op = .call { callee := .builtin .append, args := #[s, x], argTypes := #[t, t] })
    (base : Nat) (i : TypeInfo) (ht : P.underlying t = some (.slice 5)) (hi : P.info? 5 = some i) (hz : i.zero = some (.int .u8 0))
    (hsize : i.size = 1) (hby : i.bytes = 1)
    (v : Value) (m : Nat) (ys : List UInt8) (hs : a.eval s = v) (w0 : World) (b : Int) (c : UInt8) (hw : w = w0.alloc (.cells #[.int .u8 b] 5)) (hbc : b = (c.toNat : Int)) (hown : w0.ownsRow base 5 1 v m (ys.map byteV))
    (hx : a.eval x = .slice (some ⟨w0.heap.size, 0, none⟩) 1 1) (hm : m + 1 ≤ 140737488355328) (hbase : base ≤ w0.heap.size)
    (h : Hid (∀ v' w', w'.ownsRow base 5 1 v' (m + 1) ((ys ++ [c]).map byteV) → Below base w0 w' → wpList P ops Q rest (a.put o.dst v') w')) : wpList P ops Q (o :: rest) a w := by
  subst hw
  have hb0 : Below w0.heap.size w0 (w0.alloc (.cells #[.int .u8 b] 5)) := (Below.refl _ _).alloc (Nat.le_refl _) _
  refine wpList_append_addD hgd s x t ho base i ht hi hz hsize hby v m ys hs (.inl (bown_keep hown hb0)) _ 1 1 [c] hx (rb_one w0 b c hbc _) (by omega) (by unfold maxLen; omega) (by omega) (by simp; omega) (Lib.hid fun v' w' h1 h2 => h.out v' w' h1 ((hb0.mono hbase).trans h2))

theorem digsR_length {n : Nat} (h : n < 256 ^ 8) : (digsR n).length ≤ 8 := by
  have := digs_length 8 n h
  rwa [digs, List.length_reverse] at this

set_option maxRecDepth 100000 in
set_option maxHeartbeats 1000000 in
theorem rnum_any (N : Nat) (hN : N < 256 ^ 8) (w : World) :
    Calls Try.prog 21 #[.int .u64 (N : Int)] w (Adds w w.heap.size (numB N).length (numB N)) := by
  obtain ⟨i0, hi, hz0, hz1, hz2⟩ := info_parts u8_info
  have HDL := Lib.hid (digsR_length hN)
  have hn64 : (N : Int) ≤ 18446744073709551615 := by omega
  clear hN
  go_enter Try.func21, Try.ntmps21
  go_wp2
  go_loopw [0, 3] (fun nv lv wr => ∃ (n k : Nat) (ds : List UInt8), n ≤ N ∧ nv = .int .u64 (n : Int) ∧ Hid (ds.length = k) ∧ Hid (digsR N = ds ++ digsR n) ∧ Hid (wr.ownsRow w.heap.size 5 1 lv k (ds.map byteV)) ∧ Hid (Below w.heap.size w wr)) (fun nv _ _ => (intOf nv).toNat)
  case atStart => exact ⟨N, 0, [], Nat.le_refl _, rfl, Lib.hid rfl, Lib.hid (by simp), Lib.hid (World.ownsRow_nil _ _ _ _), Lib.hid (Below.refl _ _)⟩
  case round =>
    obtain ⟨n, k, ds, hnN, rfl, hdl, hdig, hown, hbl⟩ := hrel
    have hk8 : k ≤ 8 := by
      have h1 := HDL.out
      rw [hdig.out, List.length_append, hdl.out] at h1
      omega
    have hsz := hbl.out.size
    by_cases hn0 : 0 < n
    · have HN : Hid (digsR N = (ds ++ [(n % 256).toUInt8]) ++ digsR (n / 256)) := Lib.hid (by rw [hdig.out, digsR_pos (by omega), List.append_assoc]; rfl)
      have HC : Hid (((n : Int) % 256) = (((n % 256).toUInt8).toNat : Int)) := Lib.hid (by rw [digit_back]; omega)
      go_wp2_with (at_builtin; refine wpList_append_one rfl (.tmp 8) (.tmp 12) 32 rfl w.heap.size i0 Try.underlying32 hi hz0 hz1 hz2 u3 k ds rfl wr ((n : Int) % 256) (n % 256).toUInt8 rfl HC.out hown.out rfl ?c1 ?c2 ?_)
      case c1 => omega
      case c2 => omega
      refine Lib.hid ?_
      intro v2 w2 hown2' hb2
      have HO2 : Hid (w2.ownsRow w.heap.size 5 1 v2 (k + 1) ((ds ++ [(n % 256).toUInt8]).map byteV)) := Lib.hid (by simpa using hown2')
      have HB2 := Lib.hid (hbl.out.trans hb2)
      have HL2 : Hid ((ds ++ [(n % 256).toUInt8]).length = k + 1) := Lib.hid (by simp [hdl.out])
      clear hown2' hb2
      go_wp2
      go_roundw
      case rel => exact ⟨n / 256, k + 1, ds ++ [(n % 256).toUInt8], by omega, by go_num, HL2, HN, HO2, HB2⟩
      case measure => simp [intOf]; omega
    · obtain rfl : n = 0 := by omega
      obtain ⟨wo, rfl⟩ : ∃ wo : World, wo = wr := ⟨_, rfl⟩
      have HD : Hid (digsR N = ds) := Lib.hid (by rw [hdig.out, digsR_zero, List.append_nil])
      obtain ⟨A, c, rfl, hR, _, hkc, _⟩ := RB.own hown.out
      have HR := Lib.hid hR
      have hk8' : (k : Int) ≤ 8 := by omega
      clear hR
      rw [show ((0 : Nat) : Int) = 0 from rfl]
      go_wp2
      have e8 : (k : Int) = ((k.toUInt8).toNat : Int) := by simp; omega
      have HE8 := Lib.hid e8
      clear e8
      go_loopw [4, 5] (fun bv kv w2 => ∃ r : Nat, r ≤ k ∧ kv = .int .i64 ((r : Int) - 1) ∧ Hid (w2.ownsRow wo.heap.size 5 1 bv (1 + (k - r)) ((k.toUInt8 :: (ds.drop r).reverse).map byteV)) ∧ Hid (Below wo.heap.size wo w2)) (fun _ kv _ => (intOf kv + 1).toNat)
      case atStart =>
        refine ⟨k, Nat.le_refl _, rfl, Lib.hid ?_, Lib.hid ((Below.refl _ _).alloc (Nat.le_refl _) _)⟩
        rw [List.drop_of_length_le (by rw [hdl.out]; exact Nat.le_refl _), Nat.sub_self, List.reverse_nil]
        exact own_one wo (k : Int) k.toUInt8 HE8.out
      case round =>
        obtain ⟨r, hr, rfl, hown2, hbl2⟩ := hrel
        have hsz2 := hbl2.out.size
        by_cases hr0 : 0 < r
        · obtain ⟨b, off, rfl, hb, hcell⟩ := (HR.out.below hbl2.out).at_ (by omega)
          have hc := hcell (r - 1) (by omega)
          obtain ⟨x, hx⟩ : ∃ x, ds.getD (r - 1) 0 = x := ⟨_, rfl⟩
          rw [hx] at hc
          have HS : Hid (k.toUInt8 :: (ds.drop (r - 1)).reverse = (k.toUInt8 :: (ds.drop r).reverse) ++ [x]) := Lib.hid (by
            have hl : r - 1 < ds.length := by rw [hdl.out]; omega
            have hxx : ds[r - 1] = x := by rw [← hx]; simp [List.getD, List.getElem?_eq_getElem hl]
            rw [List.drop_eq_getElem_cons hl, show r - 1 + 1 = r by omega, List.reverse_cons, hxx]
            rfl)
          clear hcell hx
          go_wp2_with (at_builtin; refine wpList_append_one rfl (.tmp 27) (.tmp 32) 32 rfl wo.heap.size i0 Try.underlying32 hi hz0 hz1 hz2 u4 (1 + (k - r)) (k.toUInt8 :: (ds.drop r).reverse) rfl wr (x.toNat : Int) x rfl rfl hown2.out rfl ?c1 ?c2 ?_)
          case c1 => omega
          case c2 => omega
          refine Lib.hid ?_
          intro v3 w3 hown3 hb3
          have HO3 : Hid (w3.ownsRow wo.heap.size 5 1 v3 (1 + (k - (r - 1))) ((k.toUInt8 :: (ds.drop (r - 1)).reverse).map byteV)) := Lib.hid (by
            rw [HS.out, show 1 + (k - (r - 1)) = 1 + (k - r) + 1 by omega]
            simpa using hown3)
          have HB3 := Lib.hid (hbl2.out.trans hb3)
          clear hown3 hb3
          go_wp2
          go_roundw
          case rel => exact ⟨r - 1, by omega, by go_num, HO3, HB3⟩
          case measure => simp [intOf]; omega
        · obtain rfl : r = 0 := by omega
          have HNB : Hid (numB N = k.toUInt8 :: ds.reverse ∧ (numB N).length = 1 + k) := Lib.hid (by
            have e1 : digs N = ds.reverse := by rw [digs, HD.out]
            rw [numB, e1, List.length_reverse, hdl.out]
            exact ⟨rfl, by simp [hdl.out]; omega⟩)
          have hown2' := hown2.out
          rw [List.drop_zero, Nat.sub_zero] at hown2'
          have HO4 := Lib.hid hown2'
          obtain ⟨A2, c2, rfl, _⟩ := RB.own hown2'
          clear hown2 hown2'
          go_wp2
          go_ret
          refine ⟨_, rfl, ?_, hbl.out.trans (hbl2.out.mono hbl.out.size)⟩
          rw [HNB.out.2, HNB.out.1]
          exact bown_base HO4.out hbl.out.size
end Go.Proofs.Ytbhhalkpghcflaa
/-
  The document's Text, Flag, Texts and Nums, walked (layer 4).
-/
namespace Go.Proofs.Ytbhhalkpghcflaa
open Go.RowKit
set_option linter.unusedSimpArgs false

theorem str_take_snoc (s : ByteArray) (k : Nat) (h : k < s.size) : s.data.toList.take (k + 1) = s.data.toList.take k ++ [s[k]] := by
  rw [List.take_succ_eq_append_getElem (by simpa using h)]; rfl

set_option maxHeartbeats 1000000 in
theorem rtext_any (s : ByteArray) (w : World) (hm : s.size + 9 ≤ 140737488355328) :
    Calls Try.prog 38 #[.string s] w (Adds w w.heap.size (textB s.data.toList).length (textB s.data.toList)) := by
  obtain ⟨i0, hi, hz0, hz1, hz2⟩ := info_parts u8_info
  have hs256 : s.size < 256 ^ 8 := by omega
  have s1 := rnum_any s.size hs256 w
  have hL9 := numB_le hs256
  have HLs : Hid (s.data.toList.length = s.size) := Lib.hid rfl
  obtain ⟨N, hN⟩ : ∃ N, numB s.size = N := ⟨_, rfl⟩
  rw [hN] at s1 hL9
  have HN := Lib.hid hN
  have S1 := Lib.hid s1
  clear s1 hN hs256
  go_enter Try.func38, Try.ntmps38
  go_wp2_with fail
  refine S1.out.mono ?_
  rintro e w1 ⟨v1, rfl, hown1, hb1⟩
  have HO1 := Lib.hid hown1
  have HB1 := Lib.hid hb1
  clear hown1 hb1
  go_wp2
  go_loopw [3, 4] (fun bv kv wr => ∃ k : Nat, k ≤ s.size ∧ kv = .int .i64 (k : Int) ∧ Hid (wr.ownsRow w.heap.size 5 1 bv (N.length + k) ((N ++ s.data.toList.take k).map byteV)) ∧ Hid (Below w.heap.size w wr)) (fun _ kv _ => s.size - (intOf kv).toNat)
  case atStart => exact ⟨0, Nat.zero_le _, rfl, Lib.hid (by rw [List.take_zero, List.append_nil]; exact HO1.out), HB1⟩
  case round =>
    obtain ⟨k, hk, rfl, hown, hbl⟩ := hrel
    have hsz := hbl.out.size
    by_cases hlt : k < s.size
    · have HT := Lib.hid (str_take_snoc s k hlt)
      go_wp2_with (at_builtin; refine wpList_append_one rfl (.tmp 15) (.tmp 19) 32 rfl w.heap.size i0 Try.underlying32 hi hz0 hz1 hz2 u3 (N.length + k) (N ++ s.data.toList.take k) rfl wr (s[k].toNat : Int) s[k] rfl rfl hown.out rfl ?c1 ?c2 ?_)
      case c1 => omega
      case c2 => omega
      refine Lib.hid ?_
      intro v2 w2 hown2 hb2
      have HO2 : Hid (w2.ownsRow w.heap.size 5 1 v2 (N.length + (k + 1)) ((N ++ s.data.toList.take (k + 1)).map byteV)) := Lib.hid (by
        rw [HT.out, ← Nat.add_assoc, ← List.append_assoc]
        simpa using hown2)
      have HB2 := Lib.hid (hbl.out.trans hb2)
      clear hown2 hb2
      go_wp2
      go_roundw
      case rel => exact ⟨k + 1, by omega, by go_num, HO2, HB2⟩
      case measure => simp [intOf]; omega
    · obtain rfl : k = s.size := by omega
      have HE : Hid (textB s.data.toList = N ++ s.data.toList.take s.size ∧ (textB s.data.toList).length = N.length + s.size) := Lib.hid (by
        rw [List.take_of_length_le (by rw [HLs.out]; exact Nat.le_refl _), textB, HLs.out, HN.out]
        exact ⟨rfl, by rw [List.length_append, HLs.out]⟩)
      obtain ⟨A2, c2, rfl, _⟩ := RB.own hown.out
      go_wp2
      go_ret
      exact ⟨_, rfl, by rw [HE.out.2, HE.out.1]; exact hown.out, hbl.out⟩
theorem rflag_any (is : Bool) (w : World) : Calls Try.prog 40 #[.bool is] w (BGives w (flagB is)) := by
  cases is
  · rw [flagB_false]
    go_enter Try.func40, Try.ntmps40
    go_wp2
    go_ret
    exact ⟨_, 1, rfl, rb_one w 0 0 rfl _, (fun e => by cases e), Nat.le_refl _, by unfold maxLen; omega, (Below.refl _ w).alloc (Nat.le_refl _) _⟩
  · rw [flagB_true]
    go_enter Try.func40, Try.ntmps40
    go_wp2
    go_ret
    refine ⟨_, 2, rfl, ⟨rfl, fun _ => ⟨_, _, rfl, by simp, fun j hj => ?_⟩⟩, (fun e => by cases e), Nat.le_refl _, by unfold maxLen; omega, (Below.refl _ w).alloc (Nat.le_refl _) _⟩
    rw [cell_of_row _ w.heap.size _ _ _ (0, 0) (heap_alloc_new w _)]
    have hj1 : j < 2 := hj
    match j, hj1 with
    | 0, _ | 1, _ => rfl

set_option maxHeartbeats 1000000 in
theorem rlist_str (A : Option Addr) (n c : Nat) (l : List (List UInt8)) (w : World) (hl : RV w A n (l.map strV)) (hm : (textsB l).length + 9 ≤ 140737488355328) (hn : n ≤ 140737488355328) :
    Calls Try.prog 39 #[.slice A n c] w (Adds w w.heap.size (textsB l).length (textsB l)) := by
  obtain ⟨i0, hi, hz0, hz1, hz2⟩ := info_parts u8_info
  have hln : l.length = n := by simpa using hl.1
  have hs256 : l.length < 256 ^ 8 := by omega
  have s1 := rnum_any l.length hs256 w
  rw [hln] at s1
  have S1 := Lib.hid s1
  have HLn := Lib.hid hln
  have HL := Lib.hid hl
  have HM := Lib.hid hm
  clear s1 hln hl hs256 hm
  go_enter Try.func39, Try.ntmps39
  go_wp2_with fail
  refine S1.out.mono ?_
  rintro e w1 ⟨v1, rfl, hown1, hb1⟩
  have HO1 := Lib.hid hown1
  have HB1 := Lib.hid hb1
  clear hown1 hb1
  go_wp2
  go_loopw [3, 4] (fun bv iv wr => ∃ k : Nat, k ≤ n ∧ iv = .int .i64 (k : Int) ∧ Hid (wr.ownsRow w.heap.size 5 1 bv (upto textB l k).length ((upto textB l k).map byteV)) ∧ Hid (Below w.heap.size w wr)) (fun _ iv _ => n - (intOf iv).toNat)
  case atStart => exact ⟨0, Nat.zero_le _, rfl, Lib.hid (by rw [upto_zero, HLn.out]; exact HO1.out), HB1⟩
  case round =>
    obtain ⟨k, hk, rfl, hown, hbl⟩ := hrel
    by_cases hlt : k < n
    · have hk' : k < l.length := by rw [HLn.out]; exact hlt
      obtain ⟨b, off, rfl, hbs, hcell⟩ := (HL.out.below hbl.out).at_ hlt
      rw [List.getElem_map] at hcell
      obtain ⟨x, hx⟩ : ∃ x, l[k] = x := ⟨_, rfl⟩
      rw [hx] at hcell
      have HX := Lib.hid hx
      have HU : Hid (upto textB l (k + 1) = upto textB l k ++ textB x) := Lib.hid (by rw [upto_succ textB l hk', HX.out])
      have hle := upto_le textB l (k + 1)
      rw [HU.out, List.length_append] at hle
      have hsz := hbl.out.size
      obtain ⟨Z, hZ⟩ : ∃ Z, upto textB l k = Z := ⟨_, rfl⟩
      rw [hZ] at hown hle HU
      have hle2 : Z.length + (textB x).length ≤ 140737488355328 := by have := HM.out; unfold textsB at this; omega
      have s2 : Calls Try.prog 38 #[.string ⟨x.toArray⟩] wr (Adds wr wr.heap.size (textB x).length (textB x)) := rtext_any ⟨x.toArray⟩ wr (by have e : (⟨x.toArray⟩ : ByteArray).size = x.length := (by simp [ByteArray.size]); have h1 := textB_length x; have h2 := HM.out; unfold textsB at h2; omega)
      rw [strV] at hcell
      have hy0 : 0 < (textB x).length := by rw [textB_length]; have := numB_pos x.length; omega
      obtain ⟨Y, hY⟩ : ∃ Y, textB x = Y := ⟨_, rfl⟩
      rw [hY] at HU s2 hle2 hy0
      have S2 := Lib.hid s2
      have HZ := Lib.hid hZ
      clear s2 hx hZ hle hY
      obtain ⟨st, hst⟩ : ∃ st : ByteArray, (⟨x.toArray⟩ : ByteArray) = st := ⟨_, rfl⟩
      rw [hst] at hcell S2
      clear hst
      go_wp2_with fail
      refine S2.out.mono ?_
      rintro e w2 ⟨v2, rfl, hown2, hb2⟩
      obtain ⟨A2, c2, rfl, hr2, hn2, hc2, _⟩ := RB.own hown2
      have HO1' := Lib.hid (bown_keep hown.out hb2)
      have HR2 := Lib.hid hr2
      have HB12 := Lib.hid (hb2.mono hbl.out.size)
      have hs2 := hb2.size
      clear hown2 hb2 hr2 hn2
      go_wp2_with (at_builtin; refine wpList_append_addD rfl (.tmp 15) (.tmp 20) 32 rfl w.heap.size i0 Try.underlying32 hi hz0 hz1 hz2 u3 Z.length Z rfl (.inl HO1'.out) A2 Y.length c2 Y rfl HR2.out hy0 ?c1 ?c2 ?c3 ?_)
      case c1 => unfold maxLen; omega
      case c2 => omega
      case c3 => omega
      refine Lib.hid ?_
      intro v3 w3 hown3 hb3
      have HO3 : Hid (w3.ownsRow w.heap.size 5 1 v3 (upto textB l (k + 1)).length ((upto textB l (k + 1)).map byteV)) := Lib.hid (by
        rw [HU.out, List.length_append]; simpa using hown3)
      have HB3 := Lib.hid ((hbl.out.trans HB12.out).trans hb3)
      clear hown3 hb3
      go_wp2
      go_roundw
      case rel => exact ⟨k + 1, by omega, by go_num, HO3, HB3⟩
      case measure => simp [intOf]; omega
    · obtain rfl : k = n := by omega
      have HE : Hid (upto textB l k = textsB l) := Lib.hid (upto_all textB l (by rw [HLn.out]; exact Nat.le_refl _))
      obtain ⟨A2, c2, rfl, _⟩ := RB.own hown.out
      go_wp2
      go_ret
      exact ⟨_, rfl, by rw [← HE.out]; exact hown.out, hbl.out⟩

end Go.Proofs.Ytbhhalkpghcflaa
