/-
  num and apart, walked (layer 4).
-/
import Derived.Test.YtbhhalkpghcflaaZj7
import Derived.Outline
namespace Go.Proofs.Ytbhhalkpghcflaa
open Go.RowKit
set_option linter.unusedSimpArgs false

theorem apart_any (A : Option Addr) (n c : Nat) (w : World) (hnc : n ≤ c) (_ : A = none → c = 0) (hm : n ≤ 140737488355328) : Calls Try.prog 37 #[.slice A n c] w fun e w' => e = .returned (.slice A n n) ∧ w = w' := by
  have q0 : (0 : Int) ≤ (n : Int) := by omega
  go_enter Try.func37, Try.ntmps37
  go_wp2
  go_ret
  exact ⟨rfl, rfl⟩

/-- The array of num: its end from p on holds digits. -/
def Laid (cur : Array Value) (p : Nat) (ds : List UInt8) : Prop := cur.size = 9 ∧ p + ds.length = 9 ∧ cur.toList.drop p = ds.map byteV
theorem laid_put {cur : Array Value} {p : Nat} {ds : List UInt8} (h : Laid cur p ds) (hp : 0 < p) (c : UInt8) : Laid (cur.setIfInBounds (p - 1) (byteV c)) (p - 1) (c :: ds) := by
  obtain ⟨h1, h2, h3⟩ := h
  refine ⟨by simpa using h1, by simp; omega, ?_⟩
  have hl : p - 1 < cur.toList.length := by simp; omega
  rw [Array.toList_setIfInBounds, List.drop_set, if_neg (by omega), Nat.sub_self, List.drop_eq_getElem_cons hl, List.set_cons_zero, show p - 1 + 1 = p by omega, h3]
  rfl
theorem laid_zero : Laid #[.int .u8 0, .int .u8 0, .int .u8 0, .int .u8 0, .int .u8 0, .int .u8 0, .int .u8 0, .int .u8 0, .int .u8 0] 9 [] := ⟨rfl, rfl, rfl⟩
theorem laid_rb {cur : Array Value} {p : Nat} {ds : List UInt8} (h : Laid cur p ds) (w : World) (t : TypeId) : RB (w.alloc (.cells cur t)) (some ⟨w.heap.size, p, none⟩) (9 - p) ds := by
  obtain ⟨h1, h2, h3⟩ := h
  refine ⟨by omega, fun _ => ⟨_, _, rfl, by simp, fun j hj => ?_⟩⟩
  rw [cell_of_row _ w.heap.size _ _ _ _ (heap_alloc_new w _)]
  have : (cur.toList.drop p)[j]? = some (byteV ds[j]) := by rw [h3]; simp [hj]
  rw [List.getElem?_drop] at this
  simpa [byteV] using this
theorem slice9 (b p : Nat) (x : Int) (hx : x = (p : Int)) (hp : p < 9) (W : World) : (Instr.sliceAt 104 (.pointer (some ⟨b, 0, none⟩)) (some (.int .i64 x)) none none).run Try.prog W = .ok (.slice (some ⟨b, p, none⟩) (9 - p) (9 - p)) W := by
  subst hx
  have hal : Try.prog.arrayLen 104 = 9 := by kernel_rfl
  have hel : Try.prog.elem 104 = 5 := by kernel_rfl
  rw [run_sliceAt_array_l W 104 ⟨b, 0, none⟩ (by rw [hal, hel]; kernel_rfl) .i64 (p : Int) (by omega) (by rw [hal]; omega), hal, hel]
  have hs : (sizeOf 5).run Try.prog W = .ok 1 W := by kernel_rfl
  rw [hs]
  have hne : ¬ 9 = p := by omega
  simp [Result.andThen, slicedAt, hne, Addr.add]
  intro h
  omega
set_option maxHeartbeats 1000000 in
theorem num_any (v : Value) (base m : Nat) (xs : List UInt8) (N : Nat) (hN : N < 256 ^ 8) (w : World) (h : AddD w base v m xs) (hm : m + 9 ≤ 140737488355328) (hb : base ≤ w.heap.size) :
    Calls Try.prog 36 #[v, .int .u64 (N : Int)] w (Adds w base (m + (numB N).length) (xs ++ numB N)) := by
  obtain ⟨i0, hi, hz0, hz1, hz2⟩ := info_parts u8_info
  have HA := Lib.hid h
  have HDL := Lib.hid (digs_length 8 N hN)
  have hn64 : (N : Int) ≤ 18446744073709551615 := by omega
  clear h hN
  go_enter Try.func36, Try.ntmps36
  go_wp2
  go_loopw [1, 6] (fun nv av wr => ∃ (n p : Nat) (ds : List UInt8) (cur : Array Value), n ≤ N ∧ nv = .int .u64 (n : Int) ∧ av = .int .i64 (p : Int) ∧ p ≤ 9 ∧ Hid (digs N = digs n ++ ds) ∧ Hid (Laid cur p ds) ∧ wr = w.alloc (.cells cur 104)) (fun nv _ _ => (intOf nv).toNat)
  case atStart => exact ⟨N, 9, [], _, Nat.le_refl _, rfl, rfl, Nat.le_refl _, Lib.hid (by simp), Lib.hid laid_zero, rfl⟩
  case round =>
    obtain ⟨n, p, ds, cur, hnN, rfl, rfl, hp9, hdig, hlaid, rfl⟩ := hrel
    have hp1 : 1 ≤ p := by
      have h1 := HDL.out
      have h2 := hlaid.out.2.1
      rw [hdig.out, List.length_append] at h1
      omega
    have hlt : p - 1 < cur.size := by have := hlaid.out.1; omega
    have hx : cur[p - 1]? = some cur[p - 1] := Array.getElem?_eq_getElem hlt
    obtain ⟨x, hxx⟩ : ∃ x, cur[p - 1] = x := ⟨_, rfl⟩
    rw [hxx] at hx
    clear hxx hlt
    by_cases hn0 : 0 < n
    · have HN : Hid (digs N = digs (n / 256) ++ ((n % 256).toUInt8 :: ds)) := Lib.hid (by rw [hdig.out, digs_pos (by omega), List.append_assoc]; rfl)
      go_wp2
      go_roundw
      case rel => exact ⟨n / 256, p - 1, (n % 256).toUInt8 :: ds, cur.setIfInBounds (p - 1) (.int .u8 ((n : Int) % 256)), by omega, by go_num, by go_num, by omega, HN, Lib.hid (by
        have := laid_put hlaid.out hp1 (n % 256).toUInt8
        rw [byteV, digit_back] at this
        exact this), rfl⟩
      case measure => simp [intOf]; omega
    · obtain rfl : n = 0 := by omega
      have HD : Hid (digs N = ds) := Lib.hid (by rw [hdig.out, digs_zero, List.nil_append])
      have hz9 : IntKind.i64.wrap (9 - (p : Int)) = 9 - (p : Int) := IntWalk.i64_in _ (by omega)
      have hsl := slice9 w.heap.size (p - 1) ((p : Int) - 1) (by omega) (by omega)
      have HLP := Lib.hid (laid_put hlaid.out hp1 (9 - p).toUInt8)
      have e8 : (((9 - p).toUInt8).toNat : Int) = 9 - (p : Int) := by simp; omega
      have HE8 := Lib.hid e8
      clear e8
      obtain ⟨W1, hW1⟩ : ∃ W1, w.alloc (.cells (cur.setIfInBounds (p - 1) (.int .u8 (9 - (p : Int)))) 104) = W1 := ⟨_, rfl⟩
      have hb1 : Below w.heap.size w W1 := by rw [← hW1]; exact (Below.refl _ w).alloc (Nat.le_refl _) _
      have hr1 : RB W1 (some ⟨w.heap.size, p - 1, none⟩) (9 - (p - 1)) ((9 - p).toUInt8 :: ds) := by
        have h1 := laid_rb HLP.out w 104
        rw [byteV, HE8.out, hW1] at h1
        exact h1
      have HLen : Hid (numB N = (9 - p).toUInt8 :: ds ∧ (numB N).length = 9 - (p - 1)) := Lib.hid (by
        have h2 := hlaid.out.2.1
        rw [numB, HD.out]
        refine ⟨by rw [show ds.length = 9 - p by omega], by simp; omega⟩)
      have hA1 := HA.out.below hb1
      have HB1 := Lib.hid hb1
      have hs1 := hb1.size
      have HA1 := Lib.hid hA1
      have HR1 := Lib.hid hr1
      have HW1 := Lib.hid hW1
      clear hW1 hb1 hr1 hA1
      obtain ⟨L, hL⟩ : ∃ L, 9 - (p - 1) = L := ⟨_, rfl⟩
      rw [hL] at HR1 hsl
      have HL := Lib.hid hL
      have hL9 : 1 ≤ L ∧ L ≤ 9 := by omega
      clear hL
      go_wp2_with (at_builtin; rw [HW1.out]; refine wpList_append_addD rfl (.tmp 26) (.tmp 28) 32 rfl base i0 Try.underlying32 hi hz0 hz1 hz2 v m xs rfl HA1.out (some ⟨w.heap.size, p - 1, none⟩) L L ((9 - p).toUInt8 :: ds) rfl HR1.out hL9.1 ?c1 ?c2 ?c3 ?_)
      case c1 => unfold maxLen; omega
      case c2 => omega
      case c3 => omega
      refine Lib.hid ?_
      intro v2 w2 hown2' hb2
      have hown2 : w2.ownsRow base 5 1 v2 (m + L) ((xs ++ ((9 - p).toUInt8 :: ds)).map byteV) := by simpa using hown2'
      clear hown2'
      obtain ⟨A2, c2, rfl, _⟩ := RB.own hown2
      have HO := Lib.hid hown2
      have HB2 := Lib.hid ((HB1.out.mono hb).trans hb2)
      clear hown2 hb2
      go_wp2
      go_ret
      exact ⟨_, rfl, by rw [HLen.out.2, HLen.out.1, HL.out]; exact HO.out, HB2.out⟩
end Go.Proofs.Ytbhhalkpghcflaa
/-
  text, list and the calls that lay, walked (layer 4).
-/
namespace Go.Proofs.Ytbhhalkpghcflaa
open Go.RowKit
set_option linter.unusedSimpArgs false


set_option maxHeartbeats 1000000 in
theorem text_any (v : Value) (base m : Nat) (xs s : List UInt8) (w : World) (h : AddD w base v m xs) (hm : m + s.length + 9 ≤ 140737488355328) (hb : base ≤ w.heap.size) :
    Calls Try.prog 91 #[v, .string ⟨s.toArray⟩] w (Adds w base (m + (textB s).length) (xs ++ textB s)) := by
  obtain ⟨i0, hi, hz0, hz1, hz2⟩ := info_parts u8_info
  have hs256 : s.length < 256 ^ 8 := by omega
  have s1 := num_any v base m xs s.length hs256 w h (by omega) hb
  obtain ⟨L, hL⟩ : ∃ L, (numB s.length).length = L := ⟨_, rfl⟩
  have hL9 : L ≤ 9 := by rw [← hL]; exact numB_le hs256
  rw [hL] at s1
  have HL := Lib.hid hL
  obtain ⟨st, hst⟩ : ∃ st : ByteArray, (⟨s.toArray⟩ : ByteArray) = st := ⟨_, rfl⟩
  have hsz : st.size = s.length := by rw [← hst]; simp [ByteArray.size]
  have S1 := Lib.hid s1
  have HST := Lib.hid hst
  have HSZ := Lib.hid hsz
  have hst64 : (st.size : Int) ≤ 140737488355328 := by omega
  rw [hst]
  clear h s1 hL hst hsz
  go_enter Try.func91, Try.ntmps91
  go_wp2_with fail
  rw [HSZ.out]
  refine S1.out.mono ?_
  rintro e w1 ⟨v1, rfl, hown1, hb1⟩
  have HO1 := Lib.hid hown1
  have HB1 := Lib.hid hb1
  have hs1 := hb1.size
  clear hown1 hb1
  go_wp2_with (at_builtin; refine wpList_append_str rfl (.tmp 9) (.tmp 10) 32 9 rfl base i0 Try.underlying32 Try.underlying9 hi hz0 hz1 hz2 v1 (m + L) (xs ++ numB s.length) rfl HO1.out s (by rw [HST.out]; rfl) ?c1 ?c2 ?c3 ?_)
  case c1 => unfold maxLen; omega
  case c2 => omega
  case c3 => omega
  refine Lib.hid ?_
  intro v2 w2 hown2' hb2
  have hown2 : w2.ownsRow base 5 1 v2 (m + (textB s).length) ((xs ++ textB s).map byteV) := by
    rw [textB_length, HL.out, textB, ← Nat.add_assoc, ← List.append_assoc]
    simpa using hown2'
  clear hown2'
  have HO := Lib.hid hown2
  have HB2 := Lib.hid (HB1.out.trans hb2)
  obtain ⟨A2, c2, rfl, _⟩ := RB.own HO.out
  clear hown2 hb2
  go_wp2
  go_ret
  exact ⟨_, rfl, HO.out, HB2.out⟩
end Go.Proofs.Ytbhhalkpghcflaa
/-
  list, walked at both its instances (layer 4).
-/
namespace Go.Proofs.Ytbhhalkpghcflaa
open Go.RowKit
set_option linter.unusedSimpArgs false

theorem RV.belowB {w w' : World} {A : Option Addr} {n B : Nat} {xs : List Value} (h : RV w A n xs) (hb : Below B w w') (hs : ∀ b off, A = some ⟨b, off, none⟩ → 0 < n → b < B) : RV w' A n xs :=
  ⟨h.1, fun hn => by
    obtain ⟨b, off, e, hlt, hc⟩ := h.2 hn
    exact ⟨b, off, e, Nat.lt_of_lt_of_le hlt hb.size, fun j hj => (hb.cell (p := ⟨b, off + j, none⟩) (hs b off e hn)).trans (hc j hj)⟩⟩
/-- What has been laid behind k elements. -/
def upto {α : Type} (lay : α → List UInt8) (l : List α) (k : Nat) : List UInt8 := numB l.length ++ (l.take k).flatMap lay
theorem upto_zero {α : Type} (lay : α → List UInt8) (l : List α) : upto lay l 0 = numB l.length := by simp [upto]
theorem upto_succ {α : Type} (lay : α → List UInt8) (l : List α) {k : Nat} (h : k < l.length) : upto lay l (k + 1) = upto lay l k ++ lay l[k] := by
  rw [upto, upto, List.take_succ_eq_append_getElem h, List.flatMap_append, ← List.append_assoc]
  simp
theorem upto_all {α : Type} (lay : α → List UInt8) (l : List α) {k : Nat} (h : l.length ≤ k) : upto lay l k = numB l.length ++ l.flatMap lay := by rw [upto, List.take_of_length_le h]
theorem upto_le {α : Type} (lay : α → List UInt8) (l : List α) (k : Nat) : (upto lay l k).length ≤ (numB l.length ++ l.flatMap lay).length := by
  have : l.flatMap lay = (l.take k).flatMap lay ++ (l.drop k).flatMap lay := by rw [← List.flatMap_append, List.take_append_drop]
  rw [upto, this]
  simp

set_option maxHeartbeats 1000000 in
theorem list_str (v : Value) (base m : Nat) (xs : List UInt8) (A : Option Addr) (n c : Nat) (l : List (List UInt8)) (w : World) (h : AddD w base v m xs) (hl : RV w A n (l.map strV)) (hA : ∀ b off, A = some ⟨b, off, none⟩ → 0 < n → b < base)
    (hm : m + (textsB l).length + 9 ≤ 140737488355328) (hn : n ≤ 140737488355328) (hb : base ≤ w.heap.size) :
    Calls Try.prog 97 #[v, .slice A n c, .func (.func 91) #[] #[]] w (Adds w base (m + (textsB l).length) (xs ++ textsB l)) := by
  have hln : l.length = n := by simpa using hl.1
  have hs256 : l.length < 256 ^ 8 := by omega
  have s1 := num_any v base m xs l.length hs256 w h (by omega) hb
  rw [hln] at s1
  have S1 := Lib.hid s1
  have HLn := Lib.hid hln
  have HL := Lib.hid hl
  have HA := Lib.hid hA
  have HM := Lib.hid hm
  clear h s1 hln hl hA hs256 hm
  go_enter Try.func97, Try.ntmps97
  go_wp2_with fail
  refine S1.out.mono ?_
  rintro e w1 ⟨v1, rfl, hown1, hb1⟩
  have HO1 := Lib.hid hown1
  have HB1 := Lib.hid hb1
  clear hown1 hb1
  go_wp2
  go_loopw [0, 16] (fun bv iv wr => ∃ k : Nat, k ≤ n ∧ iv = .int .i64 (k : Int) ∧ Hid (wr.ownsRow base 5 1 bv (m + (upto textB l k).length) ((xs ++ upto textB l k).map byteV)) ∧ Hid (Below base w wr)) (fun _ iv _ => n - (intOf iv).toNat)
  case atStart => exact ⟨0, Nat.zero_le _, rfl, Lib.hid (by rw [upto_zero, HLn.out]; exact HO1.out), HB1⟩
  case round =>
    obtain ⟨k, hk, rfl, hown, hbl⟩ := hrel
    by_cases hlt : k < n
    · have hk' : k < l.length := by rw [HLn.out]; exact hlt
      obtain ⟨b, off, rfl, hbs, hcell⟩ := (HL.out.belowB hbl.out HA.out).at_ hlt
      rw [List.getElem_map] at hcell
      obtain ⟨x, hx⟩ : ∃ x, l[k] = x := ⟨_, rfl⟩
      rw [hx] at hcell
      have HX := Lib.hid hx
      have HU : Hid (upto textB l (k + 1) = upto textB l k ++ textB x) := Lib.hid (by rw [upto_succ textB l hk', HX.out])
      have hle := upto_le textB l (k + 1)
      rw [HU.out, List.length_append] at hle
      have hsz := hbl.out.size
      obtain ⟨Z, hZ⟩ : ∃ Z, upto textB l k = Z := ⟨_, rfl⟩
      rw [hZ] at hown hle HU
      have s2 := text_any u0 base (m + Z.length) (xs ++ Z) x wr (.inl hown.out) (by have := HM.out; rw [textB_length] at hle; unfold textsB at this; omega) (by omega)
      rw [strV] at hcell
      have S2 := Lib.hid s2
      have HZ := Lib.hid hZ
      clear s2 hx hZ hle
      obtain ⟨st, hst⟩ : ∃ st : ByteArray, (⟨x.toArray⟩ : ByteArray) = st := ⟨_, rfl⟩
      rw [hst] at hcell S2
      clear hst
      go_wp2_with fail
      refine S2.out.mono ?_
      rintro e w2 ⟨v2, rfl, hown2, hb2⟩
      have HO2 : Hid (w2.ownsRow base 5 1 v2 (m + (upto textB l (k + 1)).length) ((xs ++ upto textB l (k + 1)).map byteV)) := Lib.hid (by
        rw [HU.out, List.length_append, ← Nat.add_assoc, ← List.append_assoc]; exact hown2)
      have HB2 := Lib.hid (hbl.out.trans hb2)
      clear hown2 hb2
      go_wp2
      go_roundw
      case rel => exact ⟨k + 1, by omega, by go_num, HO2, HB2⟩
      case measure => simp [intOf]; omega
    · obtain rfl : k = n := by omega
      have HE : Hid (upto textB l k = textsB l) := Lib.hid (upto_all textB l (by rw [HLn.out]; exact Nat.le_refl _))
      obtain ⟨A2, c2, rfl, _⟩ := RB.own hown.out
      go_wp2
      go_ret
      exact ⟨_, rfl, by rw [← HE.out]; exact hown.out, hbl.out⟩

end Go.Proofs.Ytbhhalkpghcflaa
/-
  Num, Text, Flag, Texts, Nums: the program's calls that lay; works (layer 4).
-/
namespace Go.Proofs.Ytbhhalkpghcflaa
open Go.RowKit
set_option linter.unusedSimpArgs false

theorem AddD.apart {w : World} {A : Option Addr} {n c : Nat} {xs : List UInt8} (h : RB w A n xs) (hn : A = none → c = 0) (hnc : n ≤ c) (base : Nat) : AddD w base (.slice A n n) n xs :=
  .inr ⟨A, rfl, h, fun e => by have := hn e; omega⟩
/-- What a call that lays hands back: new memory alone. -/
theorem adds_gives {w w' : World} {m : Nat} {xs : List UInt8} {e : Ending} (h : Adds w w.heap.size m xs e w') : BGives w xs e w' := by
  obtain ⟨v, rfl, hown, hb⟩ := h
  have hl : xs.length = m := by simpa using hown.1
  subst hl
  obtain ⟨A, c, rfl, hr, h1, h2, h3⟩ := RB.own hown
  exact ⟨A, c, rfl, hr, h1, h2, h3, hb⟩

theorem Num_any (A : Option Addr) (n c : Nat) (xs : List UInt8) (N : Nat) (hN : N < 256 ^ 8) (w : World) (h : RB w A n xs) (hn : A = none → c = 0) (hnc : n ≤ c) (hm : n + 9 ≤ 140737488355328) :
    Calls Try.prog 19 #[.slice A n c, .int .u64 (N : Int)] w (BGives w (xs ++ numB N)) := by
  have s1 := apart_any A n c w hnc hn (by omega)
  have s2 := num_any (.slice A n n) w.heap.size n xs N hN w (.apart h hn hnc _) hm (Nat.le_refl _)
  obtain ⟨Z, hZ⟩ : ∃ Z, xs ++ numB N = Z := ⟨_, rfl⟩
  rw [hZ] at s2 ⊢
  clear hZ
  have S2 := Lib.hid s2
  clear h s2 hn
  go_enter Try.func19, Try.ntmps19
  go_wp2_with fail
  refine s1.mono ?_
  rintro e w1 ⟨rfl, rfl⟩
  go_wp2_with fail
  refine S2.out.mono ?_
  rintro e w2 h2
  obtain ⟨A2, c2, rfl, hr, h1, h3, h4, hb⟩ := adds_gives h2
  have HH := Lib.hid (adds_gives h2)
  clear h2 hr h1 h3 h4 hb
  go_wp2
  go_ret
  exact HH.out
theorem Text_any (A : Option Addr) (n c : Nat) (xs s : List UInt8) (w : World) (h : RB w A n xs) (hn : A = none → c = 0) (hnc : n ≤ c) (hm : n + s.length + 9 ≤ 140737488355328) :
    Calls Try.prog 65 #[.slice A n c, .string ⟨s.toArray⟩] w (BGives w (xs ++ textB s)) := by
  have s1 := apart_any A n c w hnc hn (by omega)
  have s2 := text_any (.slice A n n) w.heap.size n xs s w (.apart h hn hnc _) hm (Nat.le_refl _)
  obtain ⟨st, hst⟩ : ∃ st : ByteArray, (⟨s.toArray⟩ : ByteArray) = st := ⟨_, rfl⟩
  rw [hst] at s2 ⊢
  obtain ⟨Z, hZ⟩ : ∃ Z, xs ++ textB s = Z := ⟨_, rfl⟩
  rw [hZ] at s2 ⊢
  clear hZ
  have S2 := Lib.hid s2
  clear h s2 hn hst
  go_enter Try.func65, Try.ntmps65
  go_wp2_with fail
  refine s1.mono ?_
  rintro e w1 ⟨rfl, rfl⟩
  go_wp2_with fail
  refine S2.out.mono ?_
  rintro e w2 h2
  obtain ⟨A2, c2, rfl, hr, h1, h3, h4, hb⟩ := adds_gives h2
  have HH := Lib.hid (adds_gives h2)
  clear h2 hr h1 h3 h4 hb
  go_wp2
  go_ret
  exact HH.out
theorem Texts_any (A : Option Addr) (n c : Nat) (xs : List UInt8) (B : Option Addr) (k d : Nat) (l : List (List UInt8)) (w : World) (h : RB w A n xs) (hn : A = none → c = 0) (hnc : n ≤ c) (hl : RV w B k (l.map strV)) (hk : k ≤ 140737488355328) (hm : n + (textsB l).length + 9 ≤ 140737488355328) :
    Calls Try.prog 72 #[.slice A n c, .slice B k d] w (BGives w (xs ++ textsB l)) := by
  have s1 := apart_any A n c w hnc hn (by omega)
  have s2 := list_str (.slice A n n) w.heap.size n xs B k d l w (.apart h hn hnc _) hl (fun b off e h0 => by
    obtain ⟨b', off', e', hlt, _⟩ := hl.2 h0
    rw [e] at e'
    simp only [Option.some.injEq, Addr.mk.injEq] at e'
    rw [e'.1]; exact hlt) hm hk (Nat.le_refl _)
  obtain ⟨Z, hZ⟩ : ∃ Z, xs ++ textsB l = Z := ⟨_, rfl⟩
  rw [hZ] at s2 ⊢
  clear hZ
  have S2 := Lib.hid s2
  clear h s2 hn hl
  go_enter Try.func72, Try.ntmps72
  go_wp2_with fail
  refine s1.mono ?_
  rintro e w1 ⟨rfl, rfl⟩
  go_wp2_with fail
  refine S2.out.mono ?_
  rintro e w2 h2
  obtain ⟨A2, c2, rfl, hr, h1, h3, h4, hb⟩ := adds_gives h2
  have HH := Lib.hid (adds_gives h2)
  clear h2 hr h1 h3 h4 hb
  go_wp2
  go_ret
  exact HH.out
theorem Flag_any (A : Option Addr) (n c : Nat) (xs : List UInt8) (is : Bool) (w : World) (h : RB w A n xs) (hn : A = none → c = 0) (hnc : n ≤ c) (hm : n + 9 ≤ 140737488355328) :
    Calls Try.prog 78 #[.slice A n c, .bool is] w (BGives w (xs ++ flagB is)) := by
  have s2 := Num_any A n c xs (if is then 1 else 0) (by cases is <;> simp) w h hn hnc hm
  rw [← flagB] at s2
  obtain ⟨Z, hZ⟩ : ∃ Z, xs ++ flagB is = Z := ⟨_, rfl⟩
  rw [hZ] at s2 ⊢
  clear hZ
  cases is
  all_goals
    have S2 := Lib.hid s2
    clear h s2 hn
    go_enter Try.func78, Try.ntmps78
    go_wp2_with fail
    refine S2.out.mono ?_
    rintro e w2 h2
    have HH := Lib.hid h2
    obtain ⟨A2, c2, rfl, hr, h1, h3, h4, hb⟩ := h2
    clear hr h1 h3 h4 hb
    go_wp2
    go_ret
    exact HH.out
theorem numB_300 : numB 300 = [2, 1, 44] := by
  rw [numB, digs_pos (by omega), show 300 / 256 = 1 by rfl, digs_pos (by omega), show 1 / 256 = 0 by rfl, digs_zero]; rfl
end Go.Proofs.Ytbhhalkpghcflaa
