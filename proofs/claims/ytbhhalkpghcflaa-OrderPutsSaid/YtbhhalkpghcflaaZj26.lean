/-
  num and apart, walked (layer 4).
-/
import Derived.Test.YtbhhalkpghcflaaZj14
import Derived.Outline
namespace Go.Proofs.Ytbhhalkpghcflaa
open Go.RowKit
set_option linter.unusedSimpArgs false

theorem apart_any (A : Option Addr) (n c : Nat) (w : World) (hnc : n ≤ c) (_ : A = none → c = 0) (hm : n ≤ 140737488355328) : Calls Try.prog 37 #[.slice A n c] w fun e w' => e = .returned (.slice A n n) ∧ w = w' := by
  have q0 : (0 : Int) ≤ (n : Int) := by omega
  go_enter Try.func37, Try.ntmps37
  go_wp2
  go_ret
  exact ⟨rfl, rfl⟩

/-- The array of num: its end from p on holds digits. -/
def Laid (cur : Array Value) (p : Nat) (ds : List UInt8) : Prop := cur.size = 9 ∧ p + ds.length = 9 ∧ cur.toList.drop p = ds.map byteV
theorem laid_put {cur : Array Value} {p : Nat} {ds : List UInt8} (h : Laid cur p ds) (hp : 0 < p) (c : UInt8) : Laid (cur.setIfInBounds (p - 1) (byteV c)) (p - 1) (c :: ds) := by
  obtain ⟨h1, h2, h3⟩ := h
  refine ⟨by simpa using h1, by simp; omega, ?_⟩
  have hl : p - 1 < cur.toList.length := by simp; omega
  rw [Array.toList_setIfInBounds, List.drop_set, if_neg (by omega), Nat.sub_self, List.drop_eq_getElem_cons hl, List.set_cons_zero, show p - 1 + 1 = p by omega, h3]
  rfl
theorem laid_zero : Laid #[.int .u8 0, .int .u8 0, .int .u8 0, .int .u8 0, .int .u8 0, .int .u8 0, .int .u8 0, .int .u8 0, .int .u8 0] 9 [] := ⟨rfl, rfl, rfl⟩
theorem laid_rb {cur : Array Value} {p : Nat} {ds : List UInt8} (h : Laid cur p ds) (w : World) (t : TypeId) : RB (w.alloc (.cells cur t)) (some ⟨w.heap.size, p, none⟩) (9 - p) ds := by
  obtain ⟨h1, h2, h3⟩ := h
  refine ⟨by omega, fun _ => ⟨_, _, rfl, by simp, fun j hj => ?_⟩⟩
  rw [cell_of_row _ w.heap.size _ _ _ _ (heap_alloc_new w _)]
  have : (cur.toList.drop p)[j]? = some (byteV ds[j]) := by rw [h3]; simp [hj]
  rw [List.getElem?_drop] at this
  simpa [byteV] using this
theorem slice9 (b p : Nat) (x : Int) (hx : x = (p : Int)) (hp : p < 9) (W : World) : (Instr.sliceAt 104 (.pointer (some ⟨b, 0, none⟩)) (some (.int .i64 x)) none none).run Try.prog W = .ok (.slice (some ⟨b, p, none⟩) (9 - p) (9 - p)) W := by
  subst hx
  have hal : Try.prog.arrayLen 104 = 9 := by kernel_rfl
  have hel : Try.prog.elem 104 = 5 := by kernel_rfl
  rw [run_sliceAt_array_l W 104 ⟨b, 0, none⟩ (by rw [hal, hel]; kernel_rfl) .i64 (p : Int) (by omega) (by rw [hal]; omega), hal, hel]
  have hs : (sizeOf 5).run Try.prog W = .ok 1 W := by kernel_rfl
  rw [hs]
  have hne : ¬ 9 = p := by omega
  simp [Result.andThen, slicedAt, hne, Addr.add]
  intro h
  omega
set_option maxHeartbeats 1000000 in
theorem num_any (v : Value) (base m : Nat) (xs : List UInt8) (N : Nat) (hN : N < 256 ^ 8) (w : World) (h : AddD w base v m xs) (hm : m + 9 ≤ 140737488355328) (hb : base ≤ w.heap.size) :
    Calls Try.prog 36 #[v, .int .u64 (N : Int)] w (Adds w base (m + (numB N).length) (xs ++ numB N)) := by
  obtain ⟨i0, hi, hz0, hz1, hz2⟩ := info_parts u8_info
  have HA := Lib.hid h
  have HDL := Lib.hid (digs_length 8 N hN)
  have hn64 : (N : Int) ≤ 18446744073709551615 := by omega
  clear h hN
  go_enter Try.func36, Try.ntmps36
  go_wp2
  go_loopw [1, 6] (fun nv av wr => ∃ (n p : Nat) (ds : List UInt8) (cur : Array Value), n ≤ N ∧ nv = .int .u64 (n : Int) ∧ av = .int .i64 (p : Int) ∧ p ≤ 9 ∧ Hid (digs N = digs n ++ ds) ∧ Hid (Laid cur p ds) ∧ wr = w.alloc (.cells cur 104)) (fun nv _ _ => (intOf nv).toNat)
  case atStart => exact ⟨N, 9, [], _, Nat.le_refl _, rfl, rfl, Nat.le_refl _, Lib.hid (by simp), Lib.hid laid_zero, rfl⟩
  case round =>
    obtain ⟨n, p, ds, cur, hnN, rfl, rfl, hp9, hdig, hlaid, rfl⟩ := hrel
    have hp1 : 1 ≤ p := by
      have h1 := HDL.out
      have h2 := hlaid.out.2.1
      rw [hdig.out, List.length_append] at h1
      omega
    have hlt : p - 1 < cur.size := by have := hlaid.out.1; omega
    have hx : cur[p - 1]? = some cur[p - 1] := Array.getElem?_eq_getElem hlt
    obtain ⟨x, hxx⟩ : ∃ x, cur[p - 1] = x := ⟨_, rfl⟩
    rw [hxx] at hx
    clear hxx hlt
    by_cases hn0 : 0 < n
    · have HN : Hid (digs N = digs (n / 256) ++ ((n % 256).toUInt8 :: ds)) := Lib.hid (by rw [hdig.out, digs_pos (by omega), List.append_assoc]; rfl)
      go_wp2
      go_roundw
      case rel => exact ⟨n / 256, p - 1, (n % 256).toUInt8 :: ds, cur.setIfInBounds (p - 1) (.int .u8 ((n : Int) % 256)), by omega, by go_num, by go_num, by omega, HN, Lib.hid (by
        have := laid_put hlaid.out hp1 (n % 256).toUInt8
        rw [byteV, digit_back] at this
        exact this), rfl⟩
      case measure => simp [intOf]; omega
    · obtain rfl : n = 0 := by omega
      have HD : Hid (digs N = ds) := Lib.hid (by rw [hdig.out, digs_zero, List.nil_append])
      have hz9 : IntKind.i64.wrap (9 - (p : Int)) = 9 - (p : Int) := IntWalk.i64_in _ (by omega)
      have hsl := slice9 w.heap.size (p - 1) ((p : Int) - 1) (by omega) (by omega)
      have HLP := Lib.hid (laid_put hlaid.out hp1 (9 - p).toUInt8)
      have e8 : (((9 - p).toUInt8).toNat : Int) = 9 - (p : Int) := by simp; omega
      have HE8 := Lib.hid e8
      clear e8
      obtain ⟨W1, hW1⟩ : ∃ W1, w.alloc (.cells (cur.setIfInBounds (p - 1) (.int .u8 (9 - (p : Int)))) 104) = W1 := ⟨_, rfl⟩
      have hb1 : Below w.heap.size w W1 := by rw [← hW1]; exact (Below.refl _ w).alloc (Nat.le_refl _) _
      have hr1 : RB W1 (some ⟨w.heap.size, p - 1, none⟩) (9 - (p - 1)) ((9 - p).toUInt8 :: ds) := by
        have h1 := laid_rb HLP.out w 104
        rw [byteV, HE8.out, hW1] at h1
        exact h1
      have HLen : Hid (numB N = (9 - p).toUInt8 :: ds ∧ (numB N).length = 9 - (p - 1)) := Lib.hid (by
        have h2 := hlaid.out.2.1
        rw [numB, HD.out]
        refine ⟨by rw [show ds.length = 9 - p by omega], by simp; omega⟩)
      have hA1 := HA.out.below hb1
      have HB1 := Lib.hid hb1
      have hs1 := hb1.size
      have HA1 := Lib.hid hA1
      have HR1 := Lib.hid hr1
      have HW1 := Lib.hid hW1
      clear hW1 hb1 hr1 hA1
      obtain ⟨L, hL⟩ : ∃ L, 9 - (p - 1) = L := ⟨_, rfl⟩
      rw [hL] at HR1 hsl
      have HL := Lib.hid hL
      have hL9 : 1 ≤ L ∧ L ≤ 9 := by omega
      clear hL
      go_wp2_with (at_builtin; rw [HW1.out]; refine wpList_append_addD rfl (.tmp 26) (.tmp 28) 32 rfl base i0 Try.underlying32 hi hz0 hz1 hz2 v m xs rfl HA1.out (some ⟨w.heap.size, p - 1, none⟩) L L ((9 - p).toUInt8 :: ds) rfl HR1.out hL9.1 ?c1 ?c2 ?c3 ?_)
      case c1 => unfold maxLen; omega
      case c2 => omega
      case c3 => omega
      refine Lib.hid ?_
      intro v2 w2 hown2' hb2
      have hown2 : w2.ownsRow base 5 1 v2 (m + L) ((xs ++ ((9 - p).toUInt8 :: ds)).map byteV) := by simpa using hown2'
      clear hown2'
      obtain ⟨A2, c2, rfl, _⟩ := RB.own hown2
      have HO := Lib.hid hown2
      have HB2 := Lib.hid ((HB1.out.mono hb).trans hb2)
      clear hown2 hb2
      go_wp2
      go_ret
      exact ⟨_, rfl, by rw [HLen.out.2, HLen.out.1, HL.out]; exact HO.out, HB2.out⟩
end Go.Proofs.Ytbhhalkpghcflaa
