/-
  Layer 4's memory: what a call changes (But), rows of one-cell values, readers' blocks, and what may be appended to.
-/
import Derived.Test.YtjbemjnofnifaaaZj1
import Derived.Test.YtjbemjnofnifaaaZj3
import Derived.Test.YtjbemjnofnifaaaZj2
import Derived.Test.YtjbemjnofnifaaaZj4
import Derived.ArgAppend
import Derived.Lib.AppendStr
import Derived.Lib.Hide
import Derived.Laws.EntriesVeiled
import Derived.BigQuiet
import Derived.Deep.QuietTactic
import Derived.LoopTactic
import Derived.StillTailTactics
import Derived.Outline
namespace Go.Proofs.Ytjbemjnofnifaaa
open Go.RowKit



/-! ### Rows of one-cell values -/
theorem RV.ownD {w : World} {base : Nat} {e : TypeId} {v : Value} {n : Nat} {xs : List Value} (h : w.ownsRow base e 1 v n xs) : ∃ A c, v = .slice A n c ∧ RV w A n xs ∧ (A = none → c = 0) ∧ n ≤ c ∧ c ≤ maxLen := by
  have hl : xs.length = n := by simpa using h.1
  rcases h.2 with ⟨rfl, rfl⟩ | ⟨g, cap, cur, rfl, _, hh, hnc, hm, hsz, ht⟩
  · exact ⟨none, 0, rfl, ⟨hl, fun h => absurd h (by omega)⟩, fun _ => rfl, Nat.le_refl _, Nat.zero_le _⟩
  · refine ⟨some ⟨g, 0, none⟩, cap, rfl, ⟨hl, fun _ => ⟨g, 0, rfl, (Array.getElem?_eq_some_iff.1 hh).1, fun j hj => ?_⟩⟩, (fun e => by cases e), hnc, hm⟩
    rw [Nat.zero_add, cell_of_row w g j cur e (0, 0) hh]
    have h1 : (cur.toList.take (n * 1))[j]? = some xs[j] := by rw [ht]; simp [hj]
    rw [List.getElem?_take, if_pos (by omega)] at h1
    simpa using h1
def strV (s : List UInt8) : Value := .string ⟨s.toArray⟩
def u64V (n : Nat) : Value := .int .u64 (n : Int)

/-! ### Bytes -/
/-- A slice of bytes that lies outside S. -/
def RBn (S : Nat → Prop) (w : World) (A : Option Addr) (n : Nat) (xs : List UInt8) : Prop := RB w A n xs ∧ ∀ b off, A = some ⟨b, off, none⟩ → 0 < n → ¬ S b
theorem RBn.but {S : Nat → Prop} {w w' : World} {A : Option Addr} {n : Nat} {xs : List UInt8} (h : RBn S w A n xs) (hb : But S w w') : RBn S w' A n xs := ⟨h.1.but hb h.2, h.2⟩
theorem RBn.drop {S : Nat → Prop} {w : World} {b off n m : Nat} {xs : List UInt8} (h : RBn S w (some ⟨b, off, none⟩) n xs) (hm : m ≤ n) : RBn S w (some ⟨b, off + m, none⟩) (n - m) (xs.drop m) :=
  ⟨rb_drop h.1 hm, fun b' off' e hn => by
    simp only [Option.some.injEq, Addr.mk.injEq] at e
    obtain ⟨rfl, _, _⟩ := e
    exact h.2 b off rfl (by omega)⟩

/-! ### Readers -/
/-- The program's reader at block B. -/
def RdAt (S : Nat → Prop) (w : World) (B : Nat) (s : St) : Prop :=
  S B ∧ ∃ A n c, w.heap[B]? = some (.cells #[.bool true, .slice A n c, .int .i64 (s.e : Int)] 94 (0, 0)) ∧ RBn S w A n s.b ∧ n ≤ c ∧ (A = none → c = 0) ∧ n ≤ 140737488355328
theorem RdAt.lt {S : Nat → Prop} {w : World} {B : Nat} {s : St} (h : RdAt S w B s) : B < w.heap.size := by
  obtain ⟨_, A, n, c, hh, _⟩ := h
  exact (Array.getElem?_eq_some_iff.1 hh).1
/-- Other readers' writes leave it. -/
theorem RdAt.but {S S' : Nat → Prop} {w w' : World} {B : Nat} {s : St} (h : RdAt S w B s) (hb : But S' w w') (hS : ∀ k, S' k → S k) (hB : ¬ S' B) : RdAt S w' B s := by
  have hlt := h.lt
  obtain ⟨h0, A, n, c, hh, hr, hm⟩ := h
  exact ⟨h0, A, n, c, (hb.block B hlt hB).trans hh, hr.but (hb.mono hS), hm⟩
theorem RdAt.below {S : Nat → Prop} {w w' : World} {B : Nat} {s : St} (h : RdAt S w B s) (hb : Below w.heap.size w w') : RdAt S w' B s := h.but (S' := fun _ => False) (But.of_below hb) (fun _ h => h.elim) (fun h => h)

/-! ### What may be appended to -/
def AddD (w : World) (base : Nat) (v : Value) (m : Nat) (xs : List UInt8) : Prop :=
  w.ownsRow base 5 1 v m (xs.map byteV) ∨ ∃ B, v = .slice B m m ∧ RB w B m xs ∧ (B = none → m = 0)
theorem AddD.below {w w' : World} {base : Nat} {v : Value} {m : Nat} {xs : List UInt8} (h : AddD w base v m xs) (hb : Below w.heap.size w w') : AddD w' base v m xs := by
  rcases h with h | ⟨B, e, h, hn⟩
  · exact .inl (bown_keep h hb)
  · exact .inr ⟨B, e, h.below hb, hn⟩
/-- A row of the call's own: what was there below the base is as it was. -/
def Adds (w : World) (base : Nat) (m : Nat) (xs : List UInt8) (e : Ending) (w' : World) : Prop := ∃ v, e = .returned v ∧ w'.ownsRow base 5 1 v m (xs.map byteV) ∧ Below base w w'
theorem wpList_append_addD {P : Program} {w : World} {ops : Array Oper} {rest : List Oper} {o : Oper} {a : Act} {Q : Exit → Act → World → Prop} (hgd : o.guard = none) (s x : Operand) (t : TypeId)
    (ho : o.op = .call { callee := .builtin .append, args := #[s, x], argTypes := #[t, t] })
    (base : Nat) (i : TypeInfo) (ht : P.underlying t = some (.slice 5)) (hi : P.info? 5 = some i) (hz : i.zero = some (.int .u8 0))
    (hsize : i.size = 1) (hby : i.bytes = 1)
    (v : Value) (m : Nat) (ys : List UInt8) (hs : a.eval s = v) (hv : AddD w base v m ys)
    (A : Option Addr) (n c : Nat) (xs : List UInt8) (hx : a.eval x = .slice A n c) (hR : RB w A n xs) (hn : 0 < n)
    (h63 : m + n ≤ maxLen) (hbytes : (m + n) * 1 ≤ 140737488355328) (hbase : base ≤ w.heap.size)
    (h : Hid (∀ v' w', w'.ownsRow base 5 1 v' (m + n) ((ys ++ xs).map byteV) → Below base w w' → wpList P ops Q rest (a.put o.dst v') w')) : wpList P ops Q (o :: rest) a w := by
  rcases hv with hown | ⟨B, rfl, hB, hnil⟩
  · refine wpList_append_rb hgd s x t ho base 5 i (.int .u8 0) 1 ht hi hz hsize hby rfl v m (ys.map byteV) hs hown A n c xs hx (fun e => by
      obtain ⟨_, _, e', _⟩ := hR.2 hn
      rw [e] at e'; cases e') hR h63 hbytes hbase (fun v' w' h1 h2 => h.out v' w' (by rw [List.map_append]; exact h1) ((Below.refl _ w).grown h2 hbase (fun j hj => (hown.lt j hj).1)))
  · obtain ⟨b, off, rfl, hlt, _⟩ := hR.2 hn
    refine wpList_append_grows w hgd s x t ho 5 i (.int .u8 0) 1 1 ht hi hz hsize hby rfl (by decide) B m m (ys.map byteV) hs (fun e => ⟨hnil e, hnil e⟩) (by simp [hB.1]) (fun ad e j u hu => by
        subst e
        exact hB.news j u hu) ⟨b, off, none⟩ n c (xs.map byteV) hx (by simp [hR.1]) hR.news (by
      intro u hu
      simp only [List.mem_map] at hu
      obtain ⟨y, _, rfl⟩ := hu
      rfl) (by omega) h63 hbytes (fun v' w' h1 h2 => h.out v' w' (by rw [List.map_append]; exact bown_base h1 hbase) ((Below.refl _ w).grown h2 hbase (fun j hj => by cases hj)))
theorem wpList_append_str {P : Program} {w : World} {ops : Array Oper} {rest : List Oper} {o : Oper} {a : Act} {Q : Exit → Act → World → Prop} (hgd : o.guard = none) (s x : Operand) (t u : TypeId)
    (ho : o.op = .call { callee := .builtin .append, args := #[s, x], argTypes := #[t, u] })
    (base : Nat) (i : TypeInfo) (ht : P.underlying t = some (.slice 5)) (hu : P.underlying u = some .string) (hi : P.info? 5 = some i) (hz : i.zero = some (.int .u8 0))
    (hsize : i.size = 1) (hby : i.bytes = 1)
    (v : Value) (m : Nat) (ys : List UInt8) (hs : a.eval s = v) (hown : w.ownsRow base 5 1 v m (ys.map byteV))
    (xs : List UInt8) (hx : a.eval x = .string ⟨xs.toArray⟩)
    (h63 : m + xs.length ≤ maxLen) (hbytes : m + xs.length ≤ 140737488355328) (hbase : base ≤ w.heap.size)
    (h : Hid (∀ v' w', w'.ownsRow base 5 1 v' (m + xs.length) ((ys ++ xs).map byteV) → Below base w w' → wpList P ops Q rest (a.put o.dst v') w')) : wpList P ops Q (o :: rest) a w := by
  have hsz : (⟨xs.toArray⟩ : ByteArray).size = xs.length := by simp [ByteArray.size]
  have hst : Lib.strCells ⟨xs.toArray⟩ = xs.map byteV := by simp [Lib.strCells, byteV]
  refine Lib.wpList_append_own_string w hgd s x t u ho base 5 i ht hu hi hz hsize hby v m (ys.map byteV) hs hown ⟨xs.toArray⟩ hx (by rw [hsz]; exact h63) (by rw [hsz]; exact hbytes) hbase (fun v' w' h1 h2 _ => h.out v' w' ?_ ((Below.refl _ w).grown h2 hbase (fun j hj => (hown.lt j hj).1)))
  rw [List.map_append, ← hst, ← hsz]
  exact h1
theorem u8_info' : (Try.prog.info? 5).map (fun i => (i.zero, i.size, i.bytes)) = some (some (.int .u8 0), 1, 1) := u8_info
theorem str_info : (Try.prog.info? 9).map (fun i => (i.zero, i.size, i.bytes)) = some (some (.string ⟨#[]⟩), 1, 16) := by kernel_rfl
theorem u64_info : (Try.prog.info? 68).map (fun i => (i.zero, i.size, i.bytes)) = some (some (.int .u64 0), 1, 8) := by kernel_rfl
end Go.Proofs.Ytjbemjnofnifaaa

/-
  num and apart, walked (layer 4).
-/
namespace Go.Proofs.Ytjbemjnofnifaaa
open Go.RowKit
set_option linter.unusedSimpArgs false

theorem apart_any (A : Option Addr) (n c : Nat) (w : World) (hnc : n ≤ c) (_ : A = none → c = 0) (hm : n ≤ 140737488355328) : Calls Try.prog 66 #[.slice A n c] w fun e w' => e = .returned (.slice A n n) ∧ w = w' := by
  have q0 : (0 : Int) ≤ (n : Int) := by omega
  go_enter Try.func66, Try.ntmps66
  go_wp2
  go_ret
  exact ⟨rfl, rfl⟩

/-- The array of num: its end from p on holds digits. -/
def Laid (cur : Array Value) (p : Nat) (ds : List UInt8) : Prop := cur.size = 9 ∧ p + ds.length = 9 ∧ cur.toList.drop p = ds.map byteV
theorem laid_put {cur : Array Value} {p : Nat} {ds : List UInt8} (h : Laid cur p ds) (hp : 0 < p) (c : UInt8) : Laid (cur.setIfInBounds (p - 1) (byteV c)) (p - 1) (c :: ds) := by
  obtain ⟨h1, h2, h3⟩ := h
  refine ⟨by simpa using h1, by simp; omega, ?_⟩
  have hl : p - 1 < cur.toList.length := by simp; omega
  rw [Array.toList_setIfInBounds, List.drop_set, if_neg (by omega), Nat.sub_self, List.drop_eq_getElem_cons hl, List.set_cons_zero, show p - 1 + 1 = p by omega, h3]
  rfl
theorem laid_zero : Laid #[.int .u8 0, .int .u8 0, .int .u8 0, .int .u8 0, .int .u8 0, .int .u8 0, .int .u8 0, .int .u8 0, .int .u8 0] 9 [] := ⟨rfl, rfl, rfl⟩
theorem laid_rb {cur : Array Value} {p : Nat} {ds : List UInt8} (h : Laid cur p ds) (w : World) (t : TypeId) : RB (w.alloc (.cells cur t)) (some ⟨w.heap.size, p, none⟩) (9 - p) ds := by
  obtain ⟨h1, h2, h3⟩ := h
  refine ⟨by omega, fun _ => ⟨_, _, rfl, by simp, fun j hj => ?_⟩⟩
  rw [cell_of_row _ w.heap.size _ _ _ _ (heap_alloc_new w _)]
  have : (cur.toList.drop p)[j]? = some (byteV ds[j]) := by rw [h3]; simp [hj]
  rw [List.getElem?_drop] at this
  simpa [byteV] using this
theorem slice9 (b p : Nat) (x : Int) (hx : x = (p : Int)) (hp : p < 9) (W : World) : (Instr.sliceAt 132 (.pointer (some ⟨b, 0, none⟩)) (some (.int .i64 x)) none none).run Try.prog W = .ok (.slice (some ⟨b, p, none⟩) (9 - p) (9 - p)) W := by
  subst hx
  have hal : Try.prog.arrayLen 132 = 9 := by kernel_rfl
  have hel : Try.prog.elem 132 = 5 := by kernel_rfl
  rw [run_sliceAt_array_l W 132 ⟨b, 0, none⟩ (by rw [hal, hel]; kernel_rfl) .i64 (p : Int) (by omega) (by rw [hal]; omega), hal, hel]
  have hs : (sizeOf 5).run Try.prog W = .ok 1 W := by kernel_rfl
  rw [hs]
  have hne : ¬ 9 = p := by omega
  simp [Result.andThen, slicedAt, hne, Addr.add]
  intro h
  omega
set_option maxHeartbeats 1000000 in
theorem num_any (v : Value) (base m : Nat) (xs : List UInt8) (N : Nat) (hN : N < 256 ^ 8) (w : World) (h : AddD w base v m xs) (hm : m + 9 ≤ 140737488355328) (hb : base ≤ w.heap.size) :
    Calls Try.prog 65 #[v, .int .u64 (N : Int)] w (Adds w base (m + (numB N).length) (xs ++ numB N)) := by
  obtain ⟨i0, hi, hz0, hz1, hz2⟩ := info_parts u8_info
  have HA := Lib.hid h
  have HDL := Lib.hid (digs_length 8 N hN)
  have hn64 : (N : Int) ≤ 18446744073709551615 := by omega
  clear h hN
  go_enter Try.func65, Try.ntmps65
  go_wp2
  go_loopw [1, 6] (fun nv av wr => ∃ (n p : Nat) (ds : List UInt8) (cur : Array Value), n ≤ N ∧ nv = .int .u64 (n : Int) ∧ av = .int .i64 (p : Int) ∧ p ≤ 9 ∧ Hid (digs N = digs n ++ ds) ∧ Hid (Laid cur p ds) ∧ wr = w.alloc (.cells cur 132)) (fun nv _ _ => (intOf nv).toNat)
  case atStart => exact ⟨N, 9, [], _, Nat.le_refl _, rfl, rfl, Nat.le_refl _, Lib.hid (by simp), Lib.hid laid_zero, rfl⟩
  case round =>
    obtain ⟨n, p, ds, cur, hnN, rfl, rfl, hp9, hdig, hlaid, rfl⟩ := hrel
    have hp1 : 1 ≤ p := by
      have h1 := HDL.out
      have h2 := hlaid.out.2.1
      rw [hdig.out, List.length_append] at h1
      omega
    have hlt : p - 1 < cur.size := by have := hlaid.out.1; omega
    have hx : cur[p - 1]? = some cur[p - 1] := Array.getElem?_eq_getElem hlt
    obtain ⟨x, hxx⟩ : ∃ x, cur[p - 1] = x := ⟨_, rfl⟩
    rw [hxx] at hx
    clear hxx hlt
    by_cases hn0 : 0 < n
    · have HN : Hid (digs N = digs (n / 256) ++ ((n % 256).toUInt8 :: ds)) := Lib.hid (by rw [hdig.out, digs_pos (by omega), List.append_assoc]; rfl)
      go_wp2
      go_roundw
      case rel => exact ⟨n / 256, p - 1, (n % 256).toUInt8 :: ds, cur.setIfInBounds (p - 1) (.int .u8 ((n : Int) % 256)), by omega, by go_num, by go_num, by omega, HN, Lib.hid (by
        have := laid_put hlaid.out hp1 (n % 256).toUInt8
        rw [byteV, digit_back] at this
        exact this), rfl⟩
      case measure => simp [intOf]; omega
    · obtain rfl : n = 0 := by omega
      have HD : Hid (digs N = ds) := Lib.hid (by rw [hdig.out, digs_zero, List.nil_append])
      have hz9 : IntKind.i64.wrap (9 - (p : Int)) = 9 - (p : Int) := IntWalk.i64_in _ (by omega)
      have hsl := slice9 w.heap.size (p - 1) ((p : Int) - 1) (by omega) (by omega)
      have HLP := Lib.hid (laid_put hlaid.out hp1 (9 - p).toUInt8)
      have e8 : (((9 - p).toUInt8).toNat : Int) = 9 - (p : Int) := by simp; omega
      have HE8 := Lib.hid e8
      clear e8
      obtain ⟨W1, hW1⟩ : ∃ W1, w.alloc (.cells (cur.setIfInBounds (p - 1) (.int .u8 (9 - (p : Int)))) 132) = W1 := ⟨_, rfl⟩
      have hb1 : Below w.heap.size w W1 := by rw [← hW1]; exact (Below.refl _ w).alloc (Nat.le_refl _) _
      have hr1 : RB W1 (some ⟨w.heap.size, p - 1, none⟩) (9 - (p - 1)) ((9 - p).toUInt8 :: ds) := by
        have h1 := laid_rb HLP.out w 132
        rw [byteV, HE8.out, hW1] at h1
        exact h1
      have HLen : Hid (numB N = (9 - p).toUInt8 :: ds ∧ (numB N).length = 9 - (p - 1)) := Lib.hid (by
        have h2 := hlaid.out.2.1
        rw [numB, HD.out]
        refine ⟨by rw [show ds.length = 9 - p by omega], by simp; omega⟩)
      have hA1 := HA.out.below hb1
      have HB1 := Lib.hid hb1
      have hs1 := hb1.size
      have HA1 := Lib.hid hA1
      have HR1 := Lib.hid hr1
      have HW1 := Lib.hid hW1
      clear hW1 hb1 hr1 hA1
      obtain ⟨L, hL⟩ : ∃ L, 9 - (p - 1) = L := ⟨_, rfl⟩
      rw [hL] at HR1 hsl
      have HL := Lib.hid hL
      have hL9 : 1 ≤ L ∧ L ≤ 9 := by omega
      clear hL
      go_wp2_with (at_builtin; rw [HW1.out]; refine wpList_append_addD rfl (.tmp 26) (.tmp 28) 26 rfl base i0 Try.underlying26 hi hz0 hz1 hz2 v m xs rfl HA1.out (some ⟨w.heap.size, p - 1, none⟩) L L ((9 - p).toUInt8 :: ds) rfl HR1.out hL9.1 ?c1 ?c2 ?c3 ?_)
      case c1 => unfold maxLen; omega
      case c2 => omega
      case c3 => omega
      refine Lib.hid ?_
      intro v2 w2 hown2' hb2
      have hown2 : w2.ownsRow base 5 1 v2 (m + L) ((xs ++ ((9 - p).toUInt8 :: ds)).map byteV) := by simpa using hown2'
      clear hown2'
      obtain ⟨A2, c2, rfl, _⟩ := RB.own hown2
      have HO := Lib.hid hown2
      have HB2 := Lib.hid ((HB1.out.mono hb).trans hb2)
      clear hown2 hb2
      go_wp2
      go_ret
      exact ⟨_, rfl, by rw [HLen.out.2, HLen.out.1, HL.out]; exact HO.out, HB2.out⟩
end Go.Proofs.Ytjbemjnofnifaaa

/-
  bound and firstNum, walked (layer 4).
-/
namespace Go.Proofs.Ytjbemjnofnifaaa
open Go.RowKit
set_option linter.unusedSimpArgs false

/-- What firstNum answers. -/
def fnAns (v sz e : Nat) : Ending := .returned (.tuple #[.int .u64 (v : Int), .int .i64 (sz : Int), .int .i64 (e : Int)])
theorem fn_empty (A : Option Addr) (c most : Nat) (w : World) : Calls Try.prog 84 #[.slice A 0 c, .int .u64 (most : Int)] w fun e w' => e = fnAns 0 0 30 ∧ w = w' := by
  go_enter Try.func84, Try.ntmps84
  go_wp2
  go_ret3
  exact ⟨rfl, rfl⟩
theorem fn_wide (b off n c many most : Nat) (w : World) (hn : 0 < n) (hn' : n ≤ 140737488355328) (h0 : w.cell? ⟨b, off, none⟩ = some (.int .u8 (many : Int))) (h8 : 8 < many) (h9 : many ≤ 255) :
    Calls Try.prog 84 #[.slice (some ⟨b, off, none⟩) n c, .int .u64 (most : Int)] w fun e w' => e = fnAns 0 0 40 ∧ w = w' := by
  have q1 : ((n : Int) == 0) = false := by rw [beq_eq_false_iff_ne]; omega
  have q2 : (0 : Int) < (n : Int) := by omega
  have q3 : decide ((8 : Int) < (many : Int)) = true := by simp; omega
  go_enter Try.func84, Try.ntmps84
  go_wp2
  go_ret3
  exact ⟨rfl, rfl⟩
theorem fn_zero (b off n c many most : Nat) (w : World) (hn : 1 < n) (hn' : n ≤ 140737488355328) (h0 : w.cell? ⟨b, off, none⟩ = some (.int .u8 (many : Int))) (h1 : w.cell? ⟨b, off + 1, none⟩ = some (.int .u8 0)) (h8 : many ≤ 8) (h9 : 0 < many) :
    Calls Try.prog 84 #[.slice (some ⟨b, off, none⟩) n c, .int .u64 (most : Int)] w fun e w' => e = fnAns 0 0 40 ∧ w = w' := by
  have q1 : ((n : Int) == 0) = false := by rw [beq_eq_false_iff_ne]; omega
  have q2 : (0 : Int) < (n : Int) := by omega
  have q4 : (1 : Int) < (n : Int) := by omega
  have q3 : ¬ (8 : Int) < (many : Int) := by omega
  have q5 : (0 : Int) < (many : Int) := by omega
  go_enter Try.func84, Try.ntmps84
  go_wp2
  go_ret3
  exact ⟨rfl, rfl⟩
theorem fn_short (b off n c many most : Nat) (w : World) (hn : 0 < n) (hn' : n ≤ 140737488355328) (h0 : w.cell? ⟨b, off, none⟩ = some (.int .u8 (many : Int))) (x : Nat) (h1 : 1 < n → w.cell? ⟨b, off + 1, none⟩ = some (.int .u8 (x : Int))) (hx : x ≠ 0) (h8 : many ≤ 8) (h9 : n < 1 + many) :
    Calls Try.prog 84 #[.slice (some ⟨b, off, none⟩) n c, .int .u64 (most : Int)] w fun e w' => e = fnAns 0 0 30 ∧ w = w' := by
  have q1 : ((n : Int) == 0) = false := by rw [beq_eq_false_iff_ne]; omega
  have q2 : (0 : Int) < (n : Int) := by omega
  have q3 : ¬ (8 : Int) < (many : Int) := by omega
  have q5 : (0 : Int) < (many : Int) := by omega
  have q6 : ((x : Int) == 0) = false := by rw [beq_eq_false_iff_ne]; omega
  have q7 : (n : Int) < 1 + (many : Int) := by omega
  clear hx
  by_cases h : 1 < n
  · have h1' := h1 h
    have q4 : (1 : Int) < (n : Int) := by omega
    clear h1
    go_enter Try.func84, Try.ntmps84
    go_wp2
    go_ret3
    exact ⟨rfl, rfl⟩
  · obtain rfl : n = 1 := by omega
    clear h1
    go_enter Try.func84, Try.ntmps84
    go_wp2
    go_ret3
    exact ⟨rfl, rfl⟩
end Go.Proofs.Ytjbemjnofnifaaa
