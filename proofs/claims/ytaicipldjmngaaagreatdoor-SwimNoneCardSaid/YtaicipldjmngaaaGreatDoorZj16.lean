import Derived.Test.YtaicipldjmngaaaGreatDoorZj15
import Derived.Test.YtaicipldjmngaaaGreatDoorZj1
import Derived.Test.YtaicipldjmngaaaGreatDoorZj2
import Derived.ArgAppend
import Derived.Lib.AppendStr
import Derived.Lib.Hide
import Derived.Laws.EntriesVeiled
import Derived.BigQuiet
import Derived.Deep.QuietTactic
import Derived.LoopTactic
import Derived.StillTailTactics
import Derived.Outline
namespace Go.Proofs.YtaicipldjmngaaaGreatDoor
open Go.RowKit
def RBn (S : Nat → Prop) (w : World) (A : Option Addr) (n : Nat) (xs : List UInt8) : Prop := RB w A n xs ∧ ∀ b off, A = some ⟨b, off, none⟩ → 0 < n → ¬ S b
theorem RBn.but {S : Nat → Prop} {w w' : World} {A : Option Addr} {n : Nat} {xs : List UInt8} (h : RBn S w A n xs) (hb : But S w w') : RBn S w' A n xs := ⟨h.1.but hb h.2, h.2⟩
theorem RBn.drop {S : Nat → Prop} {w : World} {b off n m : Nat} {xs : List UInt8} (h : RBn S w (some ⟨b, off, none⟩) n xs) (hm : m ≤ n) : RBn S w (some ⟨b, off + m, none⟩) (n - m) (xs.drop m) :=
  ⟨rb_drop h.1 hm, fun b' off' e hn => by
    simp only [Option.some.injEq, Addr.mk.injEq] at e
    obtain ⟨rfl, _, _⟩ := e
    exact h.2 b off rfl (by omega)⟩
def RdAt (S : Nat → Prop) (w : World) (B : Nat) (s : St) : Prop :=
  S B ∧ ∃ A n c, w.heap[B]? = some (.cells #[.bool true, .slice A n c, .int .i64 (s.e : Int)] 250 (0, 0)) ∧ RBn S w A n s.b ∧ n ≤ c ∧ (A = none → c = 0) ∧ n ≤ 140737488355328
theorem RdAt.lt {S : Nat → Prop} {w : World} {B : Nat} {s : St} (h : RdAt S w B s) : B < w.heap.size := by
  obtain ⟨_, A, n, c, hh, _⟩ := h
  exact (Array.getElem?_eq_some_iff.1 hh).1
theorem RdAt.but {S S' : Nat → Prop} {w w' : World} {B : Nat} {s : St} (h : RdAt S w B s) (hb : But S' w w') (hS : ∀ k, S' k → S k) (hB : ¬ S' B) : RdAt S w' B s := by
  have hlt := h.lt
  obtain ⟨h0, A, n, c, hh, hr, hm⟩ := h
  exact ⟨h0, A, n, c, (hb.block B hlt hB).trans hh, hr.but (hb.mono hS), hm⟩
theorem RdAt.below {S : Nat → Prop} {w w' : World} {B : Nat} {s : St} (h : RdAt S w B s) (hb : Below w.heap.size w w') : RdAt S w' B s := h.but (S' := fun _ => False) (But.of_below hb) (fun _ h => h.elim) (fun h => h)
def AddD (w : World) (base : Nat) (v : Value) (m : Nat) (xs : List UInt8) : Prop :=
  w.ownsRow base 5 1 v m (xs.map byteV) ∨ ∃ B, v = .slice B m m ∧ RB w B m xs ∧ (B = none → m = 0)
theorem AddD.below {w w' : World} {base : Nat} {v : Value} {m : Nat} {xs : List UInt8} (h : AddD w base v m xs) (hb : Below w.heap.size w w') : AddD w' base v m xs := by
  rcases h with h | ⟨B, e, h, hn⟩
  · exact .inl (bown_keep h hb)
  · exact .inr ⟨B, e, h.below hb, hn⟩
def Adds (w : World) (base : Nat) (m : Nat) (xs : List UInt8) (e : Ending) (w' : World) : Prop := ∃ v, e = .returned v ∧ w'.ownsRow base 5 1 v m (xs.map byteV) ∧ Below base w w'
theorem wpList_append_addD {P : Program} {w : World} {ops : Array Oper} {rest : List Oper} {o : Oper} {a : Act} {Q : Exit → Act → World → Prop} (hgd : o.guard = none) (s x : Operand) (t : TypeId)
    (ho : o.op = .call { callee := .builtin .append, args := #[s, x], argTypes := #[t, t] })
    (base : Nat) (i : TypeInfo) (ht : P.underlying t = some (.slice 5)) (hi : P.info? 5 = some i) (hz : i.zero = some (.int .u8 0))
    (hsize : i.size = 1) (hby : i.bytes = 1)
    (v : Value) (m : Nat) (ys : List UInt8) (hs : a.eval s = v) (hv : AddD w base v m ys)
    (A : Option Addr) (n c : Nat) (xs : List UInt8) (hx : a.eval x = .slice A n c) (hR : RB w A n xs) (hn : 0 < n)
    (h63 : m + n ≤ maxLen) (hbytes : (m + n) * 1 ≤ 140737488355328) (hbase : base ≤ w.heap.size)
    (h : Hid (∀ v' w', w'.ownsRow base 5 1 v' (m + n) ((ys ++ xs).map byteV) → Below base w w' → wpList P ops Q rest (a.put o.dst v') w')) : wpList P ops Q (o :: rest) a w := by
  rcases hv with hown | ⟨B, rfl, hB, hnil⟩
  · refine wpList_append_rb hgd s x t ho base 5 i (.int .u8 0) 1 ht hi hz hsize hby rfl v m (ys.map byteV) hs hown A n c xs hx (fun e => by
      obtain ⟨_, _, e', _⟩ := hR.2 hn
      rw [e] at e'; cases e') hR h63 hbytes hbase (fun v' w' h1 h2 => h.out v' w' (by rw [List.map_append]; exact h1) ((Below.refl _ w).grown h2 hbase (fun j hj => (hown.lt j hj).1)))
  · obtain ⟨b, off, rfl, hlt, _⟩ := hR.2 hn
    refine wpList_append_grows w hgd s x t ho 5 i (.int .u8 0) 1 1 ht hi hz hsize hby rfl (by decide) B m m (ys.map byteV) hs (fun e => ⟨hnil e, hnil e⟩) (by simp [hB.1]) (fun ad e j u hu => by
        subst e
        exact hB.news j u hu) ⟨b, off, none⟩ n c (xs.map byteV) hx (by simp [hR.1]) hR.news (by
      intro u hu
      simp only [List.mem_map] at hu
      obtain ⟨y, _, rfl⟩ := hu
      rfl) (by omega) h63 hbytes (fun v' w' h1 h2 => h.out v' w' (by rw [List.map_append]; exact bown_base h1 hbase) ((Below.refl _ w).grown h2 hbase (fun j hj => by cases hj)))
end Go.Proofs.YtaicipldjmngaaaGreatDoor

namespace Go.Proofs.YtaicipldjmngaaaGreatDoor
open Go.RowKit
set_option linter.unusedSimpArgs false
theorem apart_any (A : Option Addr) (n c : Nat) (w : World) (hnc : n ≤ c) (_ : A = none → c = 0) (hm : n ≤ 140737488355328) : Calls Tryz.prog 205 #[.slice A n c] w fun e w' => e = .returned (.slice A n n) ∧ w = w' := by
  have q0 : (0 : Int) ≤ (n : Int) := by omega
  go_enter Tryz.func205, Tryz.ntmps205
  go_wp2
  go_ret
  exact ⟨rfl, rfl⟩
def Laid (cur : Array Value) (p : Nat) (ds : List UInt8) : Prop := cur.size = 9 ∧ p + ds.length = 9 ∧ cur.toList.drop p = ds.map byteV
theorem laid_put {cur : Array Value} {p : Nat} {ds : List UInt8} (h : Laid cur p ds) (hp : 0 < p) (c : UInt8) : Laid (cur.setIfInBounds (p - 1) (byteV c)) (p - 1) (c :: ds) := by
  obtain ⟨h1, h2, h3⟩ := h
  refine ⟨by simpa using h1, by simp; omega, ?_⟩
  have hl : p - 1 < cur.toList.length := by simp; omega
  rw [Array.toList_setIfInBounds, List.drop_set, if_neg (by omega), Nat.sub_self, List.drop_eq_getElem_cons hl, List.set_cons_zero, show p - 1 + 1 = p by omega, h3]
  rfl
theorem laid_zero : Laid #[.int .u8 0, .int .u8 0, .int .u8 0, .int .u8 0, .int .u8 0, .int .u8 0, .int .u8 0, .int .u8 0, .int .u8 0] 9 [] := ⟨rfl, rfl, rfl⟩
theorem laid_rb {cur : Array Value} {p : Nat} {ds : List UInt8} (h : Laid cur p ds) (w : World) (t : TypeId) : RB (w.alloc (.cells cur t)) (some ⟨w.heap.size, p, none⟩) (9 - p) ds := by
  obtain ⟨h1, h2, h3⟩ := h
  refine ⟨by omega, fun _ => ⟨_, _, rfl, by simp, fun j hj => ?_⟩⟩
  rw [cell_of_row _ w.heap.size _ _ _ _ (heap_alloc_new w _)]
  have : (cur.toList.drop p)[j]? = some (byteV ds[j]) := by rw [h3]; simp [hj]
  rw [List.getElem?_drop] at this
  simpa [byteV] using this
theorem slice9 (b p : Nat) (x : Int) (hx : x = (p : Int)) (hp : p < 9) (W : World) : (Instr.sliceAt 304 (.pointer (some ⟨b, 0, none⟩)) (some (.int .i64 x)) none none).run Tryz.prog W = .ok (.slice (some ⟨b, p, none⟩) (9 - p) (9 - p)) W := by
  subst hx
  have hal : Tryz.prog.arrayLen 304 = 9 := by kernel_rfl
  have hel : Tryz.prog.elem 304 = 5 := by kernel_rfl
  rw [run_sliceAt_array_l W 304 ⟨b, 0, none⟩ (by rw [hal, hel]; kernel_rfl) .i64 (p : Int) (by omega) (by rw [hal]; omega), hal, hel]
  have hs : (sizeOf 5).run Tryz.prog W = .ok 1 W := by kernel_rfl
  rw [hs]
  have hne : ¬ 9 = p := by omega
  simp [Result.andThen, slicedAt, hne, Addr.add]
  intro h
  omega
set_option maxHeartbeats 1000000 in
theorem num_any (v : Value) (base m : Nat) (xs : List UInt8) (N : Nat) (hN : N < 256 ^ 8) (w : World) (h : AddD w base v m xs) (hm : m + 9 ≤ 140737488355328) (hb : base ≤ w.heap.size) :
    Calls Tryz.prog 204 #[v, .int .u64 (N : Int)] w (Adds w base (m + (numB N).length) (xs ++ numB N)) := by
  obtain ⟨i0, hi, hz0, hz1, hz2⟩ := info_parts u8_info
  have HA := Lib.hid h
  have HDL := Lib.hid (digs_length 8 N hN)
  have hn64 : (N : Int) ≤ 18446744073709551615 := by omega
  clear h hN
  go_enter Tryz.func204, Tryz.ntmps204
  go_wp2
  go_loopw [1, 6] (fun nv av wr => ∃ (n p : Nat) (ds : List UInt8) (cur : Array Value), n ≤ N ∧ nv = .int .u64 (n : Int) ∧ av = .int .i64 (p : Int) ∧ p ≤ 9 ∧ Hid (digs N = digs n ++ ds) ∧ Hid (Laid cur p ds) ∧ wr = w.alloc (.cells cur 304)) (fun nv _ _ => (intOf nv).toNat)
  case atStart => exact ⟨N, 9, [], _, Nat.le_refl _, rfl, rfl, Nat.le_refl _, Lib.hid (by simp), Lib.hid laid_zero, rfl⟩
  case round =>
    obtain ⟨n, p, ds, cur, hnN, rfl, rfl, hp9, hdig, hlaid, rfl⟩ := hrel
    have hp1 : 1 ≤ p := by
      have h1 := HDL.out
      have h2 := hlaid.out.2.1
      rw [hdig.out, List.length_append] at h1
      omega
    have hlt : p - 1 < cur.size := by have := hlaid.out.1; omega
    have hx : cur[p - 1]? = some cur[p - 1] := Array.getElem?_eq_getElem hlt
    obtain ⟨x, hxx⟩ : ∃ x, cur[p - 1] = x := ⟨_, rfl⟩
    rw [hxx] at hx
    clear hxx hlt
    by_cases hn0 : 0 < n
    · have HN : Hid (digs N = digs (n / 256) ++ ((n % 256).toUInt8 :: ds)) := Lib.hid (by rw [hdig.out, digs_pos (by omega), List.append_assoc]; rfl)
      go_wp2
      go_roundw
      case rel => exact ⟨n / 256, p - 1, (n % 256).toUInt8 :: ds, cur.setIfInBounds (p - 1) (.int .u8 ((n : Int) % 256)), by omega, by go_num, by go_num, by omega, HN, Lib.hid (by
        have := laid_put hlaid.out hp1 (n % 256).toUInt8
        rw [byteV, digit_back] at this
        exact this), rfl⟩
      case measure => simp [intOf]; omega
    · obtain rfl : n = 0 := by omega
      have HD : Hid (digs N = ds) := Lib.hid (by rw [hdig.out, digs_zero, List.nil_append])
      have hz9 : IntKind.i64.wrap (9 - (p : Int)) = 9 - (p : Int) := IntWalk.i64_in _ (by omega)
      have hsl := slice9 w.heap.size (p - 1) ((p : Int) - 1) (by omega) (by omega)
      have HLP := Lib.hid (laid_put hlaid.out hp1 (9 - p).toUInt8)
      have e8 : (((9 - p).toUInt8).toNat : Int) = 9 - (p : Int) := by simp; omega
      have HE8 := Lib.hid e8
      clear e8
      obtain ⟨W1, hW1⟩ : ∃ W1, w.alloc (.cells (cur.setIfInBounds (p - 1) (.int .u8 (9 - (p : Int)))) 304) = W1 := ⟨_, rfl⟩
      have hb1 : Below w.heap.size w W1 := by rw [← hW1]; exact (Below.refl _ w).alloc (Nat.le_refl _) _
      have hr1 : RB W1 (some ⟨w.heap.size, p - 1, none⟩) (9 - (p - 1)) ((9 - p).toUInt8 :: ds) := by
        have h1 := laid_rb HLP.out w 304
        rw [byteV, HE8.out, hW1] at h1
        exact h1
      have HLen : Hid (numB N = (9 - p).toUInt8 :: ds ∧ (numB N).length = 9 - (p - 1)) := Lib.hid (by
        have h2 := hlaid.out.2.1
        rw [numB, HD.out]
        refine ⟨by rw [show ds.length = 9 - p by omega], by simp; omega⟩)
      have hA1 := HA.out.below hb1
      have HB1 := Lib.hid hb1
      have hs1 := hb1.size
      have HA1 := Lib.hid hA1
      have HR1 := Lib.hid hr1
      have HW1 := Lib.hid hW1
      clear hW1 hb1 hr1 hA1
      obtain ⟨L, hL⟩ : ∃ L, 9 - (p - 1) = L := ⟨_, rfl⟩
      rw [hL] at HR1 hsl
      have HL := Lib.hid hL
      have hL9 : 1 ≤ L ∧ L ≤ 9 := by omega
      clear hL
      go_wp2_with (at_builtin; rw [HW1.out]; refine wpList_append_addD rfl (.tmp 26) (.tmp 28) 27 rfl base i0 Tryz.underlying27 hi hz0 hz1 hz2 v m xs rfl HA1.out (some ⟨w.heap.size, p - 1, none⟩) L L ((9 - p).toUInt8 :: ds) rfl HR1.out hL9.1 ?c1 ?c2 ?c3 ?_)
      case c1 => unfold maxLen; omega
      case c2 => omega
      case c3 => omega
      refine Lib.hid ?_
      intro v2 w2 hown2' hb2
      have hown2 : w2.ownsRow base 5 1 v2 (m + L) ((xs ++ ((9 - p).toUInt8 :: ds)).map byteV) := by simpa using hown2'
      clear hown2'
      obtain ⟨A2, c2, rfl, _⟩ := RB.own hown2
      have HO := Lib.hid hown2
      have HB2 := Lib.hid ((HB1.out.mono hb).trans hb2)
      clear hown2 hb2
      go_wp2
      go_ret
      exact ⟨_, rfl, by rw [HLen.out.2, HLen.out.1, HL.out]; exact HO.out, HB2.out⟩
end Go.Proofs.YtaicipldjmngaaaGreatDoor

namespace Go.Proofs.YtaicipldjmngaaaGreatDoor
open Go.RowKit
set_option linter.unusedSimpArgs false
end Go.Proofs.YtaicipldjmngaaaGreatDoor

namespace Go.Proofs.YtaicipldjmngaaaGreatDoor
open Go.RowKit
set_option linter.unusedSimpArgs false
end Go.Proofs.YtaicipldjmngaaaGreatDoor

namespace Go.Proofs.YtaicipldjmngaaaGreatDoor
open Go.RowKit
set_option linter.unusedSimpArgs false
end Go.Proofs.YtaicipldjmngaaaGreatDoor

namespace Go.Proofs.YtaicipldjmngaaaGreatDoor
open Go.RowKit
set_option linter.unusedSimpArgs false
theorem RdAt.cells {w : World} {B : Nat} {A : Option Addr} {n c : Nat} {e : Int} (h : w.heap[B]? = some (.cells #[.bool true, .slice A n c, .int .i64 e] 250 (0, 0))) :
    w.cell? ⟨B, 0, none⟩ = some (.bool true) ∧ w.cell? ⟨B, 1, none⟩ = some (.slice A n c) ∧ w.cell? ⟨B, 2, none⟩ = some (.int .i64 e) ∧ w.frozen? ⟨B, 1, none⟩ = false ∧ w.frozen? ⟨B, 2, none⟩ = false := by
  refine ⟨by rw [cell_of_row _ B 0 _ _ _ h]; rfl, by rw [cell_of_row _ B 1 _ _ _ h]; rfl, by rw [cell_of_row _ B 2 _ _ _ h]; rfl, ?_, ?_⟩ <;> simp [World.frozen?, h]
def Reads (S : Nat → Prop) (B : Nat) (w : World) (v : Value) (s : St) (e : Ending) (w' : World) : Prop := e = .returned v ∧ RdAt S w' B s ∧ But (fun k => k = B) w w'
end Go.Proofs.YtaicipldjmngaaaGreatDoor

namespace Go.Proofs.YtaicipldjmngaaaGreatDoor
open Go.RowKit
set_option linter.unusedSimpArgs false
theorem RdAt.kept {S : Nat → Prop} {w w' : World} {B : Nat} {s : St} (h : RdAt S w B s) (hb : Below w.heap.size w w') : RdAt S w' B s := h.below hb
theorem Reads.from {S : Nat → Prop} {B : Nat} {w w0 w' : World} {v : Value} {s : St} {e : Ending} (h : Reads S B w v s e w') (hb : Below w0.heap.size w0 w) : Reads S B w0 v s e w' := ⟨h.1, h.2.1, (But.of_below hb).trans h.2.2⟩
def doneS (s : St) : Nat := if s.e = 0 ∧ 0 < s.b.length then 41 else s.e
end Go.Proofs.YtaicipldjmngaaaGreatDoor
