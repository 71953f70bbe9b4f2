/-
  lay and Put, walked (layer 3).
-/
import Derived.Test.YtjbemjnofnifaaaZj28
import Derived.ArgAppend
import Derived.Test.YtjbemjnofnifaaaZj4
namespace Go.Proofs.Ytjbemjnofnifaaa
open Go.RowKit
set_option linter.unusedSimpArgs false

/-- Sum of one piece, as a call's own block holds it. -/
theorem sum_piece (A : Option Addr) (n c : Nat) (xs : List UInt8) (w : World) (h : RB w A n xs) (hn : n ≤ maxLen) :
    Calls Try.prog 74 #[.slice (some ⟨w.heap.size, 0, none⟩) 1 1] (w.alloc (.cells #[.slice A n c] 26)) fun e w' => e = .returned (.int .u32 ((crc xs).toNat : Int)) ∧ Below w.heap.size w w' := by
  have := con_held.sum (some ⟨w.heap.size, 0, none⟩) 1 1 [xs] (w.alloc (.cells #[.slice A n c] 26)) (Pieces.one h hn _) rfl (by omega)
  rw [show [xs].flatten = xs by simp] at this
  exact this.mono fun e w' ⟨he, hb⟩ => ⟨he, ((Below.refl _ w).alloc (Nat.le_refl _) _).trans (hb.mono (by simp))⟩
/-- What may be appended to: a row of the call's own, or a slice that has no room. -/
def Addable (w : World) (base L : Nat) (v : Value) (m : Nat) (xs : List UInt8) : Prop :=
  (w.ownsRow base 5 1 v m (xs.map byteV) ∧ ∀ j, v.ownBlock = some j → j < L) ∨ ∃ B, v = .slice B m m ∧ RB w B m xs ∧ (B = none → m = 0)

theorem wpList_append_add {P : Program} {w : World} {ops : Array Oper} {rest : List Oper} {o : Oper} {a : Act} {Q : Exit → Act → World → Prop} (hgd : o.guard = none) (s x : Operand) (t : TypeId)
    (ho : o.op = .call { callee := .builtin .append, args := #[s, x], argTypes := #[t, t] })
    (base : Nat) (i : TypeInfo) (ht : P.underlying t = some (.slice 5)) (hi : P.info? 5 = some i) (hz : i.zero = some (.int .u8 0))
    (hsize : i.size = 1) (hby : i.bytes = 1)
    (v : Value) (m : Nat) (ys : List UInt8) (hs : a.eval s = v) (L : Nat) (hv : Addable w base L v m ys)
    (A : Option Addr) (n c : Nat) (xs : List UInt8) (hx : a.eval x = .slice A n c) (hR : RB w A n xs) (hn : 0 < n)
    (h63 : m + n ≤ maxLen) (hbytes : (m + n) * 1 ≤ 140737488355328) (hbase : base ≤ w.heap.size)
    (h : Hid (∀ v' w', w'.ownsRow base 5 1 v' (m + n) ((ys ++ xs).map byteV) → (∀ B0, B0 ≤ base → Below B0 w w') → (∀ p : Addr, L ≤ p.block → p.block < w.heap.size → w'.cell? p = w.cell? p) → wpList P ops Q rest (a.put o.dst v') w')) : wpList P ops Q (o :: rest) a w := by
  rcases hv with ⟨hown, hL⟩ | ⟨B, rfl, hB, hnil⟩
  · refine wpList_append_rb hgd s x t ho base 5 i (.int .u8 0) 1 ht hi hz hsize hby rfl v m (ys.map byteV) hs hown A n c xs hx (fun e => by
      obtain ⟨_, _, e', _⟩ := hR.2 hn
      rw [e] at e'; cases e') hR h63 hbytes hbase (fun v' w' h1 h2 => h.out v' w' (by rw [List.map_append]; exact h1) (fun B0 hB0 => (Below.refl _ w).grown h2 (by omega) (fun j hj => Nat.le_trans hB0 (hown.lt j hj).1)) (fun p hp hpl => World.cell?_of_block (h2.block p.block hpl (fun e => by have := hL _ e.symm; omega))))
  · obtain ⟨b, off, rfl, hlt, _⟩ := hR.2 hn
    refine wpList_append_grows w hgd s x t ho 5 i (.int .u8 0) 1 1 ht hi hz hsize hby rfl (by decide) B m m (ys.map byteV) hs (fun e => ⟨hnil e, hnil e⟩) (by simp [hB.1]) (fun ad e j u hu => by
        subst e
        exact hB.news j u hu) ⟨b, off, none⟩ n c (xs.map byteV) hx (by simp [hR.1]) hR.news (by
      intro u hu
      simp only [List.mem_map] at hu
      obtain ⟨y, _, rfl⟩ := hu
      rfl) (by omega) h63 hbytes (fun v' w' h1 h2 => h.out v' w' (by rw [List.map_append]; exact bown_base h1 hbase) (fun B0 hB0 => (Below.refl _ w).grown h2 (by omega) (fun j hj => by cases hj)) (fun p hp hpl => World.cell?_of_block (h2.block p.block hpl (fun e => by cases e))))

theorem Addable.below {w w' : World} {base L : Nat} {v : Value} {m : Nat} {xs : List UInt8} (h : Addable w base L v m xs) (hb : Below w.heap.size w w') : Addable w' base L v m xs := by
  rcases h with ⟨h, hL⟩ | ⟨B, e, h, hn⟩
  · exact .inl ⟨bown_keep h hb, hL⟩
  · exact .inr ⟨B, e, h.below hb, hn⟩
theorem rb_three (w : World) (x y z : UInt8) (a b c : Int) (t : TypeId) (ha : a = (x.toNat : Int)) (hb : b = (y.toNat : Int)) (hc : c = (z.toNat : Int)) : RB (w.alloc (.cells #[.int .u8 a, .int .u8 b, .int .u8 c] t)) (some ⟨w.heap.size, 0, none⟩) 3 [x, y, z] := by
  subst ha hb hc
  refine ⟨rfl, fun _ => ⟨_, _, rfl, by simp, fun j hj => ?_⟩⟩
  rw [cell_of_row _ w.heap.size _ _ _ (0, 0) (heap_alloc_new w _)]
  have hj3 : j < 3 := hj
  match j, hj3 with
  | 0, _ | 1, _ | 2, _ => rfl
theorem head_vals {n : Nat} (h : n ≤ 1000) : (n : Int) / 256 = (((n / 256).toUInt8).toNat : Int) ∧ (n : Int) % 256 = (((n % 256).toUInt8).toNat : Int) := by
  rw [toU8 (by omega), toU8 (by omega)]
  omega
def head3 (f : Fr) : List UInt8 := [f.k, (f.b.length / 256).toUInt8, (f.b.length % 256).toUInt8]
theorem head3_app (f : Fr) : head3 f ++ f.b = headF f := rfl

set_option maxHeartbeats 1000000 in
theorem lay_any (w0 w : World) (base m d : Nat) (B : Option Addr) (xs : List UInt8) (hv : Addable w base w.heap.size (.slice B m d) m xs) (hb : Below w0.heap.size w0 w) (h1 : w0.heap.size ≤ base) (h2 : base ≤ w.heap.size)
    (f : Fr) (A : Option Addr) (c : Nat) (hf : BodyAt w0 A c f.b) (hfl : f.b.length ≤ 1000) (hm : m + 1007 ≤ 140737488355328) :
    Calls Try.prog 59 #[.slice B m d, frV f A c] w fun e w' => ∃ v', e = .returned v' ∧ w'.ownsRow base 5 1 v' (m + (f.b.length + 7)) ((xs ++ encF f).map byteV) ∧ Below w0.heap.size w0 w' := by
  obtain ⟨i0, hi, hz0, hz1, hz2⟩ := info_parts u8_info
  obtain ⟨r1, r2, r3, r4⟩ := hf
  obtain ⟨n, hn⟩ : ∃ n, f.b.length = n := ⟨_, rfl⟩
  unfold frV
  rw [hn] at r1 r2 hfl ⊢
  have HV := Lib.hid hv
  have HB := Lib.hid hb
  have HR := Lib.hid r1
  have HN := Lib.hid hn
  have HNil := Lib.hid r3
  clear hv hb r1 r3 r4 hn
  go_enter Try.func59, Try.ntmps59
  go_wp2
  go_quiet (fail)
  obtain ⟨W1, hW1⟩ : ∃ W1, (w.alloc (.cells #[.int .u8 (f.k.toNat : Int), .slice A n c] 28)).drewN nq = W1 := ⟨_, rfl⟩
  have hbw1 : Below w.heap.size w W1 := by rw [← hW1]; exact below_drewN ((Below.refl _ w).alloc (Nat.le_refl _) _) nq
  have hsz1 : W1.heap.size = w.heap.size + 1 := by rw [← hW1]; simp [World.drewN]
  obtain ⟨W2, hW2⟩ : ∃ W2, W1.alloc (.cells #[.int .u8 (f.k.toNat : Int), .int .u8 ((n : Int) / 256), .int .u8 ((n : Int) % 256)] 5) = W2 := ⟨_, rfl⟩
  have hbw2 : Below w.heap.size w W2 := by rw [← hW2]; exact hbw1.alloc (by omega) _
  have hR3 : RB W2 (some ⟨w.heap.size + 1, 0, none⟩) 3 (head3 f) := by
    have := rb_three W1 f.k (f.b.length / 256).toUInt8 (f.b.length % 256).toUInt8 (f.k.toNat : Int) ((n : Int) / 256) ((n : Int) % 256) 5 rfl (by rw [HN.out]; exact (head_vals hfl).1) (by rw [HN.out]; exact (head_vals hfl).2)
    rw [hW2, hsz1] at this
    exact this
  have hc0 : W1.cell? ⟨w.heap.size, 0, none⟩ = some (.int .u8 (f.k.toNat : Int)) := by rw [← hW1]; exact cell_of_row (w.alloc (.cells #[.int .u8 (f.k.toNat : Int), .slice A n c] 28)) w.heap.size 0 _ _ (0, 0) (heap_alloc_new w _)
  have hc1 : W1.cell? ⟨w.heap.size, 1, none⟩ = some (.slice A n c) := by rw [← hW1]; exact cell_of_row (w.alloc (.cells #[.int .u8 (f.k.toNat : Int), .slice A n c] 28)) w.heap.size 1 _ _ (0, 0) (heap_alloc_new w _)
  have hbw12 : Below W1.heap.size W1 W2 := by rw [← hW2]; exact (Below.refl _ _).alloc (Nat.le_refl _) _
  have hc2 : W2.cell? ⟨w.heap.size, 1, none⟩ = some (.slice A n c) := (hbw12.cell (p := ⟨w.heap.size, 1, none⟩) (by show w.heap.size < _; omega)).trans hc1
  have HV2 := Lib.hid (HV.out.below hbw2)
  have HB2 : Hid (Below w0.heap.size w0 W2) := Lib.hid (HB.out.trans (hbw2.mono HB.out.size))
  have HR3 := Lib.hid hR3
  have HC2 := Lib.hid hc2
  have hsz2 : w.heap.size ≤ W2.heap.size := hbw2.size
  have hsz2' : w.heap.size < W2.heap.size := bcell_lt hc2
  have HS1 := Lib.hid hsz1
  clear hbw1 hbw2 hbw12 hR3 hc2
  rw [hW1]
  go_wp2_with (at_builtin; refine wpList_append_add rfl (.tmp 12) (.tmp 20) 26 rfl base i0 Try.underlying26 hi hz0 hz1 hz2 _ m xs rfl w.heap.size HV2.out (some ⟨w.heap.size + 1, 0, none⟩) 3 3 (head3 f) ?e1 HR3.out (by omega) ?e2 ?e3 ?e4 ?_)
  case e1 => rw [← HS1.out]; rfl
  case e2 => unfold maxLen; omega
  case e3 => omega
  case e4 => omega
  refine Lib.hid ?_
  intro v3 W3 hown3 hbel3 hkeep3
  have hb3 := hbel3 w0.heap.size h1
  have HB3 : Hid (Below w0.heap.size w0 W3) := Lib.hid (HB2.out.trans hb3)
  have hz3 := (hbel3 base (Nat.le_refl _)).size
  have hc3 : W3.cell? ⟨w.heap.size, 1, none⟩ = some (.slice A n c) := (hkeep3 ⟨w.heap.size, 1, none⟩ (Nat.le_refl _) (by show w.heap.size < _; omega)).trans HC2.out
  replace hown3 : W3.ownsRow base 5 1 v3 (m + 3) ((xs ++ head3 f).map byteV) := by rw [List.map_append]; exact hown3
  obtain ⟨A3, c3, rfl, _, _, _, _⟩ := RB.own hown3
  have HO3 := Lib.hid hown3
  have HR3' := Lib.hid (HR.out.below HB3.out)
  clear hbel3 hkeep3 hb3 hown3
  go_wp2_with (at_builtin; refine wpList_append_rbh rfl (.tmp 22) (.tmp 24) 26 rfl base i0 Try.underlying26 hi hz0 hz1 hz2 _ (m + 3) (xs ++ head3 f) rfl HO3.out A n c f.b rfl HNil.out HR3'.out ?g1 ?g2 ?g3 ?_)
  case g1 => unfold maxLen; omega
  case g2 => omega
  case g3 => omega
  refine Lib.hid ?_
  intro v4 W4 hown4 hg4
  have HB4 : Hid (Below w0.heap.size w0 W4) := Lib.hid (HB3.out.trans ((Below.refl _ W3).grown hg4 (HB3.out.size) (fun j hj => Nat.le_trans h1 (HO3.out.lt j hj).1)))
  have hz4 := hg4.size
  have hown4' : W4.ownsRow base 5 1 v4 (m + 3 + n) ((xs ++ headF f).map byteV) := by
    rw [← head3_app, ← List.append_assoc]; simpa using hown4
  obtain ⟨A4, c4, rfl, hr4, hn4, hc4, hm4⟩ := RB.own hown4'
  have HO4 := Lib.hid hown4'
  obtain ⟨g4, o4, rfl, hg4l, _⟩ := hr4.2 (by omega)
  have HR4 := Lib.hid hr4
  clear hg4 hown4 hown4' hr4 hn4
  have q2 : ¬ (m + 3 + n = m) := by omega
  have HLx : Hid (xs.length = m) := Lib.hid (by
    have := HR4.out.1
    rw [List.length_append, headF_length, HN.out] at this
    omega)
  have hrd : RB W4 (some ⟨g4, o4 + m, none⟩) (m + 3 + n - m) (headF f) := by
    have := rb_drop HR4.out (m := m) (by omega)
    have hd : (xs ++ headF f).drop m = headF f := by rw [← HLx.out, List.drop_left]
    rwa [hd] at this
  have s1 := sum_piece (some ⟨g4, o4 + m, none⟩) (m + 3 + n - m) (m + 3 + n - m) (headF f) W4 hrd (by unfold maxLen; omega)
  obtain ⟨T, hT⟩ : ∃ T : BitVec 32, crc (headF f) = T := ⟨_, rfl⟩
  rw [hT] at s1
  have HT := Lib.hid hT
  clear hrd hT
  go_wp2_with fail
  refine s1.mono ?_
  rintro e W5 ⟨rfl, hb5⟩
  have HB45 := Lib.hid hb5
  clear s1 hb5
  go_wp2_with fail
  refine (con_held.bytes T W5).mono ?_
  rintro e W6 ⟨A6, c6, rfl, hr6, hn6, hc6, hm6, hb6⟩
  have HB46 : Hid (Below W4.heap.size W4 W6) := Lib.hid (HB45.out.trans (hb6.mono HB45.out.size))
  have HO6 := Lib.hid (bown_keep HO4.out HB46.out)
  have HB6 : Hid (Below w0.heap.size w0 W6) := Lib.hid (HB4.out.trans (HB46.out.mono HB4.out.size))
  have hz6 := HB46.out.size
  have l4 : (sumBytes T).length = 4 := rfl
  rw [l4] at hr6 hc6 ⊢
  have HR6 := Lib.hid hr6
  have HN6 := Lib.hid hn6
  clear hr6 hn6 hb6 l4
  go_wp2_with (at_builtin; refine wpList_append_rbh rfl (.tmp 26) (.tmp 36) 26 rfl base i0 Try.underlying26 hi hz0 hz1 hz2 _ (m + 3 + n) (xs ++ headF f) rfl HO6.out A6 4 c6 (sumBytes T) rfl HN6.out HR6.out ?i1 ?i2 ?i3 ?_)
  case i1 => unfold maxLen; omega
  case i2 => omega
  case i3 => omega
  refine Lib.hid ?_
  intro v7 W7 hown7 hg7
  have HB7 : Hid (Below w0.heap.size w0 W7) := Lib.hid (HB6.out.trans ((Below.refl _ W6).grown hg7 (HB6.out.size) (fun j hj => Nat.le_trans h1 (HO6.out.lt j hj).1)))
  have HO7 : Hid (W7.ownsRow base 5 1 v7 (m + (n + 7)) ((xs ++ encF f).map byteV)) := Lib.hid (by
    have e : xs ++ encF f = xs ++ headF f ++ sumBytes T := by rw [encF, sealB, HT.out, List.append_assoc]
    rw [e, show m + (n + 7) = m + 3 + n + 4 by omega]
    simpa using hown7)
  obtain ⟨A7, c7, rfl, _, _, _, _⟩ := RB.own HO7.out
  clear hown7 hg7
  go_wp2
  go_ret
  exact ⟨_, rfl, HO7.out, HB7.out⟩
end Go.Proofs.Ytjbemjnofnifaaa

/-
  Put, walked (layer 3).
-/
namespace Go.Proofs.Ytjbemjnofnifaaa
open Go.RowKit
set_option linter.unusedSimpArgs false

theorem HasF.below {w w' : World} {g : Nat} (h : HasF w g) (hb : Below w.heap.size w w') : HasF w' g := (hb.block g (Array.getElem?_eq_some_iff.1 h).1).trans h
theorem HasB.below {w w' : World} {g : Nat} (h : HasB w g) (hb : Below w.heap.size w w') : HasB w' g := (hb.block g (Array.getElem?_eq_some_iff.1 h).1).trans h

/-- What is known of the values of 'fault(ofFrame(), f)'. -/
def putR (f : Fr) (V : Value) : Nat → Value → World → Prop
  | 0, v, w => ∃ g, v = .slice (some ⟨g, 0, none⟩) 2 2 ∧ HasF w g
  | 1, v, _ => v = V
  | 2, v, w => ∃ g, v = .slice (some ⟨g, 0, none⟩) 1 1 ∧ RFs w (some ⟨g, 0, none⟩) 1 [f]
  | _, v, _ => v = .int .i64 (errF f : Int)
theorem putR_stable (f : Fr) (V : Value) : ∀ i v w w', putR f V i v w → Go.Rel.Grew w w' → putR f V i v w'
  | 0, _, _, _, ⟨g, e, h⟩, k => ⟨g, e, h.below k⟩
  | 1, _, _, _, h, _ => h
  | 2, _, _, _, ⟨g, e, h⟩, k => ⟨g, e, h.below k⟩
  | _ + 3, _, _, _, h, _ => h
theorem errsF_one (f : Fr) : errsF [f] = errF f := by
  simp only [errsF]
  by_cases h : errF f = 0
  · rw [if_neg (by simp [h]), h]
  · rw [if_pos h]

def PutPost (w : World) (xs : List UInt8) (f : Fr) (e : Ending) (w' : World) : Prop :=
  Below w.heap.size w w' ∧ ((errF f ≠ 0 ∧ e = .returned (.tuple #[.slice none 0 0, .int .i64 (errF f : Int)])) ∨
    (errF f = 0 ∧ ∃ A c, e = .returned (.tuple #[.slice A (xs.length + (f.b.length + 7)) c, .int .i64 0]) ∧ RB w' A (xs.length + (f.b.length + 7)) (xs ++ encF f) ∧ (A = none → c = 0) ∧ xs.length + (f.b.length + 7) ≤ c))

def putR2 (B : Option Addr) (m d : Nat) (V : Value) (L : Nat) (ys : List UInt8) : Nat → Value → World → Prop
  | 0, v, _ | 1, v, _ | 3, v, _ => v = .slice B m d
  | 2, v, _ | 4, v, _ => v = .int .i64 (m : Int)
  | 5, v, _ => v = .slice B m m
  | 6, v, _ => v = V
  | 7, v, w | 8, v, w => ∃ A c, v = .slice A L c ∧ RB w A L ys ∧ (A = none → c = 0) ∧ L ≤ c ∧ TyB w A L
  | _, v, _ => v = .int .i64 0
theorem putR2_stable (B : Option Addr) (m d : Nat) (V : Value) (L : Nat) (ys : List UInt8) : ∀ i v w w', putR2 B m d V L ys i v w → Go.Rel.Grew w w' → putR2 B m d V L ys i v w'
  | 0, _, _, _, h, _ | 1, _, _, _, h, _ | 2, _, _, _, h, _ | 3, _, _, _, h, _ | 4, _, _, _, h, _ | 5, _, _, _, h, _ | 6, _, _, _, h, _ | _ + 9, _, _, _, h, _ => h
  | 7, _, _, _, ⟨A, c, e, h, k1, k2, t⟩, g | 8, _, _, _, ⟨A, c, e, h, k1, k2, t⟩, g => ⟨A, c, e, h.below g, k1, k2, t.grown (row := none) ⟨g.os, g.tape, g.output, g.size, fun k hk _ => g.block k hk⟩ (fun r e => by cases e)⟩

def PutPostT (w : World) (xs : List UInt8) (f : Fr) (e : Ending) (w' : World) : Prop :=
  Below w.heap.size w w' ∧ ((errF f ≠ 0 ∧ e = .returned (.tuple #[.slice none 0 0, .int .i64 (errF f : Int)])) ∨
    (errF f = 0 ∧ ∃ A c, e = .returned (.tuple #[.slice A (xs.length + (f.b.length + 7)) c, .int .i64 0]) ∧ RB w' A (xs.length + (f.b.length + 7)) (xs ++ encF f) ∧ (A = none → c = 0) ∧ xs.length + (f.b.length + 7) ≤ c ∧ TyB w' A (xs.length + (f.b.length + 7))))

end Go.Proofs.Ytjbemjnofnifaaa

/-
  The document's answers for layer 3, walked: Error, Bytes.
-/
namespace Go.Proofs.Ytjbemjnofnifaaa
open Go.RowKit
set_option linter.unusedSimpArgs false

set_option maxHeartbeats 400000 in
theorem rerr_any (f : Fr) (A : Option Addr) (c : Nat) (w : World) : Calls Try.prog 60 #[frV f A c] w fun e w' => e = .returned (.int .i64 (errF f : Int)) ∧ Below w.heap.size w w' := by
  obtain ⟨n, hn⟩ : ∃ n, f.b.length = n := ⟨_, rfl⟩
  unfold frV
  rw [hn]
  by_cases h0 : f.k = 0
  · have HE : Hid (errF f = 2) := Lib.hid (by unfold errF; rw [if_pos h0])
    rw [h0]
    clear hn h0
    go_enter Try.func60, Try.ntmps60
    go_wp2
    go_ret
    exact ⟨by rw [HE.out]; rfl, (Below.refl _ _).alloc (Nat.le_refl _) _⟩
  · have e0 : ((f.k.toNat : Int) == 0) = false := by
      rw [beq_eq_false_iff_ne]
      intro e
      exact h0 (UInt8.toNat_inj.1 (by show f.k.toNat = 0; omega))
    by_cases h1 : 1000 < n
    · have HE : Hid (errF f = 3) := Lib.hid (by unfold errF; rw [if_neg h0, if_pos (by omega)])
      have h1' : (1000 : Int) < (n : Int) := by omega
      clear hn h0 h1
      go_enter Try.func60, Try.ntmps60
      go_wp2
      go_ret
      exact ⟨by rw [HE.out]; rfl, (Below.refl _ _).alloc (Nat.le_refl _) _⟩
    · have HE : Hid (errF f = 0) := Lib.hid (by unfold errF; rw [if_neg h0, if_neg (by omega)])
      have h1' : (n : Int) ≤ 1000 := by omega
      clear hn h0 h1
      go_enter Try.func60, Try.ntmps60
      go_wp2
      go_ret
      exact ⟨by rw [HE.out]; rfl, (Below.refl _ _).alloc (Nat.le_refl _) _⟩

set_option maxHeartbeats 1000000 in
theorem rbytes_any (f : Fr) (A : Option Addr) (c : Nat) (w : World) (hf : BodyAt w A c f.b) (hfl : f.b.length ≤ 1000) : Calls Try.prog 61 #[frV f A c] w fun e w' => BGives w (encF f) e w' := by
  obtain ⟨i0, hi, hz0, hz1, hz2⟩ := info_parts u8_info
  obtain ⟨n, hn⟩ : ∃ n, f.b.length = n := ⟨_, rfl⟩
  unfold frV
  rw [hn] at hfl ⊢
  have HF := Lib.hid hf
  have HN := Lib.hid hn
  clear hf hn
  obtain ⟨W1, hW1⟩ : ∃ W1, w.alloc (.cells #[.int .u8 (f.k.toNat : Int), .slice A n c] 28) = W1 := ⟨_, rfl⟩
  have hb1 : Below w.heap.size w W1 := by rw [← hW1]; exact (Below.refl _ w).alloc (Nat.le_refl _) _
  have hs1 : W1.heap.size = w.heap.size + 1 := by rw [← hW1]; simp
  obtain ⟨c0, c1, _, _⟩ := box2 (Below.refl (w.heap.size + 1) (w.alloc (.cells #[.int .u8 (f.k.toNat : Int), .slice A n c] 28)))
  rw [hW1] at c0 c1
  have hv3 : [Value.int .u8 (f.k.toNat : Int), .int .u8 ((n : Int) / 256), .int .u8 ((n : Int) % 256)] = (head3 f).map byteV := by
    have h1 := (head_vals hfl).1
    have h2 := (head_vals hfl).2
    rw [h1, h2, ← HN.out]
    rfl
  have hown : BOwn W1 W1.heap.size (.slice (some ⟨W1.heap.size, 0, none⟩) 3 3) (head3 f ++ f.b.take 0) (W1.alloc (.cells #[.int .u8 (f.k.toNat : Int), .int .u8 ((n : Int) / 256), .int .u8 ((n : Int) % 256)] 5)) := by
    refine ⟨?_, (Below.refl _ _).alloc (Nat.le_refl _) _, Nat.le_refl _⟩
    rw [List.take_zero, List.append_nil, ← hv3]
    exact ⟨by simp [head3], .inr ⟨W1.heap.size, 3, _, rfl, Nat.le_refl _, heap_alloc_new W1 _, Nat.le_refl _, by unfold maxLen; omega, by simp, by simp [head3]⟩⟩
  rw [hs1] at hown
  have HOwn := Lib.hid hown
  have HB1 := Lib.hid hb1
  have HS1 := Lib.hid hs1
  have HC0 := Lib.hid c0
  have HC1 := Lib.hid c1
  have HW1 := Lib.hid hW1
  clear hown hb1 hs1 hv3 c0 c1 hW1
  go_enter Try.func61, Try.ntmps61
  go_wp2
  rw [HW1.out]
  go_loopw [3, 4] (fun v i wr => ∃ k : Nat, k ≤ n ∧ i = .int .i64 k ∧ BOwn W1 (w.heap.size + 1) v (head3 f ++ f.b.take k) wr) (fun _ i _ => n - (intOf i).toNat)
  case atStart => exact ⟨0, Nat.zero_le _, rfl, HOwn.out⟩
  case round =>
    obtain ⟨k, hk, rfl, ho⟩ := hrel
    have hszw := ho.2.1.size
    have d1 : wr.cell? ⟨w.heap.size, 1, none⟩ = some (.slice A n c) := (ho.2.1.cell (p := ⟨w.heap.size, 1, none⟩) (by show w.heap.size < _; rw [HS1.out]; omega)).trans HC1.out
    have hbwr : Below w.heap.size w wr := HB1.out.trans (ho.2.1.mono HB1.out.size)
    have HO := Lib.hid ho
    have hlb := HN.out
    by_cases hlt : k < n
    · have q : k < f.b.length := by omega
      have hbody := (HF.out.below hbwr).1
      rw [hlb] at hbody
      obtain ⟨b, off, rfl, hbw, hc⟩ := hbody.2 (by omega)
      have hcell := hc k q
      have HT : Hid (head3 f ++ f.b.take (k + 1) = head3 f ++ f.b.take k ++ [f.b[k]]) := Lib.hid (by rw [List.take_succ_eq_append_getElem q, List.append_assoc])
      have hlk : (f.b.take k).length = k := by rw [List.length_take]; omega
      have hl3 : (head3 f).length = 3 := rfl
      obtain ⟨P, hP⟩ : ∃ P, head3 f ++ f.b.take k = P := ⟨_, rfl⟩
      have hPl : P.length = 3 + k := by rw [← hP, List.length_append, hlk, hl3]
      rw [hP] at HT ho
      have HO2 := Lib.hid ho
      have HPL := Lib.hid hPl
      obtain ⟨y, hy⟩ : ∃ y : UInt8, f.b[k] = y := ⟨_, rfl⟩
      rw [hy] at hcell HT
      clear hc ho HO hP hlk hl3 hbody hbwr hy hPl hlb
      go_wp2_with (at_builtin; refine wpList_append_own _ rfl (.tmp 25) (.tmp 31) 26 rfl (w.heap.size + 1) 5 i0 (.int .u8 0) 1 1 Try.underlying26 hi hz0 hz1 hz2 rfl (by decide) _ P.length (P.map byteV) rfl (HO2.out.1.alloc _) ⟨_, 0, none⟩ 1 1 [byteV y] rfl rfl ?c1 ?c2 ?c3 ?c4 ?c5 ?_)
      case c1 =>
        intro j u hj
        match j, hj with
        | 0, hj => simp at hj; subst hj; simp [Addr.add, byteV]
      case c2 => intro u hu; simp at hu; subst hu; rfl
      case c3 => have := HPL.out; unfold maxLen; omega
      case c4 => have := HPL.out; omega
      case c5 => have := HS1.out; simp; omega
      intro v2 w2 hown2 hg2 _
      have HO3 := Lib.hid (show BOwn W1 (w.heap.size + 1) v2 (head3 f ++ f.b.take (k + 1)) w2 from HT.out ▸ bown_one HO2.out hown2 hg2)
      clear hown2 hg2
      go_wp2
      go_roundw
      case rel => exact ⟨k + 1, by omega, by go_num, HO3.out⟩
      case measure => simp [intOf]; omega
    · obtain rfl : k = n := by omega
      have e : f.b.take k = f.b := List.take_of_length_le (by omega)
      rw [e, head3_app] at ho
      obtain ⟨A3, c3, rfl, hr3, _, _, _⟩ := RB.own ho.1
      have hl3 : (headF f).length = k + 3 := by rw [headF_length, hlb]
      have cs := rsealed_any A3 (headF f).length c3 (headF f) wr hr3 (by omega)
      have HE : Hid (sealB (headF f) = encF f) := Lib.hid rfl
      rw [HE.out] at cs
      have HBW := Lib.hid hbwr
      clear ho HO e hr3 hbwr hlb
      rw [hl3] at cs ⊢
      clear hl3
      go_wp2_with fail
      refine cs.mono ?_
      rintro e w3 ⟨A4, c4, rfl, r4, n4, l4, m4, hb4⟩
      have HG : Hid (BGives w (encF f) (.returned (.slice A4 (encF f).length c4)) w3) := Lib.hid ⟨A4, c4, rfl, r4, n4, l4, m4, HBW.out.trans (hb4.mono HBW.out.size)⟩
      clear r4 n4 l4 m4 hb4 cs
      go_wp2
      go_ret
      exact HG.out
end Go.Proofs.Ytjbemjnofnifaaa
