/-
  lay and Put, walked (layer 3).
-/
import Derived.Test.YtkbllhpjfgeaaaaFWalkD
import Derived.ArgAppend
namespace Go.Proofs.Ytkbllhpjfgeaaaa
open Go.RowKit
set_option linter.unusedSimpArgs false

/-- Sum of one piece, as a call's own block holds it. -/
theorem sum_piece (A : Option Addr) (n c : Nat) (xs : List UInt8) (w : World) (h : RB w A n xs) (hn : n ≤ maxLen) :
    Calls Try.prog 38 #[.slice (some ⟨w.heap.size, 0, none⟩) 1 1] (w.alloc (.cells #[.slice A n c] 22)) fun e w' => e = .returned (.int .u32 ((crc xs).toNat : Int)) ∧ Below w.heap.size w w' := by
  have := con_held.sum (some ⟨w.heap.size, 0, none⟩) 1 1 [xs] (w.alloc (.cells #[.slice A n c] 22)) (Pieces.one h hn _) rfl (by omega)
  rw [show [xs].flatten = xs by simp] at this
  exact this.mono fun e w' ⟨he, hb⟩ => ⟨he, ((Below.refl _ w).alloc (Nat.le_refl _) _).trans (hb.mono (by simp))⟩
/-- What may be appended to: a row of the call's own, or a slice that has no room. -/
def Addable (w : World) (base L : Nat) (v : Value) (m : Nat) (xs : List UInt8) : Prop :=
  (w.ownsRow base 5 1 v m (xs.map byteV) ∧ ∀ j, v.ownBlock = some j → j < L) ∨ ∃ B, v = .slice B m m ∧ RB w B m xs ∧ (B = none → m = 0)

theorem wpList_append_add {P : Program} {w : World} {ops : Array Oper} {rest : List Oper} {o : Oper} {a : Act} {Q : Exit → Act → World → Prop} (hgd : o.guard = none) (s x : Operand) (t : TypeId)
    (ho : o.op = .call { callee := .builtin .append, args := #[s, x], argTypes := #[t, t] })
    (base : Nat) (i : TypeInfo) (ht : P.underlying t = some (.slice 5)) (hi : P.info? 5 = some i) (hz : i.zero = some (.int .u8 0))
    (hsize : i.size = 1) (hby : i.bytes = 1)
    (v : Value) (m : Nat) (ys : List UInt8) (hs : a.eval s = v) (L : Nat) (hv : Addable w base L v m ys)
    (A : Option Addr) (n c : Nat) (xs : List UInt8) (hx : a.eval x = .slice A n c) (hR : RB w A n xs) (hn : 0 < n)
    (h63 : m + n ≤ maxLen) (hbytes : (m + n) * 1 ≤ 140737488355328) (hbase : base ≤ w.heap.size)
    (h : Hid (∀ v' w', w'.ownsRow base 5 1 v' (m + n) ((ys ++ xs).map byteV) → (∀ B0, B0 ≤ base → Below B0 w w') → (∀ p : Addr, L ≤ p.block → p.block < w.heap.size → w'.cell? p = w.cell? p) → wpList P ops Q rest (a.put o.dst v') w')) : wpList P ops Q (o :: rest) a w := by
  rcases hv with ⟨hown, hL⟩ | ⟨B, rfl, hB, hnil⟩
  · refine wpList_append_rb hgd s x t ho base 5 i (.int .u8 0) 1 ht hi hz hsize hby rfl v m (ys.map byteV) hs hown A n c xs hx (fun e => by
      obtain ⟨_, _, e', _⟩ := hR.2 hn
      rw [e] at e'; cases e') hR h63 hbytes hbase (fun v' w' h1 h2 => h.out v' w' (by rw [List.map_append]; exact h1) (fun B0 hB0 => (Below.refl _ w).grown h2 (by omega) (fun j hj => Nat.le_trans hB0 (hown.lt j hj).1)) (fun p hp hpl => World.cell?_of_block (h2.block p.block hpl (fun e => by have := hL _ e.symm; omega))))
  · obtain ⟨b, off, rfl, hlt, _⟩ := hR.2 hn
    refine wpList_append_grows w hgd s x t ho 5 i (.int .u8 0) 1 1 ht hi hz hsize hby rfl (by decide) B m m (ys.map byteV) hs (fun e => ⟨hnil e, hnil e⟩) (by simp [hB.1]) (fun ad e j u hu => by
        subst e
        exact hB.news j u hu) ⟨b, off, none⟩ n c (xs.map byteV) hx (by simp [hR.1]) hR.news (by
      intro u hu
      simp only [List.mem_map] at hu
      obtain ⟨y, _, rfl⟩ := hu
      rfl) (by omega) h63 hbytes (fun v' w' h1 h2 => h.out v' w' (by rw [List.map_append]; exact bown_base h1 hbase) (fun B0 hB0 => (Below.refl _ w).grown h2 (by omega) (fun j hj => by cases hj)) (fun p hp hpl => World.cell?_of_block (h2.block p.block hpl (fun e => by cases e))))

theorem wpList_append_rbh {P : Program} {w : World} {ops : Array Oper} {rest : List Oper} {o : Oper} {a : Act} {Q : Exit → Act → World → Prop} (hgd : o.guard = none) (s x : Operand) (t : TypeId)
    (ho : o.op = .call { callee := .builtin .append, args := #[s, x], argTypes := #[t, t] })
    (base : Nat) (i : TypeInfo) (ht : P.underlying t = some (.slice 5)) (hi : P.info? 5 = some i) (hz : i.zero = some (.int .u8 0))
    (hsize : i.size = 1) (hby : i.bytes = 1)
    (v : Value) (m : Nat) (ys : List UInt8) (hs : a.eval s = v) (hown : w.ownsRow base 5 1 v m (ys.map byteV))
    (A : Option Addr) (n c : Nat) (xs : List UInt8) (hx : a.eval x = .slice A n c) (hnil : A = none → c = 0) (hR : RB w A n xs)
    (h63 : m + n ≤ maxLen) (hbytes : (m + n) * 1 ≤ 140737488355328) (hbase : base ≤ w.heap.size)
    (h : Hid (∀ v' w', w'.ownsRow base 5 1 v' (m + n) ((ys ++ xs).map byteV) → w.grownBy w' v.ownBlock → wpList P ops Q rest (a.put o.dst v') w')) : wpList P ops Q (o :: rest) a w :=
  wpList_append_rb hgd s x t ho base 5 i (.int .u8 0) 1 ht hi hz hsize hby rfl v m (ys.map byteV) hs hown A n c xs hx hnil hR h63 hbytes hbase (fun v' w' h1 h2 => h.out v' w' (by rw [List.map_append]; exact h1) h2)
theorem Addable.below {w w' : World} {base L : Nat} {v : Value} {m : Nat} {xs : List UInt8} (h : Addable w base L v m xs) (hb : Below w.heap.size w w') : Addable w' base L v m xs := by
  rcases h with ⟨h, hL⟩ | ⟨B, e, h, hn⟩
  · exact .inl ⟨bown_keep h hb, hL⟩
  · exact .inr ⟨B, e, h.below hb, hn⟩
theorem rb_three (w : World) (x y z : UInt8) (a b c : Int) (t : TypeId) (ha : a = (x.toNat : Int)) (hb : b = (y.toNat : Int)) (hc : c = (z.toNat : Int)) : RB (w.alloc (.cells #[.int .u8 a, .int .u8 b, .int .u8 c] t)) (some ⟨w.heap.size, 0, none⟩) 3 [x, y, z] := by
  subst ha hb hc
  refine ⟨rfl, fun _ => ⟨_, _, rfl, by simp, fun j hj => ?_⟩⟩
  rw [cell_of_row _ w.heap.size _ _ _ (0, 0) (heap_alloc_new w _)]
  have hj3 : j < 3 := hj
  match j, hj3 with
  | 0, _ | 1, _ | 2, _ => rfl
theorem head_vals {n : Nat} (h : n ≤ 1000) : (n : Int) / 256 = (((n / 256).toUInt8).toNat : Int) ∧ (n : Int) % 256 = (((n % 256).toUInt8).toNat : Int) := by
  rw [toU8 (by omega), toU8 (by omega)]
  omega
def head3 (f : Fr) : List UInt8 := [f.k, (f.b.length / 256).toUInt8, (f.b.length % 256).toUInt8]
theorem head3_app (f : Fr) : head3 f ++ f.b = headF f := rfl

set_option maxHeartbeats 1000000 in
theorem lay_any (w0 w : World) (base m d : Nat) (B : Option Addr) (xs : List UInt8) (hv : Addable w base w.heap.size (.slice B m d) m xs) (hb : Below w0.heap.size w0 w) (h1 : w0.heap.size ≤ base) (h2 : base ≤ w.heap.size)
    (f : Fr) (A : Option Addr) (c : Nat) (hf : BodyAt w0 A c f.b) (hfl : f.b.length ≤ 1000) (hm : m + 1007 ≤ 140737488355328) :
    Calls Try.prog 29 #[.slice B m d, frV f A c] w fun e w' => ∃ v', e = .returned v' ∧ w'.ownsRow base 5 1 v' (m + (f.b.length + 7)) ((xs ++ encF f).map byteV) ∧ Below w0.heap.size w0 w' := by
  obtain ⟨i0, hi, hz0, hz1, hz2⟩ := info_parts u8_info
  obtain ⟨r1, r2, r3, r4⟩ := hf
  obtain ⟨n, hn⟩ : ∃ n, f.b.length = n := ⟨_, rfl⟩
  unfold frV
  rw [hn] at r1 r2 hfl ⊢
  have HV := Lib.hid hv
  have HB := Lib.hid hb
  have HR := Lib.hid r1
  have HN := Lib.hid hn
  have HNil := Lib.hid r3
  clear hv hb r1 r3 r4 hn
  go_enter Try.func29, Try.ntmps29
  go_wp2
  go_quiet (fail)
  obtain ⟨W1, hW1⟩ : ∃ W1, (w.alloc (.cells #[.int .u8 (f.k.toNat : Int), .slice A n c] 24)).drewN nq = W1 := ⟨_, rfl⟩
  have hbw1 : Below w.heap.size w W1 := by rw [← hW1]; exact below_drewN ((Below.refl _ w).alloc (Nat.le_refl _) _) nq
  have hsz1 : W1.heap.size = w.heap.size + 1 := by rw [← hW1]; simp [World.drewN]
  obtain ⟨W2, hW2⟩ : ∃ W2, W1.alloc (.cells #[.int .u8 (f.k.toNat : Int), .int .u8 ((n : Int) / 256), .int .u8 ((n : Int) % 256)] 5) = W2 := ⟨_, rfl⟩
  have hbw2 : Below w.heap.size w W2 := by rw [← hW2]; exact hbw1.alloc (by omega) _
  have hR3 : RB W2 (some ⟨w.heap.size + 1, 0, none⟩) 3 (head3 f) := by
    have := rb_three W1 f.k (f.b.length / 256).toUInt8 (f.b.length % 256).toUInt8 (f.k.toNat : Int) ((n : Int) / 256) ((n : Int) % 256) 5 rfl (by rw [HN.out]; exact (head_vals hfl).1) (by rw [HN.out]; exact (head_vals hfl).2)
    rw [hW2, hsz1] at this
    exact this
  have hc0 : W1.cell? ⟨w.heap.size, 0, none⟩ = some (.int .u8 (f.k.toNat : Int)) := by rw [← hW1]; exact cell_of_row (w.alloc (.cells #[.int .u8 (f.k.toNat : Int), .slice A n c] 24)) w.heap.size 0 _ _ (0, 0) (heap_alloc_new w _)
  have hc1 : W1.cell? ⟨w.heap.size, 1, none⟩ = some (.slice A n c) := by rw [← hW1]; exact cell_of_row (w.alloc (.cells #[.int .u8 (f.k.toNat : Int), .slice A n c] 24)) w.heap.size 1 _ _ (0, 0) (heap_alloc_new w _)
  have hbw12 : Below W1.heap.size W1 W2 := by rw [← hW2]; exact (Below.refl _ _).alloc (Nat.le_refl _) _
  have hc2 : W2.cell? ⟨w.heap.size, 1, none⟩ = some (.slice A n c) := (hbw12.cell (p := ⟨w.heap.size, 1, none⟩) (by show w.heap.size < _; omega)).trans hc1
  have HV2 := Lib.hid (HV.out.below hbw2)
  have HB2 : Hid (Below w0.heap.size w0 W2) := Lib.hid (HB.out.trans (hbw2.mono HB.out.size))
  have HR3 := Lib.hid hR3
  have HC2 := Lib.hid hc2
  have hsz2 : w.heap.size ≤ W2.heap.size := hbw2.size
  have hsz2' : w.heap.size < W2.heap.size := bcell_lt hc2
  have HS1 := Lib.hid hsz1
  clear hbw1 hbw2 hbw12 hR3 hc2
  rw [hW1]
  go_wp2_with (at_builtin; refine wpList_append_add rfl (.tmp 12) (.tmp 20) 22 rfl base i0 Try.underlying22 hi hz0 hz1 hz2 _ m xs rfl w.heap.size HV2.out (some ⟨w.heap.size + 1, 0, none⟩) 3 3 (head3 f) ?e1 HR3.out (by omega) ?e2 ?e3 ?e4 ?_)
  case e1 => rw [← HS1.out]; rfl
  case e2 => unfold maxLen; omega
  case e3 => omega
  case e4 => omega
  refine Lib.hid ?_
  intro v3 W3 hown3 hbel3 hkeep3
  have hb3 := hbel3 w0.heap.size h1
  have HB3 : Hid (Below w0.heap.size w0 W3) := Lib.hid (HB2.out.trans hb3)
  have hz3 := (hbel3 base (Nat.le_refl _)).size
  have hc3 : W3.cell? ⟨w.heap.size, 1, none⟩ = some (.slice A n c) := (hkeep3 ⟨w.heap.size, 1, none⟩ (Nat.le_refl _) (by show w.heap.size < _; omega)).trans HC2.out
  replace hown3 : W3.ownsRow base 5 1 v3 (m + 3) ((xs ++ head3 f).map byteV) := by rw [List.map_append]; exact hown3
  obtain ⟨A3, c3, rfl, _, _, _, _⟩ := RB.own hown3
  have HO3 := Lib.hid hown3
  have HR3' := Lib.hid (HR.out.below HB3.out)
  clear hbel3 hkeep3 hb3 hown3
  go_wp2_with (at_builtin; refine wpList_append_rbh rfl (.tmp 22) (.tmp 24) 22 rfl base i0 Try.underlying22 hi hz0 hz1 hz2 _ (m + 3) (xs ++ head3 f) rfl HO3.out A n c f.b rfl HNil.out HR3'.out ?g1 ?g2 ?g3 ?_)
  case g1 => unfold maxLen; omega
  case g2 => omega
  case g3 => omega
  refine Lib.hid ?_
  intro v4 W4 hown4 hg4
  have HB4 : Hid (Below w0.heap.size w0 W4) := Lib.hid (HB3.out.trans ((Below.refl _ W3).grown hg4 (HB3.out.size) (fun j hj => Nat.le_trans h1 (HO3.out.lt j hj).1)))
  have hz4 := hg4.size
  have hown4' : W4.ownsRow base 5 1 v4 (m + 3 + n) ((xs ++ headF f).map byteV) := by
    rw [← head3_app, ← List.append_assoc]; simpa using hown4
  obtain ⟨A4, c4, rfl, hr4, hn4, hc4, hm4⟩ := RB.own hown4'
  have HO4 := Lib.hid hown4'
  obtain ⟨g4, o4, rfl, hg4l, _⟩ := hr4.2 (by omega)
  have HR4 := Lib.hid hr4
  clear hg4 hown4 hown4' hr4 hn4
  have q2 : ¬ (m + 3 + n = m) := by omega
  have HLx : Hid (xs.length = m) := Lib.hid (by
    have := HR4.out.1
    rw [List.length_append, headF_length, HN.out] at this
    omega)
  have hrd : RB W4 (some ⟨g4, o4 + m, none⟩) (m + 3 + n - m) (headF f) := by
    have := rb_drop HR4.out (m := m) (by omega)
    have hd : (xs ++ headF f).drop m = headF f := by rw [← HLx.out, List.drop_left]
    rwa [hd] at this
  have s1 := sum_piece (some ⟨g4, o4 + m, none⟩) (m + 3 + n - m) (m + 3 + n - m) (headF f) W4 hrd (by unfold maxLen; omega)
  obtain ⟨T, hT⟩ : ∃ T : BitVec 32, crc (headF f) = T := ⟨_, rfl⟩
  rw [hT] at s1
  have HT := Lib.hid hT
  clear hrd hT
  go_wp2_with fail
  refine s1.mono ?_
  rintro e W5 ⟨rfl, hb5⟩
  have HB45 := Lib.hid hb5
  clear s1 hb5
  go_wp2_with fail
  refine (con_held.bytes T W5).mono ?_
  rintro e W6 ⟨A6, c6, rfl, hr6, hn6, hc6, hm6, hb6⟩
  have HB46 : Hid (Below W4.heap.size W4 W6) := Lib.hid (HB45.out.trans (hb6.mono HB45.out.size))
  have HO6 := Lib.hid (bown_keep HO4.out HB46.out)
  have HB6 : Hid (Below w0.heap.size w0 W6) := Lib.hid (HB4.out.trans (HB46.out.mono HB4.out.size))
  have hz6 := HB46.out.size
  have l4 : (sumBytes T).length = 4 := rfl
  rw [l4] at hr6 hc6 ⊢
  have HR6 := Lib.hid hr6
  have HN6 := Lib.hid hn6
  clear hr6 hn6 hb6 l4
  go_wp2_with (at_builtin; refine wpList_append_rbh rfl (.tmp 26) (.tmp 36) 22 rfl base i0 Try.underlying22 hi hz0 hz1 hz2 _ (m + 3 + n) (xs ++ headF f) rfl HO6.out A6 4 c6 (sumBytes T) rfl HN6.out HR6.out ?i1 ?i2 ?i3 ?_)
  case i1 => unfold maxLen; omega
  case i2 => omega
  case i3 => omega
  refine Lib.hid ?_
  intro v7 W7 hown7 hg7
  have HB7 : Hid (Below w0.heap.size w0 W7) := Lib.hid (HB6.out.trans ((Below.refl _ W6).grown hg7 (HB6.out.size) (fun j hj => Nat.le_trans h1 (HO6.out.lt j hj).1)))
  have HO7 : Hid (W7.ownsRow base 5 1 v7 (m + (n + 7)) ((xs ++ encF f).map byteV)) := Lib.hid (by
    have e : xs ++ encF f = xs ++ headF f ++ sumBytes T := by rw [encF, sealB, HT.out, List.append_assoc]
    rw [e, show m + (n + 7) = m + 3 + n + 4 by omega]
    simpa using hown7)
  obtain ⟨A7, c7, rfl, _, _, _, _⟩ := RB.own HO7.out
  clear hown7 hg7
  go_wp2
  go_ret
  exact ⟨_, rfl, HO7.out, HB7.out⟩
end Go.Proofs.Ytkbllhpjfgeaaaa
