/-
  walk and Each: iterators over the frames of bytes (layer 3).
-/
import Derived.Test.YtjbemjnofnifaaaZj41
import Derived.RangeFuncNested
import Derived.RangeFuncBound
import Derived.RangeFuncCalls
import Derived.RangeFuncLeaves
import Derived.Shelf.Abstract
import Derived.Shelf.RegionOpen
import Derived.OwnWalkIn
import Derived.TacticsInMore
import Derived.LoopNIn
import Derived.LoopIn
import Derived.Test.YtjbemjnofnifaaaZj4
import Derived.Outline
namespace Go.Proofs.Ytjbemjnofnifaaa
open Go.RowKit Go.Shelf Go.Rel
set_option linter.unusedSimpArgs false
attribute [local go_sem] Oper.semAt_some

/-- What the iterator hands out: the place, the frame, and where its body lies. -/
structure Item where
  p : Nat
  f : Fr
  A : Option Addr
  c : Nat
def Item.key (x : Item) : Nat × Fr := (x.p, x.f)
def itemEncs (x : Item) : Array Value := #[.int .i64 (x.p : Int), frV x.f x.A x.c]
def itemR (x : Item) (W : World) : Prop := (BodyAt W x.A x.c x.f.b ∧ TyB W x.A x.f.b.length) ∧ x.f.b.length ≤ 1000 ∧ x.p ≤ 140737488355328
/-- What a round keeps that goes on: whatever lay below n₀, and the iterator's own variable. -/
def KpB (n₀ Bn : Nat) (W W' : World) : Prop := Below n₀ W W' ∧ W'.heap[Bn]? = W.heap[Bn]?
theorem kpB_t {n₀ Bn : Nat} {A B C : World} (h : KpB n₀ Bn A B) (k : KpB n₀ Bn B C) : KpB n₀ Bn A C := ⟨h.1.trans k.1, k.2.trans h.2⟩
theorem kpB_b {n₀ Bn : Nat} {w : World} (hn : n₀ ≤ w.heap.size) (hB : Bn < w.heap.size) (W : World) (l : Nat) (o o' : Obj) (hl : w.heap.size ≤ l) (h : W.heap[l]? = some o) (h1 : o.isCells = false) (h2 : o.isWalk = false) : KpB n₀ Bn W (W.putObj l o') :=
  ⟨belowK_b hn W l o o' hl h h1 h2, World.putObj_heap_other (by omega)⟩
theorem kpB_of {n₀ Bn : Nat} {W W' : World} (h : Below W.heap.size W W') (hn : n₀ ≤ W.heap.size) (hB : Bn < W.heap.size) : KpB n₀ Bn W W' := ⟨h.mono hn, h.block Bn hB⟩
/-- The first k frames and their places. -/
def told (fs : List Fr) (k : Nat) : List (Nat × Fr) := (List.range k).map fun i => (placeOf fs i, fs.getD i ⟨0, []⟩)
theorem told_length (fs : List Fr) (k : Nat) : (told fs k).length = k := by simp [told]
theorem told_succ (fs : List Fr) {k : Nat} (h : k < fs.length) : told fs (k + 1) = told fs k ++ [(placeOf fs k, fs[k])] := by
  rw [told, List.range_succ, List.map_append]
  simp [told, List.getD, List.getElem?_eq_getElem h]
def ItS (fs : List Fr) (xs : List Item) : Prop := xs.map Item.key = told fs fs.length
def ItP (fs : List Fr) (xs : List Item) : Prop := ∃ k, k ≤ fs.length ∧ xs.map Item.key = told fs k

theorem grown_of {w w' : World} (h : Below w.heap.size w w') (row : Option Nat) : w.grownBy w' row := ⟨h.os, h.tape, h.output, h.size, fun k hk _ => h.block k hk⟩

/-- A slice of bytes in blocks below B. -/
def RBb (B : Nat) (w : World) (A : Option Addr) (n : Nat) (xs : List UInt8) : Prop := RB w A n xs ∧ ∀ b off, A = some ⟨b, off, none⟩ → 0 < n → b < B
theorem RBb.below {B : Nat} {w w' : World} {A : Option Addr} {n : Nat} {xs : List UInt8} (h : RBb B w A n xs) (hb : Below B w w') : RBb B w' A n xs := by
  obtain ⟨⟨h1, h2⟩, h3⟩ := h
  refine ⟨⟨h1, fun hn => ?_⟩, h3⟩
  obtain ⟨b, off, e, hlt, hc⟩ := h2 hn
  exact ⟨b, off, e, Nat.lt_of_lt_of_le hlt hb.size, fun j hj => (hb.cell (p := ⟨b, off + j, none⟩) (h3 b off e hn)).trans (hc j hj)⟩

/-- What a round keeps that goes on: the blocks of S. -/
def KpS (S : Nat → Prop) (W W' : World) : Prop := W.heap.size ≤ W'.heap.size ∧ ∀ k, S k → W'.heap[k]? = W.heap[k]?
theorem kpS_t {S : Nat → Prop} {A B C : World} (h : KpS S A B) (k : KpS S B C) : KpS S A C := ⟨Nat.le_trans h.1 k.1, fun q hq => (k.2 q hq).trans (h.2 q hq)⟩
theorem kpS_b {S : Nat → Prop} {w : World} (hS : ∀ k, S k → k < w.heap.size) (W : World) (l : Nat) (o o' : Obj) (hl : w.heap.size ≤ l) (_ : W.heap[l]? = some o) (_ : o.isCells = false) (_ : o.isWalk = false) : KpS S W (W.putObj l o') :=
  ⟨(grownBy_putObj' W l o').size, fun k hk => World.putObj_heap_other (by have := hS k hk; omega)⟩
theorem kpS_of {S : Nat → Prop} {W W' : World} (h : Below W.heap.size W W') (hS : ∀ k, S k → k < W.heap.size) : KpS S W W' := ⟨h.size, fun k hk => h.block k (hS k hk)⟩
theorem RB.kpS {S : Nat → Prop} {W W' : World} {A : Option Addr} {n : Nat} {xs : List UInt8} (h : RB W A n xs) (hS : ∀ b off, A = some ⟨b, off, none⟩ → 0 < n → S b) (hk : KpS S W W') : RB W' A n xs := by
  refine ⟨h.1, fun hn => ?_⟩
  obtain ⟨b, off, e, hlt, hc⟩ := h.2 hn
  exact ⟨b, off, e, Nat.lt_of_lt_of_le hlt hk.1, fun j hj => (World.cell?_of_block (a := ⟨b, off + j, none⟩) (hk.2 b (hS b off e hn))).trans (hc j hj)⟩
theorem SeqTells.weaken {α : Type} {F : Fence} {n : Nat} {P : Program} {g : Nat} {lb : Array Value} {encs : α → Array Value} {R : α → World → Prop} {Kp Kp' : World → World → Prop} {S Sp : List α → Prop} {N : Nat} {w : World} (h : SeqTells F n P g lb encs R Kp S Sp N w) (hk : ∀ W W', Kp' W W' → Kp W W') : SeqTells F n P g lb encs R Kp' S Sp N w :=
  fun l J Jx W h1 h2 h3 hY h0 => h l J Jx W h1 h2 h3 (fun pre x W1 a b c => by
    obtain ⟨f, t, a', b', hy, hr⟩ := hY pre x W1 a b c
    exact ⟨f, t, a', b', hy, hr.mono fun e W' h => h.imp (fun ⟨q1, q2, q3⟩ => ⟨q1, q2, hk _ _ q3⟩) id⟩) h0

set_option maxHeartbeats 4000000 in
set_option maxRecDepth 100000 in
theorem walk_tellsS (S : Nat → Prop) (k : Nat) (hk : 1 ≤ k) (Bn n c : Nat) (A : Option Addr) (xs : List UInt8) (fs : List Fr) (r : List UInt8) (hcut : Cut xs fs r) (w : World) (hSB : S Bn) (hSd : ∀ b off, A = some ⟨b, off, none⟩ → 0 < n → S b) (hS : ∀ k, S k → k < w.heap.size)
    (hc : w.cell? ⟨Bn, 0, none⟩ = some (.slice A n c)) (hR : RB w A n xs) (hnc : n ≤ c) (hn : n ≤ 140737488355328) :
    SeqTells Fence.wide k Try.prog 79 #[.pointer (some ⟨Bn, 0, none⟩)] itemEncs itemR (KpS S) (ItS fs) (ItP fs) fs.length w := fun l J Jx W hW hJ hJx hY h0 => by
  have hl := hR.1
  have HW : Hid (KpS S w W) := Lib.hid (kpS_of hW hS)
  have HSd := Lib.hid hSd
  have HSS := Lib.hid hS
  clear hSd hS
  have HR := Lib.hid hR
  have HC := Lib.hid hc
  have HCut := Lib.hid hcut
  have HY := Lib.hid hY
  have HL := Lib.hid hl
  have HJ := Lib.hid hJ
  have HH0 := Lib.hid h0
  clear hR hc hcut hl hJx hY hJ h0
  refine callsIn_of_wp Try.func79 rfl trivial ?_ rfl
  simp only [Try.ntmps79, List.size_toArray, List.length_cons, List.length_nil, Nat.reduceAdd, Nat.reduceSub, Array.replicate_succ, Array.replicate_zero, List.push_toArray, List.append_toArray, List.nil_append, List.cons_append]
  gi_wp2
  gi_loopw [3] (fun at_ wr => ∃ (q : Nat) (pre : List Item), q ≤ fs.length ∧ at_ = .int .i64 ((placeOf fs q : Nat) : Int) ∧ Hid (pre.map Item.key = told fs q) ∧ Hid (J pre wr) ∧ Hid (KpS S w wr))
    (fun at_ _ => n - (intOf at_).toNat)
  case atStart => exact ⟨0, [], Nat.zero_le _, by rw [placeOf_zero]; rfl, Lib.hid rfl, HH0, HW⟩
  case round =>
    obtain ⟨q, pre, hq, rfl, hkey, hj, hbw⟩ := hrel
    have hcw : wr.cell? ⟨Bn, 0, none⟩ = some (.slice A n c) := (World.cell?_of_block (a := ⟨Bn, 0, none⟩) (hbw.out.2 Bn hSB)).trans HC.out
    have hRw := HR.out.kpS HSd.out hbw.out
    have hpl : placeOf fs q ≤ n := by
      have h1 := placeOf_le fs q
      have h2 := HCut.out.2.1
      have h3 := HL.out
      rw [h2, List.length_append] at h3
      omega
    obtain ⟨p, hp⟩ : ∃ p, placeOf fs q = p := ⟨_, rfl⟩
    rw [hp] at hpl ⊢
    have HP := Lib.hid hp
    by_cases hlt : q < fs.length
    · obtain ⟨e1, e2, e3⟩ := cut_at HCut.out hlt
      rw [hp] at e1 e2 e3
      have hpn : p < n := by
        have := errT_zero e1
        rw [List.length_drop, HL.out] at this
        omega
      obtain ⟨b, off, rfl, hb, _⟩ := hRw.2 (by omega)
      have hrd := rb_drop hRw (m := p) (by omega)
      have s1 := take_okT (some ⟨b, off + p, none⟩) (n - p) (n - p) (xs.drop p) wr hrd (Nat.le_refl _) e1
      rw [e2] at s1
      obtain ⟨f, hf⟩ : ∃ f, fs[q] = f := ⟨_, rfl⟩
      rw [hf] at s1
      have hfl : f.b.length ≤ 1000 := by rw [← hf]; exact (HCut.out.1 _ (List.getElem_mem hlt)).2
      have hp47 : p ≤ 140737488355328 := by omega
      have HF := Lib.hid hf
      have S1 := Lib.hid s1
      have qn : ¬ n = p := by omega
      clear e1 e2 e3 hrd hf hp s1 hRw
      gi_wp2_with fail
      refine ⟨trivial, (callsIn_wide.2 S1.out).mono ?_⟩
      rintro e w2 ⟨A2, c2, rfl, ⟨hbody, hty⟩, hb2⟩
      obtain ⟨ln, hln⟩ : ∃ ln, f.b.length = ln := ⟨_, rfl⟩
      obtain ⟨W3, hW3⟩ : ∃ W3, w2.alloc (.cells #[.int .u8 (f.k.toNat : Int), .slice A2 ln c2] 28) = W3 := ⟨_, rfl⟩
      have hb23 : Below w2.heap.size w2 W3 := by rw [← hW3]; exact (Below.refl _ _).alloc (Nat.le_refl _) _
      have hb3 : Below wr.heap.size wr W3 := hb2.trans (hb23.mono hb2.size)
      obtain ⟨d0, d1, _, _⟩ := box2 (Below.refl (w2.heap.size + 1) (w2.alloc (.cells #[.int .u8 (f.k.toNat : Int), .slice A2 ln c2] 28)))
      rw [hW3] at d0 d1
      obtain ⟨fn, tmps, assign, body, hy, hRd⟩ := HY.out pre ⟨p, f, A2, c2⟩ W3 (HJ.out _ wr W3 none hj.out (grown_of hb3 none) (fun r e => by cases e)) ⟨⟨hbody.below hb23, hty.grown (grown_of hb23 none) (fun r e => by cases e)⟩, hfl, hp47⟩ (by
        have := congrArg List.length hkey.out
        rw [List.length_map, told_length] at this
        omega)
      simp only [itemEncs, frV, hln] at hy
      have HRd := Lib.hid hRd
      have HB3 : Hid (KpS S w W3) := Lib.hid (kpS_t hbw.out (kpS_of hb3 (fun k hk => Nat.lt_of_lt_of_le (HSS.out k hk) hbw.out.1)))
      have HK2 : Hid ((pre ++ [(⟨p, f, A2, c2⟩ : Item)]).map Item.key = told fs (q + 1)) := Lib.hid (by
        rw [List.map_append, hkey.out, told_succ fs hlt, HF.out, HP.out]; rfl)
      have HPS : Hid (placeOf fs (q + 1) = p + (ln + 7)) := Lib.hid (by rw [placeOf_succ fs hlt, HP.out, HF.out, hln])
      have hp7 : p + (ln + 7) ≤ n := by
        have h1 := placeOf_le fs (q + 1)
        have h2 := HCut.out.2.1
        have h3 := HL.out
        rw [h2, List.length_append] at h3
        rw [HPS.out] at h1
        omega
      unfold frV
      rw [hln]
      clear hb2 hbody hty hb23 hb3 hln hcw hRd hfl
      gi_wp2
      refine HRd.out.mono ?_
      rintro e W4 (⟨rfl, hJ4, hk4⟩ | ⟨rfl, hJx4⟩)
      · have HJ4 := Lib.hid hJ4
        have HB4 : Hid (KpS S w W4) := Lib.hid (kpS_t HB3.out hk4)
        clear hJ4 hk4 hy
        gi_wp2
        go_roundw
        case rel => exact ⟨q + 1, pre ++ [⟨p, f, A2, c2⟩], hlt, by rw [HPS.out]; go_num, HK2, HJ4, HB4⟩
        case measure => simp [intOf]; omega
      · have HJx4 := Lib.hid hJx4
        clear hJx4 hy
        gi_wp2
        refine bodyPost_ret (results_none rfl _ _ _) rfl ?_
        exact ⟨⟨_, rfl⟩, .inr ⟨pre ++ [⟨p, f, A2, c2⟩], ⟨q + 1, hlt, HK2.out⟩, HJx4.out⟩⟩
    · obtain rfl : q = fs.length := by omega
      obtain ⟨e1, e2⟩ := cut_end HCut.out
      rw [hp] at e1 e2
      have he := HCut.out.2.2
      have HS : Hid (ItS fs pre) := Lib.hid hkey.out
      by_cases hpn : p = n
      · subst hpn
        have hr0 : r = [] := List.eq_nil_of_length_eq_zero (by have := HL.out; omega)
        have s1 := fun (A' : Option Addr) (w1 : World) => take_err A' 0 0 [] w1 (RB.zero _ _) (Nat.le_refl _) (by rw [errT_nil]; omega)
        rw [errT_nil] at s1
        have S1 := Lib.hid s1
        clear hp e1 e2 he hRw hr0 s1 hpl hlt
        gi_wp2_with fail
        refine ⟨trivial, (callsIn_wide.2 (S1.out A wr)).mono ?_⟩
        rintro e w2 ⟨rfl, hb2⟩
        have hbx : Below wr.heap.size wr (w2.alloc (.cells #[.int .u8 0, .slice none 0 0] 28)) := hb2.alloc hb2.size _
        have HJ2 : Hid (J pre (w2.alloc (.cells #[.int .u8 0, .slice none 0 0] 28))) := Lib.hid (HJ.out _ wr _ none hj.out (grown_of hbx none) (fun r e => by cases e))
        clear hb2 hbx hcw
        gi_wp2
        refine ⟨fun _ h => (by cases h), ?_⟩
        gi_wp2
        refine bodyPost_ret (results_none rfl _ _ _) rfl ?_
        exact ⟨⟨_, rfl⟩, .inl ⟨pre, HS.out, HJ2.out⟩⟩
      · obtain ⟨b, off, rfl, hb, _⟩ := hRw.2 (by omega)
        have hrd := rb_drop hRw (m := p) (by omega)
        rw [e1] at hrd
        have s1 := take_err (some ⟨b, off + p, none⟩) (n - p) (n - p) r wr hrd (Nat.le_refl _) he
        obtain ⟨E, hE⟩ : ∃ E, errT r = E := ⟨_, rfl⟩
        rw [hE] at s1 he
        have e0 : ((E : Int) == 0) = false := by rw [beq_eq_false_iff_ne]; omega
        have e0' : ((E : Int) != 0) = true := by rw [bne_iff_ne]; omega
        have S1 := Lib.hid s1
        have qn : ¬ n = p := by omega
        clear e1 e2 hrd hp s1 hRw he hE hlt
        gi_wp2_with fail
        refine ⟨trivial, (callsIn_wide.2 S1.out).mono ?_⟩
        rintro e w2 ⟨rfl, hb2⟩
        have hbx : Below wr.heap.size wr (w2.alloc (.cells #[.int .u8 0, .slice none 0 0] 28)) := hb2.alloc hb2.size _
        have HJ2 : Hid (J pre (w2.alloc (.cells #[.int .u8 0, .slice none 0 0] 28))) := Lib.hid (HJ.out _ wr _ none hj.out (grown_of hbx none) (fun r e => by cases e))
        clear hb2 hbx hcw
        gi_wp2
        refine ⟨fun _ h => (by cases h), ?_⟩
        gi_wp2
        refine bodyPost_ret (results_none rfl _ _ _) rfl ?_
        exact ⟨⟨_, rfl⟩, .inl ⟨pre, HS.out, HJ2.out⟩⟩
theorem walk_tells (k : Nat) (hk : 1 ≤ k) (Bn n₀ n c : Nat) (A : Option Addr) (xs : List UInt8) (fs : List Fr) (r : List UInt8) (hcut : Cut xs fs r) (w : World) (hBn : Bn < w.heap.size) (hn₀ : n₀ ≤ w.heap.size)
    (hc : w.cell? ⟨Bn, 0, none⟩ = some (.slice A n c)) (hR : RBb n₀ w A n xs) (hnc : n ≤ c) (hn : n ≤ 140737488355328) :
    SeqTells Fence.wide k Try.prog 79 #[.pointer (some ⟨Bn, 0, none⟩)] itemEncs itemR (KpB n₀ Bn) (ItS fs) (ItP fs) fs.length w :=
  SeqTells.weaken (walk_tellsS (fun k => k < n₀ ∨ k = Bn) k hk Bn n c A xs fs r hcut w (.inr rfl) (fun b off e h => .inl (hR.2 b off e h)) (fun k h => by omega) hc hR.1 hnc hn)
    (fun W W' h => ⟨h.1.size, fun k hk => by
      rcases hk with h1 | h1
      · exact h.1.block k h1
      · rw [h1]; exact h.2⟩)
end Go.Proofs.Ytjbemjnofnifaaa

/-
  End, walked (layer 3).
-/
namespace Go.Proofs.Ytjbemjnofnifaaa
open Go.RowKit Go.Shelf Go.Rel
set_option linter.unusedSimpArgs false
attribute [local go_sem] Oper.semAt_some

theorem walk_any (A : Option Addr) (n c : Nat) (w : World) : Calls Try.prog 63 #[.slice A n c] w fun e w' => e = .returned (.func (.func 79) #[] #[.pointer (some ⟨w.heap.size, 0, none⟩)]) ∧ w' = w.alloc (.cells #[.slice A n c] 26) := by
  go_enter Try.func63, Try.ntmps63
  go_wp2
  go_ret
  exact ⟨rfl, rfl⟩

/-- The place behind the last of what has come. -/
def endOf (pre : List Item) : Int := match pre.getLast? with | some x => (x.p : Int) + ((x.f.b.length : Int) + 7) | none => 0
theorem endOf_nil : endOf [] = 0 := rfl
theorem endOf_snoc (pre : List Item) (x : Item) : endOf (pre ++ [x]) = (x.p : Int) + ((x.f.b.length : Int) + 7) := by simp [endOf]
theorem endOf_told {fs : List Fr} {k : Nat} (hk : k ≤ fs.length) {pre : List Item} (h : pre.map Item.key = told fs k) : endOf pre = (placeOf fs k : Int) := by
  cases k with
  | zero =>
    have : pre = [] := by simpa [told] using h
    subst this
    rw [placeOf_zero]; rfl
  | succ k =>
    have hl : pre ≠ [] := by
      intro e
      subst e
      have := congrArg List.length h
      rw [told_length] at this
      simp at this
    rw [told_succ fs (by omega)] at h
    obtain ⟨pre', x, rfl⟩ : ∃ pre' x, pre = pre' ++ [x] := ⟨pre.dropLast, pre.getLast hl, (List.dropLast_concat_getLast hl).symm⟩
    rw [List.map_append] at h
    have h2 := (List.append_inj' h rfl).2
    simp only [List.map_cons, List.map_nil, List.cons.injEq, and_true, Item.key, Prod.mk.injEq] at h2
    rw [endOf_snoc, placeOf_succ fs (by omega), h2.1, h2.2]
    omega

/-- What a round's frame knows of its item. -/
def itemAx (mk : Item → Nat → Act) (x : Item) (a : Act) (W : World) : Prop :=
  ∃ Bx, W.cell? ⟨Bx, 0, none⟩ = some (.int .u8 (x.f.k.toNat : Int)) ∧ W.cell? ⟨Bx, 1, none⟩ = some (.slice x.A x.f.b.length x.c) ∧ itemR x W ∧ a = mk x Bx
theorem rb_kept {W W' : World} {row : Option Nat} {A : Option Addr} {n : Nat} {xs : List UInt8} (h : RB W A n xs) (hg : W.grownBy W' row) (hr : ∀ r, row = some r → ∃ o : Obj, W.heap[r]? = some o ∧ o.isCells = false) : RB W' A n xs := by
  refine ⟨h.1, fun hn => ?_⟩
  obtain ⟨b, off, e, hlt, hc⟩ := h.2 hn
  exact ⟨b, off, e, Nat.lt_of_lt_of_le hlt hg.size, fun j hj => cell_kept (hc j hj) hg hr⟩
theorem itemAx_own (B : Nat) (mk : Item → Nat → Act) (x : Item) (a : Act) : OwnFrom B (fun (_ : Unit) W => itemAx mk x a W) := fun _ _ _ _ ⟨Bx, h0, h1, ⟨⟨⟨hR, h2⟩, ht⟩, h3⟩, h4⟩ hg hr =>
  ⟨Bx, cell_kept h0 hg (fun r e => (hr r e).2), cell_kept h1 hg (fun r e => (hr r e).2), ⟨⟨⟨rb_kept hR hg (fun r e => (hr r e).2), h2⟩, ht.grown hg (fun r e cur h => by obtain ⟨_, o, ho, hn⟩ := hr r e; rw [ho] at h; cases h; cases hn)⟩, h3⟩, h4⟩

def endR (S S' : Value) (E n ER : Nat) : Nat → Value → World → Prop
  | 0, v, _ | 3, v, _ | 11, v, _ => v = .int .i64 (E : Int)
  | 1, v, w => ∃ g, v = .slice (some ⟨g, 0, none⟩) 5 5 ∧ HasB w g
  | 2, v, _ | 4, v, _ | 6, v, _ => v = S
  | 5, v, _ | 7, v, _ => v = .int .i64 (n : Int)
  | 8, v, _ => v = S'
  | 9, v, w => ∃ g, v = .slice (some ⟨g, 0, none⟩) 1 1 ∧ g < w.heap.size ∧ w.cell? ⟨g, 0, none⟩ = some S'
  | _, v, _ => v = .int .i64 (ER : Int)
theorem endR_stable (S S' : Value) (E n ER : Nat) : ∀ i v w w', endR S S' E n ER i v w → Go.Rel.Grew w w' → endR S S' E n ER i v w'
  | 0, _, _, _, h, _ | 2, _, _, _, h, _ | 3, _, _, _, h, _ | 4, _, _, _, h, _ | 5, _, _, _, h, _ | 6, _, _, _, h, _ | 7, _, _, _, h, _ | 8, _, _, _, h, _ | 10, _, _, _, h, _ | 11, _, _, _, h, _ | _ + 12, _, _, _, h, _ => h
  | 1, _, _, _, ⟨g, e, h⟩, k => ⟨g, e, h.below k⟩
  | 9, _, _, _, ⟨g, e, h1, h2⟩, k => ⟨g, e, Nat.lt_of_lt_of_le h1 k.size, (k.cell (p := ⟨g, 0, none⟩) h1).trans h2⟩

theorem ownFrom_size {β : Type} (B m : Nat) : OwnFrom B (fun (_ : β) W => m ≤ W.heap.size) := fun _ _ _ _ hs hg _ => Nat.le_trans hs hg.size

set_option maxHeartbeats 4000000 in
set_option maxRecDepth 100000 in
theorem end_any (A : Option Addr) (n c : Nat) (xs : List UInt8) (fs : List Fr) (r : List UInt8) (hcut : Cut xs fs r) (w : World) (hR : RB w A n xs) (hnc : n ≤ c) (hn : n ≤ 140737488355328) :
    Calls Try.prog 62 #[.slice A n c] w fun e w' => e = .returned (.tuple #[.int .i64 ((placeOf fs fs.length : Nat) : Int), .int .i64 (errE r : Int)]) ∧ Below w.heap.size w w' := by
  refine (callsIn_wide (n := 3)).1 ?_
  have HR := Lib.hid hR
  have HCut := Lib.hid hcut
  have hW2 := walk_tells (3 - 1) (by omega) (w.heap.size + 1) w.heap.size n c A xs fs r hcut ((w.alloc (.cells #[.int .i64 0] 3)).alloc (.cells #[.slice A n c] 26)) (by simp) (by simp; omega)
    (by
      have := cell_of_row ((w.alloc (.cells #[.int .i64 0] 3)).alloc (.cells #[.slice A n c] 26)) (w.heap.size + 1) 0 #[.slice A n c] 26 (0, 0) (by
        have := heap_alloc_new (w.alloc (.cells #[.int .i64 0] 3)) (.cells #[.slice A n c] 26)
        rwa [World.size_alloc] at this)
      exact this)
    ⟨(hR.alloc _).alloc _, fun b off e h0 => by obtain ⟨b', o', e', hlt, _⟩ := hR.2 h0; rw [e] at e'; cases e'; exact hlt⟩ hnc hn
  have HSeq := Lib.hid hW2
  have bE := Boxed.new w 3 (.int .i64 0)
  have hB0 : Below w.heap.size w ((w.alloc (.cells #[.int .i64 0] 3)).alloc (.cells #[.slice A n c] 26)) := ((Below.refl _ w).alloc (Nat.le_refl _) _).alloc (by simp) _
  have HBE := Lib.hid (bE.alloc (.cells #[.slice A n c] 26))
  have HB0 := Lib.hid hB0
  clear hR hcut hW2 bE hB0
  refine callsIn_of_wp_marks Try.func62 rfl trivial ?_ rfl
  simp only [Try.ntmps62, List.size_toArray, List.length_cons, List.length_nil, Nat.reduceAdd, Nat.reduceSub, Array.replicate_succ, Array.replicate_zero, List.push_toArray, List.append_toArray, List.nil_append, List.cons_append]
  gi_wp2_with fail
  refine ⟨trivial, (callsIn_wide.2 (walk_any A n c _)).mono ?_⟩
  rintro e w' ⟨rfl, rfl⟩
  gi_wp2
  refine wpIn_range_tells rfl (by omega) (gf := 79) (lb := #[.pointer (some ⟨w.heap.size + 1, 0, none⟩)]) (by simp [go_sem]) trivial (enters_of Try.func79 (by kernel_rfl) rfl) HSeq.out kpB_t (kpB_b (by simp; omega) (by simp)) (Below.refl _ _) (fun _ => rfl)
    (fun pre W => (Boxed W w.heap.size 3 (.int .i64 (endOf pre)) ∧ Below w.heap.size w W) ∧ w.heap.size + 2 ≤ W.heap.size)
    (fun _ _ _ => False)
    (OwnFrom.and (OwnFrom.and (Own.from (boxed_own w.heap.size 3 (fun pre => .int .i64 (endOf pre))) _) (ownFrom_below (Nat.le_refl _) (by simp; omega))) (ownFrom_size _ _))
    (fun _ _ _ _ _ hs _ _ => hs)
    ⟨⟨HBE.out, HB0.out⟩, by simp⟩
    (itemAx (fun x Bx => { tmps := #[.slice A n c, undef, .int .i64 0, .int .i64 0, .pointer (some ⟨w.heap.size, 0, none⟩), .int .i64 (x.p : Int), .pointer (some ⟨Bx, 0, none⟩), .slice A n c, .func (.func 79) #[] #[.pointer (some ⟨w.heap.size + 1, 0, none⟩)], .int .i64 (x.p : Int), frV x.f x.A x.c, undef, undef, undef, undef, undef, undef, undef, undef, undef, undef, undef, undef, undef, undef, undef, undef, undef, undef, undef, undef, undef, undef], defers := [] }))
    (itemAx_own _ _) ?assign ?body ?done ?stop
  case assign =>
    rintro l pre x W K ⟨⟨hb, hB⟩, hz⟩ hR' hK
    unfold itemEncs frV
    gi_wp2
    have hbx : Below W.heap.size W (W.alloc (.cells #[.int .u8 (x.f.k.toNat : Int), .slice x.A x.f.b.length x.c] 28)) := (Below.refl _ W).alloc (Nat.le_refl _) _
    obtain ⟨q0, q1, _, _⟩ := box2 (Below.refl (W.heap.size + 1) (W.alloc (.cells #[.int .u8 (x.f.k.toNat : Int), .slice x.A x.f.b.length x.c] 28)))
    exact hK _ _ ((KeepsOthers.alloc _ _).from _) (kpB_of hbx (by omega) (by omega)) ⟨⟨hb.alloc _, hB.alloc hB.size _⟩, by simp; omega⟩ ⟨W.heap.size, q0, q1, ⟨⟨hR'.1.1.below hbx, hR'.1.2.grown (grown_of hbx none) (fun r e => by cases e)⟩, hR'.2⟩, rfl⟩
  case body =>
    rintro l pre x a' W hl ⟨r0, hr0⟩ ⟨⟨hb, hB⟩, hz⟩ ⟨Bx, q0, q1, ⟨hR', hxl, hxp⟩, rfl⟩ hlt
    obtain ⟨ln, hln⟩ : ∃ ln, x.f.b.length = ln := ⟨_, rfl⟩
    obtain ⟨p, hp⟩ : ∃ p, x.p = p := ⟨_, rfl⟩
    have s1 := size_any (ln : Int) W
    rw [hln] at hxl q1
    rw [hp] at hxp
    rw [sizeI_in hxl] at s1
    have HE : Hid (endOf (pre ++ [x]) = (p : Int) + ((ln : Int) + 7)) := Lib.hid (by rw [endOf_snoc, hln, hp])
    have hcE := hb.cell
    have hfE := hb.frozen
    have HBx := Lib.hid hb
    have HBW := Lib.hid hB
    unfold frV
    dsimp only
    rw [hln, hp]
    clear hb hB hln hp hR' hr0
    gi_wp2_with fail
    refine ⟨trivial, (CallsIn.inRound l (callsIn_wide.2 s1)).mono ?_⟩
    rintro e w1 ⟨rfl, rfl⟩
    clear s1
    gi_wp2
    refine ⟨(KeepsOthers.setCell _ _ _).from _, ⟨(Below.refl _ _).setCell (p := ⟨w.heap.size, 0, none⟩) (Nat.le_refl _) _, ?_⟩, ⟨⟨?_, HBW.out.setCell (p := ⟨w.heap.size, 0, none⟩) (Nat.le_refl _) _⟩, ?_⟩⟩
    · exact (grown_set W w.heap.size 0 _).block _ (by omega) (by simp)
    · rw [HE.out]; exact HBx.out.set _
    · have := (grown_set W w.heap.size 0 (.int .i64 ((p : Int) + ((ln : Int) + 7)))).size
      exact Nat.le_trans hz this
  case done =>
    rintro D ys W hD hS ⟨⟨hb, hB⟩, hz⟩ hK
    obtain ⟨E, hE⟩ : ∃ E, placeOf fs fs.length = E := ⟨_, rfl⟩
    rw [endOf_told (Nat.le_refl _) hS, hE] at hb
    have hce := cut_end HCut.out
    rw [hE] at hce
    have HPE := Lib.hid hE
    have hcE := hb.cell
    have hDl : D < W.heap.size := (Array.getElem?_eq_some_iff.1 hK).1
    have HBW := Lib.hid hB
    have HK := Lib.hid hK
    have hD1 : w.heap.size ≤ D := by simp at hD; omega
    have hln : xs.length = n := HR.out.1
    obtain ⟨hc1, hc2⟩ := hce
    rw [hln] at hc2
    by_cases hr : r.length = 0
    · obtain rfl : E = n := by omega
      have HEE : Hid (errE r = 0) := Lib.hid (by unfold errE; rw [if_pos hr])
      clear hE hc1 hc2 hln hr hS
      gi_wp2
      refine ⟨by simp, .inl ⟨_, _, rfl, run_takeDeferred hK, ?_⟩⟩
      refine ⟨_, results_tmp2 rfl _ _ _, ?_, ?_⟩
      · rw [HPE.out, HEE.out]; rfl
      · exact HBW.out.trans (belowK_b (w := w) (Nat.le_refl _) W D _ _ hD1 hK rfl rfl)
    · have HEE : Hid (errE r = errT r) := Lib.hid (by unfold errE; rw [if_neg hr])
      have hEn : E < n := by omega
      have qn : ¬ n = E := by omega
      have qE : ((E : Int) == (n : Int)) = false := by rw [beq_eq_false_iff_ne]; omega
      obtain ⟨b, off, rfl, hbl, _⟩ := HR.out.2 (by omega)
      have hrd : RB w (some ⟨b, off + E, none⟩) (n - E) r := by
        have := rb_drop HR.out (m := E) (by omega)
        rwa [hc1] at this
      have HRd := Lib.hid hrd
      obtain ⟨ER, hER⟩ : ∃ e, errT r = e := ⟨_, rfl⟩
      have HER := Lib.hid hER
      clear hc1 hc2 hr hS hE hln hrd hER
      gi_wp2
      refine wpIn_wide.2 ?_
      refine Go.Rel.wp_region_grew (by kernel_rfl) (by kernel_rfl) (by kernel_rfl) (by kernel_rfl) (endR (.slice (some ⟨b, off, none⟩) n c) (.slice (some ⟨b, off + E, none⟩) (n - E) (n - E)) E n ER) (endR_stable _ _ _ _ _) ?hsteps ?hend
      case hsteps =>
        refine .cons ?_ (.cons ?_ (.cons ?_ (.cons ?_ (.cons ?_ (.cons ?_ (.cons ?_ (.cons ?_ (.cons ?_ (.cons ?_ (.cons ?_ (.cons ?_ (.cons ?_ .nil))))))))))))
        · intro a w' hle hs' hd K hK
          have s0 : a.tmps[4]? = some (.pointer (some ⟨w.heap.size, 0, none⟩)) := hs'.2.2 4 (by kernel_rfl)
          have q0 := (hle.cell (p := ⟨w.heap.size, 0, none⟩) (bcell_lt hcE)).trans hcE
          unfold Go.Rel.stepOf
          go_simp
          exact hK _ _ (Go.Rel.Grew.refl _) rfl
        · intro a w' hle hs' hd K hK
          have s5 := ofBytes_any w'
          unfold Go.Rel.stepOf
          go_simp
          refine s5.mono ?_
          rintro e w2 ⟨rfl, h5, hb5⟩
          exact hK _ _ hb5 ⟨_, rfl, h5⟩
        · intro a w' hle hs' hd K hK
          have s0 : a.tmps[0]? = some (.slice (some ⟨b, off, none⟩) n c) := hs'.2.2 0 (by kernel_rfl)
          unfold Go.Rel.stepOf
          go_simp
          exact hK _ _ (Go.Rel.Grew.refl _) rfl
        · intro a w' hle hs' hd K hK
          have s0 : a.tmps[4]? = some (.pointer (some ⟨w.heap.size, 0, none⟩)) := hs'.2.2 4 (by kernel_rfl)
          have q0 := (hle.cell (p := ⟨w.heap.size, 0, none⟩) (bcell_lt hcE)).trans hcE
          unfold Go.Rel.stepOf
          go_simp
          exact hK _ _ (Go.Rel.Grew.refl _) rfl
        · intro a w' hle hs' hd K hK
          have s0 : a.tmps[0]? = some (.slice (some ⟨b, off, none⟩) n c) := hs'.2.2 0 (by kernel_rfl)
          unfold Go.Rel.stepOf
          go_simp
          exact hK _ _ (Go.Rel.Grew.refl _) rfl
        · intro a w' hle hs' hd K hK
          obtain ⟨_, t1, rfl⟩ := hd 4 26 (by kernel_rfl)
          unfold Go.Rel.stepOf
          go_simp
          exact hK _ _ (Go.Rel.Grew.refl _) rfl
        · intro a w' hle hs' hd K hK
          have s0 : a.tmps[0]? = some (.slice (some ⟨b, off, none⟩) n c) := hs'.2.2 0 (by kernel_rfl)
          unfold Go.Rel.stepOf
          go_simp
          exact hK _ _ (Go.Rel.Grew.refl _) rfl
        · intro a w' hle hs' hd K hK
          obtain ⟨_, t1, rfl⟩ := hd 6 28 (by kernel_rfl)
          unfold Go.Rel.stepOf
          go_simp
          exact hK _ _ (Go.Rel.Grew.refl _) rfl
        · intro a w' hle hs' hd K hK
          obtain ⟨_, t1, rfl⟩ := hd 2 24 (by kernel_rfl)
          obtain ⟨_, t2, rfl⟩ := hd 3 25 (by kernel_rfl)
          obtain ⟨_, t3, rfl⟩ := hd 5 27 (by kernel_rfl)
          obtain ⟨_, t4, rfl⟩ := hd 7 29 (by kernel_rfl)
          have g0 : (0 : Int) ≤ (E : Int) := by omega
          have g1 : (E : Int) ≤ (n : Int) := by omega
          unfold Go.Rel.stepOf
          go_simp
          exact hK _ _ (Go.Rel.Grew.refl _) rfl
        · intro a w' hle hs' hd K hK
          obtain ⟨_, t1, rfl⟩ := hd 8 30 (by kernel_rfl)
          unfold Go.Rel.stepOf
          go_simp
          refine hK _ _ ((Below.refl _ _).alloc (Nat.le_refl _) _) ⟨w'.heap.size, rfl, by simp, ?_⟩
          rw [cell_of_row _ w'.heap.size 0 _ _ (0, 0) (heap_alloc_new w' _)]; rfl
        · intro a w' hle hs' hd K hK
          obtain ⟨_, t1, g1, rfl, h1⟩ := hd 1 23 (by kernel_rfl)
          obtain ⟨_, t2, g2, rfl, h2, h3⟩ := hd 9 31 (by kernel_rfl)
          have s5 := faultB_any g1 g2 0 1 (n - E) (n - E) _ r w' h1 h2 h3 (HRd.out.below (HBW.out.trans (hle.mono HBW.out.size))) (Nat.le_refl _)
          rw [HER.out] at s5
          unfold Go.Rel.stepOf
          go_simp
          refine s5.mono ?_
          rintro e w2 ⟨rfl, hb5⟩
          exact hK _ _ hb5 rfl
        · intro a w' hle hs' hd K hK
          obtain ⟨_, t1, rfl⟩ := hd 0 22 (by kernel_rfl)
          unfold Go.Rel.stepOf
          go_simp
          exact hK _ _ (Go.Rel.Grew.refl _) rfl
        · intro a w' hle hs' hd K hK
          obtain ⟨_, t1, rfl⟩ := hd 10 32 (by kernel_rfl)
          unfold Go.Rel.stepOf
          go_simp
          exact hK _ _ (Go.Rel.Grew.refl _) rfl
      case hend =>
        intro a w' hle hs' hR'
        obtain ⟨_, s2, rfl⟩ := hR' 11 2 (by kernel_rfl)
        obtain ⟨_, s3, rfl⟩ := hR' 12 3 (by kernel_rfl)
        have hK' : w'.heap[D]? = some (.deferred (some [])) := (hle.block D hDl).trans HK.out
        have hBW' : Below w.heap.size w w' := HBW.out.trans (hle.mono HBW.out.size)
        have hdf := hs'.1
        clear hR' hs'
        obtain ⟨tm, df⟩ := a
        dsimp only at hdf s2 s3
        subst hdf
        gi_wp2
        refine ⟨by simp, .inl ⟨_, _, rfl, run_takeDeferred hK', ?_⟩⟩
        refine ⟨_, results_tmp2 rfl _ _ _, ?_, ?_⟩
        · rw [HPE.out, HEE.out, HER.out]; simp [s2, s3, Array.getD_eq_getD_getElem?]
        · exact hBW'.trans (belowK_b (w := w) (Nat.le_refl _) w' D _ _ hD1 hK' rfl rfl)
  case stop =>
    rintro D c' pre W _ _ h _
    exact h.elim
end Go.Proofs.Ytjbemjnofnifaaa
