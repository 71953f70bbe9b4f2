/-
  walk and Each: iterators over the frames of bytes (layer 3).
-/
import Derived.Test.YtjbemjnofnifaaaZj43
import Derived.RangeFuncNested
import Derived.RangeFuncBound
import Derived.RangeFuncCalls
import Derived.RangeFuncLeaves
import Derived.Shelf.Abstract
import Derived.Shelf.RegionOpen
import Derived.OwnWalkIn
import Derived.TacticsInMore
import Derived.LoopNIn
import Derived.LoopIn
namespace Go.Proofs.Ytjbemjnofnifaaa
open Go.RowKit Go.Shelf Go.Rel
set_option linter.unusedSimpArgs false
attribute [local go_sem] Oper.semAt_some

/-- What the iterator hands out: the place, the frame, and where its body lies. -/
structure Item where
  p : Nat
  f : Fr
  A : Option Addr
  c : Nat
def Item.key (x : Item) : Nat × Fr := (x.p, x.f)
def itemEncs (x : Item) : Array Value := #[.int .i64 (x.p : Int), frV x.f x.A x.c]
def itemR (x : Item) (W : World) : Prop := (BodyAt W x.A x.c x.f.b ∧ TyB W x.A x.f.b.length) ∧ x.f.b.length ≤ 1000 ∧ x.p ≤ 140737488355328
/-- What a round keeps that goes on: whatever lay below n₀, and the iterator's own variable. -/
def KpB (n₀ Bn : Nat) (W W' : World) : Prop := Below n₀ W W' ∧ W'.heap[Bn]? = W.heap[Bn]?
theorem kpB_t {n₀ Bn : Nat} {A B C : World} (h : KpB n₀ Bn A B) (k : KpB n₀ Bn B C) : KpB n₀ Bn A C := ⟨h.1.trans k.1, k.2.trans h.2⟩
theorem kpB_b {n₀ Bn : Nat} {w : World} (hn : n₀ ≤ w.heap.size) (hB : Bn < w.heap.size) (W : World) (l : Nat) (o o' : Obj) (hl : w.heap.size ≤ l) (h : W.heap[l]? = some o) (h1 : o.isCells = false) (h2 : o.isWalk = false) : KpB n₀ Bn W (W.putObj l o') :=
  ⟨belowK_b hn W l o o' hl h h1 h2, World.putObj_heap_other (by omega)⟩
theorem kpB_of {n₀ Bn : Nat} {W W' : World} (h : Below W.heap.size W W') (hn : n₀ ≤ W.heap.size) (hB : Bn < W.heap.size) : KpB n₀ Bn W W' := ⟨h.mono hn, h.block Bn hB⟩
/-- The first k frames and their places. -/
def told (fs : List Fr) (k : Nat) : List (Nat × Fr) := (List.range k).map fun i => (placeOf fs i, fs.getD i ⟨0, []⟩)
theorem told_length (fs : List Fr) (k : Nat) : (told fs k).length = k := by simp [told]
theorem told_succ (fs : List Fr) {k : Nat} (h : k < fs.length) : told fs (k + 1) = told fs k ++ [(placeOf fs k, fs[k])] := by
  rw [told, List.range_succ, List.map_append]
  simp [told, List.getD, List.getElem?_eq_getElem h]
def ItS (fs : List Fr) (xs : List Item) : Prop := xs.map Item.key = told fs fs.length
def ItP (fs : List Fr) (xs : List Item) : Prop := ∃ k, k ≤ fs.length ∧ xs.map Item.key = told fs k

theorem grown_of {w w' : World} (h : Below w.heap.size w w') (row : Option Nat) : w.grownBy w' row := ⟨h.os, h.tape, h.output, h.size, fun k hk _ => h.block k hk⟩

/-- A slice of bytes in blocks below B. -/
def RBb (B : Nat) (w : World) (A : Option Addr) (n : Nat) (xs : List UInt8) : Prop := RB w A n xs ∧ ∀ b off, A = some ⟨b, off, none⟩ → 0 < n → b < B
theorem RBb.below {B : Nat} {w w' : World} {A : Option Addr} {n : Nat} {xs : List UInt8} (h : RBb B w A n xs) (hb : Below B w w') : RBb B w' A n xs := by
  obtain ⟨⟨h1, h2⟩, h3⟩ := h
  refine ⟨⟨h1, fun hn => ?_⟩, h3⟩
  obtain ⟨b, off, e, hlt, hc⟩ := h2 hn
  exact ⟨b, off, e, Nat.lt_of_lt_of_le hlt hb.size, fun j hj => (hb.cell (p := ⟨b, off + j, none⟩) (h3 b off e hn)).trans (hc j hj)⟩

/-- What a round keeps that goes on: the blocks of S. -/
def KpS (S : Nat → Prop) (W W' : World) : Prop := W.heap.size ≤ W'.heap.size ∧ ∀ k, S k → W'.heap[k]? = W.heap[k]?
theorem kpS_t {S : Nat → Prop} {A B C : World} (h : KpS S A B) (k : KpS S B C) : KpS S A C := ⟨Nat.le_trans h.1 k.1, fun q hq => (k.2 q hq).trans (h.2 q hq)⟩
theorem kpS_b {S : Nat → Prop} {w : World} (hS : ∀ k, S k → k < w.heap.size) (W : World) (l : Nat) (o o' : Obj) (hl : w.heap.size ≤ l) (_ : W.heap[l]? = some o) (_ : o.isCells = false) (_ : o.isWalk = false) : KpS S W (W.putObj l o') :=
  ⟨(grownBy_putObj' W l o').size, fun k hk => World.putObj_heap_other (by have := hS k hk; omega)⟩
theorem kpS_of {S : Nat → Prop} {W W' : World} (h : Below W.heap.size W W') (hS : ∀ k, S k → k < W.heap.size) : KpS S W W' := ⟨h.size, fun k hk => h.block k (hS k hk)⟩
theorem RB.kpS {S : Nat → Prop} {W W' : World} {A : Option Addr} {n : Nat} {xs : List UInt8} (h : RB W A n xs) (hS : ∀ b off, A = some ⟨b, off, none⟩ → 0 < n → S b) (hk : KpS S W W') : RB W' A n xs := by
  refine ⟨h.1, fun hn => ?_⟩
  obtain ⟨b, off, e, hlt, hc⟩ := h.2 hn
  exact ⟨b, off, e, Nat.lt_of_lt_of_le hlt hk.1, fun j hj => (World.cell?_of_block (a := ⟨b, off + j, none⟩) (hk.2 b (hS b off e hn))).trans (hc j hj)⟩
theorem SeqTells.weaken {α : Type} {F : Fence} {n : Nat} {P : Program} {g : Nat} {lb : Array Value} {encs : α → Array Value} {R : α → World → Prop} {Kp Kp' : World → World → Prop} {S Sp : List α → Prop} {N : Nat} {w : World} (h : SeqTells F n P g lb encs R Kp S Sp N w) (hk : ∀ W W', Kp' W W' → Kp W W') : SeqTells F n P g lb encs R Kp' S Sp N w :=
  fun l J Jx W h1 h2 h3 hY h0 => h l J Jx W h1 h2 h3 (fun pre x W1 a b c => by
    obtain ⟨f, t, a', b', hy, hr⟩ := hY pre x W1 a b c
    exact ⟨f, t, a', b', hy, hr.mono fun e W' h => h.imp (fun ⟨q1, q2, q3⟩ => ⟨q1, q2, hk _ _ q3⟩) id⟩) h0

set_option maxHeartbeats 4000000 in
set_option maxRecDepth 100000 in
theorem walk_tellsS (S : Nat → Prop) (k : Nat) (hk : 1 ≤ k) (Bn n c : Nat) (A : Option Addr) (xs : List UInt8) (fs : List Fr) (r : List UInt8) (hcut : Cut xs fs r) (w : World) (hSB : S Bn) (hSd : ∀ b off, A = some ⟨b, off, none⟩ → 0 < n → S b) (hS : ∀ k, S k → k < w.heap.size)
    (hc : w.cell? ⟨Bn, 0, none⟩ = some (.slice A n c)) (hR : RB w A n xs) (hnc : n ≤ c) (hn : n ≤ 140737488355328) :
    SeqTells Fence.wide k Try.prog 79 #[.pointer (some ⟨Bn, 0, none⟩)] itemEncs itemR (KpS S) (ItS fs) (ItP fs) fs.length w := fun l J Jx W hW hJ hJx hY h0 => by
  have hl := hR.1
  have HW : Hid (KpS S w W) := Lib.hid (kpS_of hW hS)
  have HSd := Lib.hid hSd
  have HSS := Lib.hid hS
  clear hSd hS
  have HR := Lib.hid hR
  have HC := Lib.hid hc
  have HCut := Lib.hid hcut
  have HY := Lib.hid hY
  have HL := Lib.hid hl
  have HJ := Lib.hid hJ
  have HH0 := Lib.hid h0
  clear hR hc hcut hl hJx hY hJ h0
  refine callsIn_of_wp Try.func79 rfl trivial ?_ rfl
  simp only [Try.ntmps79, List.size_toArray, List.length_cons, List.length_nil, Nat.reduceAdd, Nat.reduceSub, Array.replicate_succ, Array.replicate_zero, List.push_toArray, List.append_toArray, List.nil_append, List.cons_append]
  gi_wp2
  gi_loopw [3] (fun at_ wr => ∃ (q : Nat) (pre : List Item), q ≤ fs.length ∧ at_ = .int .i64 ((placeOf fs q : Nat) : Int) ∧ Hid (pre.map Item.key = told fs q) ∧ Hid (J pre wr) ∧ Hid (KpS S w wr))
    (fun at_ _ => n - (intOf at_).toNat)
  case atStart => exact ⟨0, [], Nat.zero_le _, by rw [placeOf_zero]; rfl, Lib.hid rfl, HH0, HW⟩
  case round =>
    obtain ⟨q, pre, hq, rfl, hkey, hj, hbw⟩ := hrel
    have hcw : wr.cell? ⟨Bn, 0, none⟩ = some (.slice A n c) := (World.cell?_of_block (a := ⟨Bn, 0, none⟩) (hbw.out.2 Bn hSB)).trans HC.out
    have hRw := HR.out.kpS HSd.out hbw.out
    have hpl : placeOf fs q ≤ n := by
      have h1 := placeOf_le fs q
      have h2 := HCut.out.2.1
      have h3 := HL.out
      rw [h2, List.length_append] at h3
      omega
    obtain ⟨p, hp⟩ : ∃ p, placeOf fs q = p := ⟨_, rfl⟩
    rw [hp] at hpl ⊢
    have HP := Lib.hid hp
    by_cases hlt : q < fs.length
    · obtain ⟨e1, e2, e3⟩ := cut_at HCut.out hlt
      rw [hp] at e1 e2 e3
      have hpn : p < n := by
        have := errT_zero e1
        rw [List.length_drop, HL.out] at this
        omega
      obtain ⟨b, off, rfl, hb, _⟩ := hRw.2 (by omega)
      have hrd := rb_drop hRw (m := p) (by omega)
      have s1 := take_okT (some ⟨b, off + p, none⟩) (n - p) (n - p) (xs.drop p) wr hrd (Nat.le_refl _) e1
      rw [e2] at s1
      obtain ⟨f, hf⟩ : ∃ f, fs[q] = f := ⟨_, rfl⟩
      rw [hf] at s1
      have hfl : f.b.length ≤ 1000 := by rw [← hf]; exact (HCut.out.1 _ (List.getElem_mem hlt)).2
      have hp47 : p ≤ 140737488355328 := by omega
      have HF := Lib.hid hf
      have S1 := Lib.hid s1
      have qn : ¬ n = p := by omega
      clear e1 e2 e3 hrd hf hp s1 hRw
      gi_wp2_with fail
      refine ⟨trivial, (callsIn_wide.2 S1.out).mono ?_⟩
      rintro e w2 ⟨A2, c2, rfl, ⟨hbody, hty⟩, hb2⟩
      obtain ⟨ln, hln⟩ : ∃ ln, f.b.length = ln := ⟨_, rfl⟩
      obtain ⟨W3, hW3⟩ : ∃ W3, w2.alloc (.cells #[.int .u8 (f.k.toNat : Int), .slice A2 ln c2] 28) = W3 := ⟨_, rfl⟩
      have hb23 : Below w2.heap.size w2 W3 := by rw [← hW3]; exact (Below.refl _ _).alloc (Nat.le_refl _) _
      have hb3 : Below wr.heap.size wr W3 := hb2.trans (hb23.mono hb2.size)
      obtain ⟨d0, d1, _, _⟩ := box2 (Below.refl (w2.heap.size + 1) (w2.alloc (.cells #[.int .u8 (f.k.toNat : Int), .slice A2 ln c2] 28)))
      rw [hW3] at d0 d1
      obtain ⟨fn, tmps, assign, body, hy, hRd⟩ := HY.out pre ⟨p, f, A2, c2⟩ W3 (HJ.out _ wr W3 none hj.out (grown_of hb3 none) (fun r e => by cases e)) ⟨⟨hbody.below hb23, hty.grown (grown_of hb23 none) (fun r e => by cases e)⟩, hfl, hp47⟩ (by
        have := congrArg List.length hkey.out
        rw [List.length_map, told_length] at this
        omega)
      simp only [itemEncs, frV, hln] at hy
      have HRd := Lib.hid hRd
      have HB3 : Hid (KpS S w W3) := Lib.hid (kpS_t hbw.out (kpS_of hb3 (fun k hk => Nat.lt_of_lt_of_le (HSS.out k hk) hbw.out.1)))
      have HK2 : Hid ((pre ++ [(⟨p, f, A2, c2⟩ : Item)]).map Item.key = told fs (q + 1)) := Lib.hid (by
        rw [List.map_append, hkey.out, told_succ fs hlt, HF.out, HP.out]; rfl)
      have HPS : Hid (placeOf fs (q + 1) = p + (ln + 7)) := Lib.hid (by rw [placeOf_succ fs hlt, HP.out, HF.out, hln])
      have hp7 : p + (ln + 7) ≤ n := by
        have h1 := placeOf_le fs (q + 1)
        have h2 := HCut.out.2.1
        have h3 := HL.out
        rw [h2, List.length_append] at h3
        rw [HPS.out] at h1
        omega
      unfold frV
      rw [hln]
      clear hb2 hbody hty hb23 hb3 hln hcw hRd hfl
      gi_wp2
      refine HRd.out.mono ?_
      rintro e W4 (⟨rfl, hJ4, hk4⟩ | ⟨rfl, hJx4⟩)
      · have HJ4 := Lib.hid hJ4
        have HB4 : Hid (KpS S w W4) := Lib.hid (kpS_t HB3.out hk4)
        clear hJ4 hk4 hy
        gi_wp2
        go_roundw
        case rel => exact ⟨q + 1, pre ++ [⟨p, f, A2, c2⟩], hlt, by rw [HPS.out]; go_num, HK2, HJ4, HB4⟩
        case measure => simp [intOf]; omega
      · have HJx4 := Lib.hid hJx4
        clear hJx4 hy
        gi_wp2
        refine bodyPost_ret (results_none rfl _ _ _) rfl ?_
        exact ⟨⟨_, rfl⟩, .inr ⟨pre ++ [⟨p, f, A2, c2⟩], ⟨q + 1, hlt, HK2.out⟩, HJx4.out⟩⟩
    · obtain rfl : q = fs.length := by omega
      obtain ⟨e1, e2⟩ := cut_end HCut.out
      rw [hp] at e1 e2
      have he := HCut.out.2.2
      have HS : Hid (ItS fs pre) := Lib.hid hkey.out
      by_cases hpn : p = n
      · subst hpn
        have hr0 : r = [] := List.eq_nil_of_length_eq_zero (by have := HL.out; omega)
        have s1 := fun (A' : Option Addr) (w1 : World) => take_err A' 0 0 [] w1 (RB.zero _ _) (Nat.le_refl _) (by rw [errT_nil]; omega)
        rw [errT_nil] at s1
        have S1 := Lib.hid s1
        clear hp e1 e2 he hRw hr0 s1 hpl hlt
        gi_wp2_with fail
        refine ⟨trivial, (callsIn_wide.2 (S1.out A wr)).mono ?_⟩
        rintro e w2 ⟨rfl, hb2⟩
        have hbx : Below wr.heap.size wr (w2.alloc (.cells #[.int .u8 0, .slice none 0 0] 28)) := hb2.alloc hb2.size _
        have HJ2 : Hid (J pre (w2.alloc (.cells #[.int .u8 0, .slice none 0 0] 28))) := Lib.hid (HJ.out _ wr _ none hj.out (grown_of hbx none) (fun r e => by cases e))
        clear hb2 hbx hcw
        gi_wp2
        refine ⟨fun _ h => (by cases h), ?_⟩
        gi_wp2
        refine bodyPost_ret (results_none rfl _ _ _) rfl ?_
        exact ⟨⟨_, rfl⟩, .inl ⟨pre, HS.out, HJ2.out⟩⟩
      · obtain ⟨b, off, rfl, hb, _⟩ := hRw.2 (by omega)
        have hrd := rb_drop hRw (m := p) (by omega)
        rw [e1] at hrd
        have s1 := take_err (some ⟨b, off + p, none⟩) (n - p) (n - p) r wr hrd (Nat.le_refl _) he
        obtain ⟨E, hE⟩ : ∃ E, errT r = E := ⟨_, rfl⟩
        rw [hE] at s1 he
        have e0 : ((E : Int) == 0) = false := by rw [beq_eq_false_iff_ne]; omega
        have e0' : ((E : Int) != 0) = true := by rw [bne_iff_ne]; omega
        have S1 := Lib.hid s1
        have qn : ¬ n = p := by omega
        clear e1 e2 hrd hp s1 hRw he hE hlt
        gi_wp2_with fail
        refine ⟨trivial, (callsIn_wide.2 S1.out).mono ?_⟩
        rintro e w2 ⟨rfl, hb2⟩
        have hbx : Below wr.heap.size wr (w2.alloc (.cells #[.int .u8 0, .slice none 0 0] 28)) := hb2.alloc hb2.size _
        have HJ2 : Hid (J pre (w2.alloc (.cells #[.int .u8 0, .slice none 0 0] 28))) := Lib.hid (HJ.out _ wr _ none hj.out (grown_of hbx none) (fun r e => by cases e))
        clear hb2 hbx hcw
        gi_wp2
        refine ⟨fun _ h => (by cases h), ?_⟩
        gi_wp2
        refine bodyPost_ret (results_none rfl _ _ _) rfl ?_
        exact ⟨⟨_, rfl⟩, .inl ⟨pre, HS.out, HJ2.out⟩⟩
theorem walk_tells (k : Nat) (hk : 1 ≤ k) (Bn n₀ n c : Nat) (A : Option Addr) (xs : List UInt8) (fs : List Fr) (r : List UInt8) (hcut : Cut xs fs r) (w : World) (hBn : Bn < w.heap.size) (hn₀ : n₀ ≤ w.heap.size)
    (hc : w.cell? ⟨Bn, 0, none⟩ = some (.slice A n c)) (hR : RBb n₀ w A n xs) (hnc : n ≤ c) (hn : n ≤ 140737488355328) :
    SeqTells Fence.wide k Try.prog 79 #[.pointer (some ⟨Bn, 0, none⟩)] itemEncs itemR (KpB n₀ Bn) (ItS fs) (ItP fs) fs.length w :=
  SeqTells.weaken (walk_tellsS (fun k => k < n₀ ∨ k = Bn) k hk Bn n c A xs fs r hcut w (.inr rfl) (fun b off e h => .inl (hR.2 b off e h)) (fun k h => by omega) hc hR.1 hnc hn)
    (fun W W' h => ⟨h.1.size, fun k hk => by
      rcases hk with h1 | h1
      · exact h.1.block k h1
      · rw [h1]; exact h.2⟩)
end Go.Proofs.Ytjbemjnofnifaaa
