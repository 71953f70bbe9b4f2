import Derived.Test.YtaicipldjmngaaaGreatDoorZj46
import Derived.Test.YtaicipldjmngaaaGreatDoorZj20
import Derived.Test.YtaicipldjmngaaaGreatDoorZj47
import Derived.Test.YtaicipldjmngaaaGreatDoorZj48
import Derived.Test.YtaicipldjmngaaaGreatDoorZj3
import Derived.Test.YtaicipldjmngaaaGreatDoorZj36
import Derived.Test.YtaicipldjmngaaaGreatDoorZj35
import Derived.Test.YtaicipldjmngaaaGreatDoorZj12
namespace Go.Proofs.YtaicipldjmngaaaGreatDoor.dr
end Go.Proofs.YtaicipldjmngaaaGreatDoor.dr
namespace Go.Proofs.YtaicipldjmngaaaGreatDoor.wh
end Go.Proofs.YtaicipldjmngaaaGreatDoor.wh
namespace Go.Proofs.YtaicipldjmngaaaGreatDoor.ro
end Go.Proofs.YtaicipldjmngaaaGreatDoor.ro
namespace Go.Proofs.YtaicipldjmngaaaGreatDoor.ru
end Go.Proofs.YtaicipldjmngaaaGreatDoor.ru
namespace Go.Proofs.YtaicipldjmngaaaGreatDoor.db
end Go.Proofs.YtaicipldjmngaaaGreatDoor.db
namespace Go.Proofs.YtaicipldjmngaaaGreatDoor.pr
end Go.Proofs.YtaicipldjmngaaaGreatDoor.pr
namespace Go.Proofs.YtaicipldjmngaaaGreatDoor.sp
end Go.Proofs.YtaicipldjmngaaaGreatDoor.sp
namespace Go.Proofs.YtaicipldjmngaaaGreatDoor.sw
open Go.Proofs.YtaicipldjmngaaaGreatDoor.dr Go.Proofs.YtaicipldjmngaaaGreatDoor.wh Go.Proofs.YtaicipldjmngaaaGreatDoor.ro Go.Proofs.YtaicipldjmngaaaGreatDoor.ru Go.Proofs.YtaicipldjmngaaaGreatDoor.db Go.Proofs.YtaicipldjmngaaaGreatDoor.pr Go.Proofs.YtaicipldjmngaaaGreatDoor.sp
open Go.RowKit
set_option linter.unusedVariables false
set_option linter.unusedSimpArgs false
section
variable {nv : Nv} {l : Nat → Nat} {W W0 : World} {s : Sw} {x : Nc}
theorem Sw.Base.small {s : Sw} (h : s.Base) : s.ro.small := fun n u hu => by
  have := h.wide n u hu
  unfold Up.wide at this
  omega
theorem _root_.Go.Proofs.YtaicipldjmngaaaGreatDoor.But.whs {w w' : World} (h : But (WhS l w) w w') : But (fun k => l k = 3) w w' := ⟨h.os, h.tape, h.output, h.size, fun k hk hn => h.block k hk (fun e => by rcases e with e | e; exact hn e; omega)⟩
theorem nd_set (h : NdX nv l W s x) (id n : Int) (hid : wh.wfI id) (hn : wh.wfI n) (hN : s.wh.now ≤ 1000000) :
    Calls Tryz.prog 67 #[.pointer (some ⟨nv.Bw, 0, none⟩), .int .i64 id, .int .i64 n] W fun e w' => e = .returned (.bool (s.wh.may id n)) ∧ ∃ l', NdX nv l' w' (s.set id n) x ∧ Goes l l' W w' := by
  refine (wh.set_at (WhS l W) W nv.Bw s.wh h.whAt (WhS.up l W) id n hid hn (by omega)).mono ?_
  rintro e w' ⟨h1, h2, h3⟩
  exact ⟨h1, _, h.partW h3 h2 (fun k hk => hk)⟩
end
end Go.Proofs.YtaicipldjmngaaaGreatDoor.sw

namespace Go.Proofs.YtaicipldjmngaaaGreatDoor.dr
end Go.Proofs.YtaicipldjmngaaaGreatDoor.dr
namespace Go.Proofs.YtaicipldjmngaaaGreatDoor.wh
end Go.Proofs.YtaicipldjmngaaaGreatDoor.wh
namespace Go.Proofs.YtaicipldjmngaaaGreatDoor.ro
end Go.Proofs.YtaicipldjmngaaaGreatDoor.ro
namespace Go.Proofs.YtaicipldjmngaaaGreatDoor.ru
end Go.Proofs.YtaicipldjmngaaaGreatDoor.ru
namespace Go.Proofs.YtaicipldjmngaaaGreatDoor.db
end Go.Proofs.YtaicipldjmngaaaGreatDoor.db
namespace Go.Proofs.YtaicipldjmngaaaGreatDoor.pr
end Go.Proofs.YtaicipldjmngaaaGreatDoor.pr
namespace Go.Proofs.YtaicipldjmngaaaGreatDoor.sp
end Go.Proofs.YtaicipldjmngaaaGreatDoor.sp
namespace Go.Proofs.YtaicipldjmngaaaGreatDoor.sw
open Go.Proofs.YtaicipldjmngaaaGreatDoor.dr Go.Proofs.YtaicipldjmngaaaGreatDoor.wh Go.Proofs.YtaicipldjmngaaaGreatDoor.ro Go.Proofs.YtaicipldjmngaaaGreatDoor.ru Go.Proofs.YtaicipldjmngaaaGreatDoor.db Go.Proofs.YtaicipldjmngaaaGreatDoor.pr Go.Proofs.YtaicipldjmngaaaGreatDoor.sp
open Go.RowKit
set_option linter.unusedVariables false
set_option linter.unusedSimpArgs false
def nwR (S : Nat → Prop) (c : Cf) (me : Int) (Br : Nat) (X : Nat) (A : Option Addr) (n : Nat) (cc : Nat) : Nat → Value → World → Prop
  | 0, v, _ => v = .agg #[.int .i64 c.period, .int .i64 c.wait, .int .i64 c.indirect, .int .i64 c.least, .int .i64 c.most, .int .i64 c.want, .int .i64 c.mult, .int .i64 c.piggy, .int .i64 c.gossip, .int .i64 c.fanout, .int .i64 c.sync]
  | 1, v, _ => v = .int .i64 me
  | 2, v, _ => v = .pointer (some ⟨Br, 0, none⟩)
  | 3, v, _ => v = .pointer (some ⟨X, 6, none⟩)
  | 4, v, _ => v = .int .i64 c.mult
  | 5, v, w => True
  | 6, v, w => True
  | 7, v, w => True
  | 8, v, _ => v = .slice A n cc
  | 9, v, w => True
  | 10, v, w => True
  | 11, v, w => True
  | 12, v, w => True
  | 13, v, w => True
  | 14, v, w => True
  | _, _, _ => True
theorem nwR_stable (S : Nat → Prop) (c : Cf) (me : Int) (Br : Nat) (X : Nat) (A : Option Addr) (n : Nat) (cc : Nat) : ∀ i v w w', nwR S c me Br X A n cc i v w → But S w w' → nwR S c me Br X A n cc i v w'
  | 0, _, _, _, h, _ | 1, _, _, _, h, _ | 2, _, _, _, h, _ | 3, _, _, _, h, _ | 4, _, _, _, h, _ | 8, _, _, _, h, _ => h
  | 5, _, _, _, h, g => trivial
  | 6, _, _, _, h, g => trivial
  | 7, _, _, _, h, g => trivial
  | 9, _, _, _, h, g => trivial
  | 10, _, _, _, h, g => trivial
  | 11, _, _, _, h, g => trivial
  | 12, _, _, _, h, g => trivial
  | 13, _, _, _, h, g => trivial
  | 14, _, _, _, h, g => trivial
  | _ + 15, _, _, _, h, _ => h
def nsA (S : Nat → Prop) (nv : Nv) (c : Cf) (X : Nat) : Nat → Value → World → Prop
  | 0, v, _ => v = .pointer (some ⟨nv.B, 0, none⟩)
  | 1, v, _ => v = .pointer (some ⟨nv.B, 0, none⟩)
  | 2, v, _ => v = .pointer (some ⟨nv.B, 16, none⟩)
  | 3, v, _ => v = .pointer (some ⟨nv.Bw, 0, none⟩)
  | 4, v, _ => v = .pointer (some ⟨X, 0, none⟩)
  | 5, v, _ => v = .int .i64 c.period
  | 6, v, w => True
  | _, _, _ => True
theorem nsA_stable {W0 : World} (nv : Nv) (c : Cf) (X : Nat) : ∀ i v w w', nsA (OldB W0) nv c X i v w → But (OldB W0) w w' → nsA (OldB W0) nv c X i v w'
  | 0, _, _, _, h, _ | 1, _, _, _, h, _ | 2, _, _, _, h, _ | 3, _, _, _, h, _ | 4, _, _, _, h, _ | 5, _, _, _, h, _ => h
  | 6, _, _, _, h, g => trivial
  | _ + 7, _, _, _, h, _ => h
def nsB (S : Nat → Prop) (nv : Nv) (c : Cf) (X : Nat) : Nat → Value → World → Prop
  | 0, v, _ => v = .pointer (some ⟨nv.B, 0, none⟩)
  | 1, v, _ => v = .pointer (some ⟨nv.B, 0, none⟩)
  | 2, v, _ => v = .pointer (some ⟨nv.B, 16, none⟩)
  | 3, v, _ => v = .pointer (some ⟨nv.Bw, 0, none⟩)
  | 4, v, _ => v = .pointer (some ⟨X, 8, none⟩)
  | 5, v, _ => v = .int .i64 c.gossip
  | 6, v, w => True
  | _, _, _ => True
theorem nsB_stable {W0 : World} (nv : Nv) (c : Cf) (X : Nat) : ∀ i v w w', nsB (OldB W0) nv c X i v w → But (OldB W0) w w' → nsB (OldB W0) nv c X i v w'
  | 0, _, _, _, h, _ | 1, _, _, _, h, _ | 2, _, _, _, h, _ | 3, _, _, _, h, _ | 4, _, _, _, h, _ | 5, _, _, _, h, _ => h
  | 6, _, _, _, h, g => trivial
  | _ + 7, _, _, _, h, _ => h
def nsC (S : Nat → Prop) (nv : Nv) (c : Cf) (X : Nat) : Nat → Value → World → Prop
  | 0, v, _ => v = .pointer (some ⟨nv.B, 0, none⟩)
  | 1, v, _ => v = .pointer (some ⟨nv.B, 0, none⟩)
  | 2, v, _ => v = .pointer (some ⟨nv.B, 16, none⟩)
  | 3, v, _ => v = .pointer (some ⟨nv.Bw, 0, none⟩)
  | 4, v, _ => v = .pointer (some ⟨X, 10, none⟩)
  | 5, v, _ => v = .int .i64 c.sync
  | 6, v, w => True
  | _, _, _ => True
theorem nsC_stable {W0 : World} (nv : Nv) (c : Cf) (X : Nat) : ∀ i v w w', nsC (OldB W0) nv c X i v w → But (OldB W0) w w' → nsC (OldB W0) nv c X i v w'
  | 0, _, _, _, h, _ | 1, _, _, _, h, _ | 2, _, _, _, h, _ | 3, _, _, _, h, _ | 4, _, _, _, h, _ | 5, _, _, _, h, _ => h
  | 6, _, _, _, h, g => trivial
  | _ + 7, _, _, _, h, _ => h
theorem node_made' {c : Cf} {me : Int} {inc : Nat} {xs : List Nat} {W0 W1 W : World} {Br Mr : Nat} (hr : ro.RlAt W Br Mr (ro.Ro.new me inc) 1) (h1 : W0.heap.size ≤ Br ∧ W0.heap.size ≤ Mr) (h2 : Br < W1.heap.size ∧ Mr < W1.heap.size) (h01 : W0.heap.size ≤ W1.heap.size) {l : Nat → Nat} (hl : Lb W1 W l) {t : Tm}
    (hq : Oq c l W t) (hg : Og l W t) (hd : Od ⟨xs, 0⟩ l W t) (hw : Ow l W t) (hm : Om l W t) (hb : Ob c me Br l W t) :
    ∃ nv l', t[39]? = some (pt nv.B) ∧ NdX nv l' W { Sw.new c me inc xs with wh := wh.St.new } x0 ∧ (∀ k, l' k ≠ 0 → W0.heap.size ≤ k) ∧ ∀ k, k < W1.heap.size → k ≠ Br ∧ k ≠ Mr → l' k = 0 := by
  obtain ⟨B, Bq, Bg, Bd, Bw, Md, e39, lB, h5, hblk⟩ := hb
  obtain ⟨Bq', Mq, q1, q2, q3, q4⟩ := hq
  obtain ⟨Bg', g1, g2, g3⟩ := hg
  obtain ⟨Bd', d1, d2, d3⟩ := hd
  obtain ⟨Bw', w1, w2⟩ := hw
  obtain ⟨Md', m1, m2, m3⟩ := hm
  obtain ⟨f1, f2, f3, f4, f5⟩ := h5
  have pe : ∀ {a b : Nat}, pt a = pt b → a = b := fun h => by unfold pt at h; simpa using h
  obtain rfl : Bq = Bq' := pe (Option.some.inj (f1.symm.trans q1))
  obtain rfl : Bg = Bg' := pe (Option.some.inj (f2.symm.trans g1))
  obtain rfl : Bd = Bd' := pe (Option.some.inj (f3.symm.trans d1))
  obtain rfl : Bw = Bw' := pe (Option.some.inj (f4.symm.trans w1))
  obtain rfl : Md = Md' := by have := Option.some.inj (f5.symm.trans m1); simpa using this
  obtain ⟨l', hl'⟩ : ∃ l' : Nat → Nat, l' = fun k => if k = Br ∨ k = Mr then 1 else l k := ⟨_, rfl⟩
  have e1 : ∀ k, (k = Br ∨ k = Mr) → l' k = 1 := fun k hk => by rw [hl']; exact if_pos hk
  have hz : ∀ k, (k = Br ∨ k = Mr) → l k = 0 := fun k hk => Classical.byContradiction fun hne => by
    have := (hl k hne).1
    rcases hk with rfl | rfl <;> omega
  have e2 : ∀ n k, n ≠ 0 → l k = n → l' k = n := fun n k hn e => by
    rw [hl']
    show (if k = Br ∨ k = Mr then 1 else l k) = n
    rw [if_neg (fun hk => by rw [hz k hk] at e; exact hn e.symm)]
    exact e
  have e3 : ∀ n k, n ≠ 1 → l' k = n → l k = n := fun n k hn e => by
    by_cases hk : k = Br ∨ k = Mr
    · rw [e1 k hk] at e; exact absurd e.symm hn
    · rw [hl'] at e
      have e' : (if k = Br ∨ k = Mr then 1 else l k) = n := e
      rw [if_neg hk] at e'; exact e'
  have hBg : Bg < W.heap.size := g2.lt
  have hBd : Bd < W.heap.size := d2.lt Bd (tgt_ptr.2 rfl)
  refine ⟨⟨B, Br, Mr, Bq, Mq, Bg, Bd, Bw, Md⟩, l', e39, ⟨fun k hk => ?_, ⟨e1 Br (.inl rfl), e1 Mr (.inr rfl), 1, by omega, hr⟩, ⟨e2 2 _ (by decide) q3, e2 2 _ (by decide) q4, q2⟩, ⟨w2.mono (fun k _ e => e2 3 k (by decide) e)⟩, ?_, ?_, ?_⟩, fun k hk => ?_, fun k hk hne => ?_⟩
  · by_cases e : k = Br ∨ k = Mr
    · have := hr.lt
      rcases e with rfl | rfl
      · exact this.1
      · exact this.2
    · rw [hl'] at hk
      have hk' : (if k = Br ∨ k = Mr then 1 else l k) ≠ 0 := hk
      rw [if_neg e] at hk'
      exact (hl k hk').2
  · have hne : Bg ≠ Bd := fun e => by
      subst e
      obtain ⟨hok, A, c', hi⟩ := g2
      rcases d2.2 with ⟨e5, _⟩ | ⟨B5, A5, n5, c5, e5, _, hh, _⟩
      · cases e5
      · simp only [Value.pointer.injEq, Option.some.injEq, Addr.mk.injEq, and_true] at e5
        subst e5
        have hk := hi.blk
        rw [hh] at hk
        unfold pr.ringC at hk
        simp only [if_true, Option.some.injEq, Obj.cells.injEq] at hk
        exact absurd hk.2.1 (by decide)
    refine ⟨e2 4 _ (by decide) g3, e2 4 _ (by decide) d3, hne, ?_, d2.narrow (fun k hk e => ⟨hk, fun e5 => e.2 (e2 5 k (by decide) e5)⟩) (fun k hk => by rw [← tgt_ptr.1 hk]; exact ⟨hBd, by rw [e2 4 _ (by decide) d3]; decide⟩)⟩
    obtain ⟨hok, A, c', hi⟩ := g2
    exact ⟨hok, A, c', ⟨⟨hBg, by rw [e2 4 _ (by decide) g3]; decide⟩, hi.blk, ⟨hi.row.1, fun b off e hn => absurd hn (Nat.lt_irrefl 0)⟩, hi.le, hi.max, hi.nil⟩⟩
  · refine ⟨e2 7 _ (by decide) m3, fun _ => none, 0, by omega, m2, fun n _ => .inl ⟨rfl, rfl⟩⟩
  · refine ⟨e2 6 _ (by decide) lB, hblk, rfl, rfl, rfl, trivial, fun k hk => trivial, ⟨⟨[], Nat.zero_le _, ⟨rfl, .inl ⟨rfl, rfl⟩⟩⟩, (fun b hb => by cases hb)⟩, ⟨⟨[], rfl, rowK.nil _ _, (fun y hy => by cases hy)⟩, (fun b hb => by cases hb)⟩⟩
  · by_cases e : k = Br ∨ k = Mr
    · rcases e with rfl | rfl
      · exact h1.1
      · exact h1.2
    · rw [hl'] at hk
      have hk' : (if k = Br ∨ k = Mr then 1 else l k) ≠ 0 := hk
      rw [if_neg e] at hk'
      have := (hl k hk').1
      omega
  · rw [hl']
    show (if k = Br ∨ k = Mr then 1 else l k) = 0
    rw [if_neg (by rintro (e | e); exact hne.1 e; exact hne.2 e)]
    exact Classical.byContradiction fun hne2 => by have := (hl k hne2).1; omega
end Go.Proofs.YtaicipldjmngaaaGreatDoor.sw

namespace Go.Proofs.YtaicipldjmngaaaGreatDoor.dr
end Go.Proofs.YtaicipldjmngaaaGreatDoor.dr
namespace Go.Proofs.YtaicipldjmngaaaGreatDoor.wh
end Go.Proofs.YtaicipldjmngaaaGreatDoor.wh
namespace Go.Proofs.YtaicipldjmngaaaGreatDoor.ro
end Go.Proofs.YtaicipldjmngaaaGreatDoor.ro
namespace Go.Proofs.YtaicipldjmngaaaGreatDoor.ru
end Go.Proofs.YtaicipldjmngaaaGreatDoor.ru
namespace Go.Proofs.YtaicipldjmngaaaGreatDoor.db
end Go.Proofs.YtaicipldjmngaaaGreatDoor.db
namespace Go.Proofs.YtaicipldjmngaaaGreatDoor.pr
end Go.Proofs.YtaicipldjmngaaaGreatDoor.pr
namespace Go.Proofs.YtaicipldjmngaaaGreatDoor.sp
end Go.Proofs.YtaicipldjmngaaaGreatDoor.sp
namespace Go.Proofs.YtaicipldjmngaaaGreatDoor.sw
open Go.Proofs.YtaicipldjmngaaaGreatDoor.dr Go.Proofs.YtaicipldjmngaaaGreatDoor.wh Go.Proofs.YtaicipldjmngaaaGreatDoor.ro Go.Proofs.YtaicipldjmngaaaGreatDoor.ru Go.Proofs.YtaicipldjmngaaaGreatDoor.db Go.Proofs.YtaicipldjmngaaaGreatDoor.pr Go.Proofs.YtaicipldjmngaaaGreatDoor.sp
open Go.RowKit
set_option linter.unusedVariables false
set_option linter.unusedSimpArgs false
def NewPost (c : Cf) (me : Int) (inc : Nat) (xs : List Nat) (W0 : World) (e : Ending) (w' : World) : Prop := ∃ nv l, e = .returned (.tuple #[.pointer (some ⟨nv.B, 0, none⟩), .int .i64 0]) ∧ Nd nv l w' (Sw.new c me inc (xs.take 4096)) ∧ (∀ k, l k ≠ 0 → W0.heap.size ≤ k) ∧ Below W0.heap.size W0 w'
theorem set_now (s : Sw) (id n : Int) : (s.set id n).wh.now = s.wh.now := by
  show (s.wh.set id n).now = s.wh.now
  unfold wh.St.set
  split <;> rfl
theorem nd_apart {nv : Nv} {l l' : Nat → Nat} {W0 W w : World} {s : Sw} {x : Nc} (hb : Below W0.heap.size W0 W) (h0 : ∀ k, l k ≠ 0 → W0.heap.size ≤ k) (g : Goes l l' W w) : Below W0.heap.size W0 w ∧ ∀ k, l' k ≠ 0 → W0.heap.size ≤ k :=
  ⟨hb.trans (g.but.below hb.size (fun k hk e => by have := h0 k e.1; omega)), fun k hk => by
    by_cases hlt : k < W.heap.size
    · exact h0 k ((g.old k hlt).2 hk)
    · have := hb.size; omega⟩
set_option maxHeartbeats 8000000 in
set_option maxRecDepth 100000 in
theorem New_any (c : Cf) (hc : c.Ok) (me : Int) (hme : isNode me) (inc : Nat) (hi : inc < 4294967296) (A : Option Addr) (n cc : Nat) (xs : List Nat) (W0 : World) (hs : db.ScIs W0) (hR : RV W0 A n (xs.map dr.u32V)) (hnil : A = none → cc = 0) (hnc : n ≤ cc) (hn : n ≤ 35184372088832) (hx : ∀ y ∈ xs, y < 4294967296) :
    Calls Tryz.prog 32 #[.agg #[.int .i64 c.period, .int .i64 c.wait, .int .i64 c.indirect, .int .i64 c.least, .int .i64 c.most, .int .i64 c.want, .int .i64 c.mult, .int .i64 c.piggy, .int .i64 c.gossip, .int .i64 c.fanout, .int .i64 c.sync], .int .i64 me, .int .u32 (inc : Int), .slice A n cc] W0 (NewPost c me inc xs W0) := by
  have b1 := below1 W0 (.cells #[.int .i64 c.period, .int .i64 c.wait, .int .i64 c.indirect, .int .i64 c.least, .int .i64 c.most, .int .i64 c.want, .int .i64 c.mult, .int .i64 c.piggy, .int .i64 c.gossip, .int .i64 c.fanout, .int .i64 c.sync] 23)
  have k1 : CfAt _ _ c := heap_alloc_new W0 (.cells #[.int .i64 c.period, .int .i64 c.wait, .int .i64 c.indirect, .int .i64 c.least, .int .i64 c.most, .int .i64 c.want, .int .i64 c.mult, .int .i64 c.piggy, .int .i64 c.gossip, .int .i64 c.fanout, .int .i64 c.sync] 23)
  obtain ⟨W1, hW1⟩ : ∃ W1, W0.alloc (.cells #[.int .i64 c.period, .int .i64 c.wait, .int .i64 c.indirect, .int .i64 c.least, .int .i64 c.most, .int .i64 c.want, .int .i64 c.mult, .int .i64 c.piggy, .int .i64 c.gossip, .int .i64 c.fanout, .int .i64 c.sync] 23) = W1 := ⟨_, rfl⟩
  rw [hW1] at b1 k1
  have HR1 := Lib.hid (hR.below b1)
  have hs1 := hs.below b1
  have hnb : ro.nodeB me = true := by unfold ro.nodeB; unfold isNode at hme; simp; omega
  have HRo := Lib.hid (ro.pnew_yes me inc W1 hnb)
  have hrb := (rightB_iff c).2 hc
  have HRi := Lib.hid (fun W (hw : Below W1.heap.size W1 W) => by
    have := Right_any c W (hs1.below hw)
    rw [hrb] at this
    exact this)
  have HDr := Lib.hid (fun W (hw : Below W1.heap.size W1 W) => dr.new_any A n cc xs W (HR1.out.below hw) hnil hnc hn hx)
  obtain ⟨X, hX⟩ : ∃ X, W0.heap.size = X := ⟨_, rfl⟩
  rw [hX] at k1
  have HX := Lib.hid hX
  have HW1 := Lib.hid hW1
  have HB1 := Lib.hid b1
  have HK := Lib.hid k1
  have HPer : Hid (wh.wfI c.period ∧ wh.wfI c.gossip ∧ wh.wfI c.sync) := Lib.hid (by have h1 := hc.period; have h2 := hc.wait; have h3 := hc.gossip; have h4 := hc.sync; unfold wh.wfI; omega)
  have HNow1 : Hid ((({ Sw.new c me inc (xs.take 4096) with wh := wh.St.new } : Sw).set 1 c.period).wh.now ≤ 1000000) := Lib.hid (by rw [set_now]; exact Nat.zero_le _)
  have HNow2 : Hid (((({ Sw.new c me inc (xs.take 4096) with wh := wh.St.new } : Sw).set 1 c.period).set 2 c.gossip).wh.now ≤ 1000000) := Lib.hid (by rw [set_now, set_now]; exact Nat.zero_le _)
  clear b1 k1 hW1 hX hs hs1 hR hnil hnc hn hx hnb hrb hc hme hi
  go_enter Tryz.func32, Tryz.ntmps32
  go_wp2_with fail
  rw [HW1.out, HX.out]
  refine HRo.out.mono ?_
  rintro e w2 ⟨Br, Mr, rfl, hr2, hBr, hMr, hb2⟩
  have HRl := Lib.hid hr2
  have HBs := Lib.hid (And.intro hBr hMr)
  have HB2 := Lib.hid hb2
  have HRi2 := Lib.hid (HRi.out w2 hb2)
  obtain ⟨c0, c1, c2, c3, c4, c5, c6, c7, c8, c9, c10⟩ := (HK.out.below hb2).cells
  clear hr2 hBr hMr hb2
  go_wp2_with fail
  refine HRi2.out.mono ?_
  rintro e w3 ⟨rfl, hb3⟩
  have HB3 : Hid (Below W1.heap.size W1 w3) := Lib.hid (HB2.out.trans (hb3.mono HB2.out.size))
  have HRl3 := Lib.hid (HRl.out.below hb3)
  have HS3 : Hid (w2.heap.size ≤ w3.heap.size) := Lib.hid hb3.size
  have HCf := Lib.hid (fun W (hw : Below w3.heap.size w3 W) => (HK.out.below HB3.out).below hw)
  have HDr3 := Lib.hid (fun W (hw : Below w3.heap.size w3 W) => HDr.out W (HB3.out.trans (hw.mono HB3.out.size)))
  clear HDr c0 c1 c2 c3 c4 c5 c6 c7 c8 c9 c10 hb3
  have HDr := HDr3
  clear HDr3
  go_wp2
  refine Go.Rel.wp_region_acts (by kernel_rfl) (by kernel_rfl) (by kernel_rfl) (by kernel_rfl) (NwJ c me Br ⟨xs.take 4096, 0⟩ w3) (But (OldB w3)) (fun _ _ _ h k => h.trans k) ((But.refl _ _).drew) NwJ.start (nwR (OldB w3) c me Br X A n cc) (nwR_stable (OldB w3) c me Br X A n cc) ?hs ?he
  case hs =>
    refine (.cons ?_ (.cons ?_ (.cons ?_ (.cons ?_ (.cons ?_ (.cons ?_ (.cons ?_ (.cons ?_ (.cons ?_ (.cons ?_ (.cons ?_ (.cons ?_ (.cons ?_ (.cons ?_ (.cons ?_ .nil)))))))))))))))
    · intro f a w' hI hf hanc hdesc hle hs' hd K hK
      have f4 : a.tmps[4]? = some (.pointer (some ⟨X, 0, none⟩)) := hs'.2.2 4 (by kernel_rfl)
      obtain ⟨c0, c1, c2, c3, c4, c5, c6, c7, c8, c9, c10⟩ := (HCf.out w' hI.bel).cells
      unfold Go.Rel.stepOf
      go_simp
      exact hK _ _ (But.refl _ _) (hI.keep (j := 0) (t := 26) (by decide) (by decide) _) rfl
    · intro f a w' hI hf hanc hdesc hle hs' hd K hK
      have f1 : a.tmps[1]? = some (.int .i64 me) := hs'.2.2 1 (by kernel_rfl)
      unfold Go.Rel.stepOf
      go_simp
      exact hK _ _ (But.refl _ _) (hI.keep (j := 1) (t := 27) (by decide) (by decide) _) rfl
    · intro f a w' hI hf hanc hdesc hle hs' hd K hK
      have f10 : a.tmps[10]? = some (.pointer (some ⟨Br, 0, none⟩)) := hs'.2.2 10 (by kernel_rfl)
      unfold Go.Rel.stepOf
      go_simp
      exact hK _ _ (But.refl _ _) (hI.keep (j := 2) (t := 28) (by decide) (by decide) _) rfl
    · intro f a w' hI hf hanc hdesc hle hs' hd K hK
      have f4 : a.tmps[4]? = some (.pointer (some ⟨X, 0, none⟩)) := hs'.2.2 4 (by kernel_rfl)
      unfold Go.Rel.stepOf
      go_simp
      exact hK _ _ (But.refl _ _) (hI.keep (j := 3) (t := 29) (by decide) (by decide) _) rfl
    · intro f a w' hI hf hanc hdesc hle hs' hd K hK
      obtain ⟨_, t3, rfl⟩ := hd 3 29 (by kernel_rfl)
      obtain ⟨c0, c1, c2, c3, c4, c5, c6, c7, c8, c9, c10⟩ := (HCf.out w' hI.bel).cells
      unfold Go.Rel.stepOf
      go_simp
      exact hK _ _ (But.refl _ _) (hI.keep (j := 4) (t := 30) (by decide) (by decide) _) rfl
    · intro f a w' hI hf hanc hdesc hle hs' hd K hK
      obtain ⟨_, t4, rfl⟩ := hd 4 30 (by kernel_rfl)
      have z7 : f 7 = false := hdesc 60 7 (by kernel_rfl)
      have z12 : f 12 = false := hdesc 60 12 (by kernel_rfl)
      have z13 : f 13 = false := hdesc 60 13 (by kernel_rfl)
      have z14 : f 14 = false := hdesc 60 14 (by kernel_rfl)
      have HSZ : Hid (a.tmps.size = 62) := Lib.hid (hs'.2.1.trans rfl)
      unfold Go.Rel.stepOf
      go_simp
      refine (ru.new_any c.mult w').mono ?_
      rintro e w2 ⟨B5, M5, rfl, hq5, h51, h52, hb5⟩
      exact hK _ _ (But.of_below hb5) (hI.queue z7 z12 z13 z14 hb5 _ (by rw [HSZ.out]; omega) rfl hq5 h51 h52) trivial
    · intro f a w' hI hf hanc hdesc hle hs' hd K hK
      have z7 : f 7 = false := hdesc 60 7 (by kernel_rfl)
      have z12 : f 12 = false := hdesc 60 12 (by kernel_rfl)
      have z13 : f 13 = false := hdesc 60 13 (by kernel_rfl)
      have z14 : f 14 = false := hdesc 60 14 (by kernel_rfl)
      have HSZ : Hid (a.tmps.size = 62) := Lib.hid (hs'.2.1.trans rfl)
      unfold Go.Rel.stepOf
      go_simp
      refine (pr.rgnew_any w').mono ?_
      rintro e w2 ⟨rfl, rfl⟩
      have hb5 := below1 w' (.cells #[.bool true, .slice none 0 0, .int .i64 0] pr.TG)
      exact hK _ _ (But.of_below hb5) (hI.ring z7 z12 z13 z14 hb5 _ (by rw [HSZ.out]; omega) rfl (pr.rg_new true (· = w'.heap.size) w' rfl (o := .cells #[.bool true, .slice none 0 0, .int .i64 0] pr.TG (0, 0)) rfl) (Nat.le_refl _)) trivial
    · intro f a w' hI hf hanc hdesc hle hs' hd K hK
      obtain ⟨_, t2, rfl⟩ := hd 2 28 (by kernel_rfl)
      obtain ⟨_, t5, _⟩ := hd 5 31 (by kernel_rfl)
      obtain ⟨_, t6, _⟩ := hd 6 32 (by kernel_rfl)
      have HSZ : Hid (a.tmps.size = 62) := Lib.hid (hs'.2.1.trans rfl)
      obtain ⟨lq, hlq, kq, kg, _⟩ := hI.obj
      obtain ⟨Bq, Mq, e31, _⟩ := kq (hanc 60 5 (by kernel_rfl))
      obtain ⟨Bg, e32, _⟩ := kg (hanc 60 6 (by kernel_rfl))
      have v28 : a.eval (.tmp 28) = pt Br := by simp [Act.eval, t2, pt]
      have v31 : a.eval (.tmp 31) = pt Bq := by simp [Act.eval, e31]
      have v32 : a.eval (.tmp 32) = pt Bg := by simp [Act.eval, e32]
      refine stepOf_build 35 #[(0, .tmp 28), (1, .tmp 31), (2, .tmp 32)] rfl rfl #[pt Br, pt Bq, pt Bg] ?_ (hK _ _ (But.refl _ _) (hI.minded e31 e32 rfl (by rw [HSZ.out]; omega)) trivial)
      simp only [List.map_toArray, List.map_cons, List.map_nil, v28, v31, v32]
      exact mind_built Br Bq Bg
    · intro f a w' hI hf hanc hdesc hle hs' hd K hK
      have f3 : a.tmps[3]? = some (.slice A n cc) := hs'.2.2 3 (by kernel_rfl)
      unfold Go.Rel.stepOf
      go_simp
      exact hK _ _ (But.refl _ _) (hI.keep (j := 8) (t := 34) (by decide) (by decide) _) rfl
    · intro f a w' hI hf hanc hdesc hle hs' hd K hK
      obtain ⟨_, t8, rfl⟩ := hd 8 34 (by kernel_rfl)
      have z12 : f 12 = false := hdesc 60 12 (by kernel_rfl)
      have z13 : f 13 = false := hdesc 60 13 (by kernel_rfl)
      have z14 : f 14 = false := hdesc 60 14 (by kernel_rfl)
      have HSZ : Hid (a.tmps.size = 62) := Lib.hid (hs'.2.1.trans rfl)
      unfold Go.Rel.stepOf
      go_simp
      refine (HDr.out w' hI.bel).mono ?_
      rintro e w2 ⟨B5, rfl, h51, h52, hd5, hb5⟩
      exact hK _ _ (But.of_below hb5) (hI.draws z12 z13 z14 hb5 _ (by rw [HSZ.out]; omega) rfl hd5 h51 h52) trivial
    · intro f a w' hI hf hanc hdesc hle hs' hd K hK
      have z12 : f 12 = false := hdesc 60 12 (by kernel_rfl)
      have z13 : f 13 = false := hdesc 60 13 (by kernel_rfl)
      have z14 : f 14 = false := hdesc 60 14 (by kernel_rfl)
      have HSZ : Hid (a.tmps.size = 62) := Lib.hid (hs'.2.1.trans rfl)
      unfold Go.Rel.stepOf
      go_simp
      refine (wh.new_at w').mono ?_
      rintro e w2 ⟨B5, rfl, hw5, hb5⟩
      exact hK _ _ (But.of_below hb5) (hI.wheel z12 z13 z14 hb5 _ (by rw [HSZ.out]; omega) rfl hw5) trivial
    · intro f a w' hI hf hanc hdesc hle hs' hd K hK
      have z12 : f 12 = false := hdesc 60 12 (by kernel_rfl)
      have z13 : f 13 = false := hdesc 60 13 (by kernel_rfl)
      have z14 : f 14 = false := hdesc 60 14 (by kernel_rfl)
      have HSZ : Hid (a.tmps.size = 62) := Lib.hid (hs'.2.1.trans rfl)
      have hmk := @run_makeMap Tryz.prog
      unfold Go.Rel.stepOf
      go_simp
      have hb5 := below1 w' (.map #[] 0)
      exact hK _ _ (But.of_below hb5) (hI.mapped z12 z13 z14 hb5 _ (by rw [HSZ.out]; omega) rfl (IsMap.made w') (Nat.le_refl _)) trivial
    · intro f a w' hI hf hanc hdesc hle hs' hd K hK
      obtain ⟨_, t0, rfl⟩ := hd 0 26 (by kernel_rfl)
      obtain ⟨_, t1, rfl⟩ := hd 1 27 (by kernel_rfl)
      obtain ⟨_, t7, _⟩ := hd 7 33 (by kernel_rfl)
      obtain ⟨_, t9, _⟩ := hd 9 35 (by kernel_rfl)
      obtain ⟨_, t10, _⟩ := hd 10 36 (by kernel_rfl)
      obtain ⟨_, t11, _⟩ := hd 11 37 (by kernel_rfl)
      have HSZ : Hid (a.tmps.size = 62) := Lib.hid (hs'.2.1.trans rfl)
      obtain ⟨Bq, Bg, e31, e32, e33⟩ := hI.mind (hanc 60 7 (by kernel_rfl))
      obtain ⟨lq, hlq, kq, kg, kd, kw, km, _⟩ := hI.obj
      obtain ⟨Bd, e35, _⟩ := kd (hanc 60 9 (by kernel_rfl))
      obtain ⟨Bw, e36, _⟩ := kw (hanc 60 10 (by kernel_rfl))
      obtain ⟨Md, e37, _⟩ := km (hanc 60 11 (by kernel_rfl))
      have v26 : a.eval (.tmp 26) = .agg #[.int .i64 c.period, .int .i64 c.wait, .int .i64 c.indirect, .int .i64 c.least, .int .i64 c.most, .int .i64 c.want, .int .i64 c.mult, .int .i64 c.piggy, .int .i64 c.gossip, .int .i64 c.fanout, .int .i64 c.sync] := by simp [Act.eval, t0]
      have v27 : a.eval (.tmp 27) = .int .i64 me := by simp [Act.eval, t1]
      have v33 : a.eval (.tmp 33) = .agg #[pt Br, pt Bq, pt Bg] := by simp [Act.eval, e33]
      have v35 : a.eval (.tmp 35) = pt Bd := by simp [Act.eval, e35]
      have v36 : a.eval (.tmp 36) = pt Bw := by simp [Act.eval, e36]
      have v37 : a.eval (.tmp 37) = .map (some Md) := by simp [Act.eval, e37]
      refine stepOf_build 48 #[(0, .tmp 26), (1, .tmp 27), (2, .tmp 33), (3, .tmp 35), (4, .tmp 36), (5, .tmp 37), (9, .const (.int .i64 (-1)))] rfl rfl (ndA (nv0 Br Bq Bg Bd Bw Md) c me x0) ?_ (hK _ _ (But.refl _ _) (hI.built ⟨e31, e32, e35, e36, e37⟩ rfl (by rw [HSZ.out]; omega)) trivial)
      have vcc : a.eval (.const (.int .i64 (-1))) = .int .i64 (-1) := rfl
      simp only [List.map_toArray, List.map_cons, List.map_nil, v26, v27, v33, v35, v36, v37, vcc]
      exact nd_built Br Bq Bg Bd Bw Md c me
    · intro f a w' hI hf hanc hdesc hle hs' hd K hK
      obtain ⟨_, t12, _⟩ := hd 12 38 (by kernel_rfl)
      have HSZ : Hid (a.tmps.size = 62) := Lib.hid (hs'.2.1.trans rfl)
      have z14 : f 14 = false := hdesc 60 14 (by kernel_rfl)
      obtain ⟨Bq, Bg, Bd, Bw, Md, h5, e38⟩ := hI.bld (hanc 60 12 (by kernel_rfl))
      have v38 : a.eval (.tmp 38) = .agg (ndA (nv0 Br Bq Bg Bd Bw Md) c me x0) := by simp only [Act.eval, Array.getD_eq_getD_getElem?, e38, Option.getD_some]
      have hb5 := below1 w' (.cells (ndA (nv0 Br Bq Bg Bd Bw Md) c me x0) TN)
      exact stepOf_box TN (.tmp 38) rfl rfl _ v38 (hK _ _ (But.of_below hb5) (hI.boxed z14 hb5 _ (by rw [HSZ.out]; omega) rfl h5 (Nat.le_refl _) (heap_alloc_new w' _)) trivial)
    · intro f a w' hI hf hanc hdesc hle hs' hd K hK
      obtain ⟨_, t13, _⟩ := hd 13 39 (by kernel_rfl)
      have HSZ : Hid (a.tmps.size = 62) := Lib.hid (hs'.2.1.trans rfl)
      obtain ⟨l9, _, _, _, _, _, _, kb⟩ := hI.obj
      obtain ⟨B9, Bq, Bg, Bd, Bw, Md, e39, _⟩ := kb (hanc 60 13 (by kernel_rfl))
      rw [t13] at e39
      obtain rfl := Option.some.inj e39
      unfold pt at t13
      unfold Go.Rel.stepOf
      go_simp
      exact hK _ _ (But.refl _ _) (hI.ended t13 rfl (by rw [HSZ.out]; omega)) trivial
  case he =>
    intro f a w4 hall hJ hle hs' hR'
    obtain ⟨l, hl, kq, kg, kd, kw, km, kb⟩ := hJ.obj
    obtain ⟨nv, l0, e39, hnd, hl0, hXx⟩ := node_made' (W0 := W0) (HRl3.out.below hJ.bel) ⟨Nat.le_trans HB1.out.size HBs.out.1, Nat.le_trans HB1.out.size HBs.out.2⟩ ⟨HRl3.out.lt.1, HRl3.out.lt.2⟩ (Nat.le_trans HB1.out.size HB3.out.size) hl (kq (hall 5 (by decide))) (kg (hall 6 (by decide))) (kd (hall 9 (by decide))) (kw (hall 10 (by decide))) (km (hall 11 (by decide))) (kb (hall 13 (by decide)))
    obtain ⟨B9, e39', e12⟩ := hJ.fin (hall 14 (by decide))
    rw [e39] at e39'
    have hBe : pt nv.B = pt B9 := Option.some.inj e39'
    rw [← hBe] at e12
    unfold pt at e12
    have HB4 : Hid (Below W0.heap.size W0 w4) := Lib.hid ((HB1.out.trans (HB3.out.mono HB1.out.size)).trans (hJ.bel.mono (Nat.le_trans HB1.out.size HB3.out.size)))
    have HNd := Lib.hid hnd
    have HL0 := Lib.hid hl0
    have HCf2 := Lib.hid (fun W (hw : Below w4.heap.size w4 W) => (HCf.out w4 hJ.bel).below hw)
    have HNl : Hid (∀ k, l0 k ≠ 0 → ¬ k = X → True) := Lib.hid (fun _ _ _ => trivial)
    have HXz : Hid (l0 X = 0) := Lib.hid (hXx X (Nat.lt_of_lt_of_le (block_lt HK.out) HB3.out.size) (by have h7 := block_lt HK.out; have h8 := HBs.out; omega))
    clear hJ hall hle kq kg kd kw km kb hl e39 e39' hBe hnd hl0 hXx
    obtain ⟨v26, s26, _⟩ := hR' 0 26 (by kernel_rfl)
    obtain ⟨v27, s27, _⟩ := hR' 1 27 (by kernel_rfl)
    obtain ⟨v28, s28, _⟩ := hR' 2 28 (by kernel_rfl)
    obtain ⟨v29, s29, _⟩ := hR' 3 29 (by kernel_rfl)
    obtain ⟨v30, s30, _⟩ := hR' 4 30 (by kernel_rfl)
    obtain ⟨v31, s31, _⟩ := hR' 5 31 (by kernel_rfl)
    obtain ⟨v32, s32, _⟩ := hR' 6 32 (by kernel_rfl)
    obtain ⟨v33, s33, _⟩ := hR' 7 33 (by kernel_rfl)
    obtain ⟨v34, s34, _⟩ := hR' 8 34 (by kernel_rfl)
    obtain ⟨v35, s35, _⟩ := hR' 9 35 (by kernel_rfl)
    obtain ⟨v36, s36, _⟩ := hR' 10 36 (by kernel_rfl)
    obtain ⟨v37, s37, _⟩ := hR' 11 37 (by kernel_rfl)
    obtain ⟨v38, s38, _⟩ := hR' 12 38 (by kernel_rfl)
    obtain ⟨v39, s39, _⟩ := hR' 13 39 (by kernel_rfl)
    have s12 := e12
    have e := hs'.shape
    simp only [List.toList_toArray, List.foldl, Go.Rel.reset, Array.getD_eq_getD_getElem?, s26, s27, s28, s29, s30, s31, s32, s33, s34, s35, s36, s37, s38, s39, s12, Option.getD_some] at e
    simp at e
    clear e12 hR' hs' s26 s27 s28 s29 s30 s31 s32 s33 s34 s35 s36 s37 s38 s39 s12
    subst e
    have HXl0 : Hid (CfAt w4 X c) := Lib.hid (HCf2.out _ (Below.refl _ _))
    have HXn0 : Hid (¬ l0 X ≠ 0) := Lib.hid (fun e => e HXz.out)
    have HCn := Lib.hid (fun W (hw : Below w4.heap.size w4 W) => (HNd.out.below hw).n.blk)
    have HSet := Lib.hid (fun W (hw : Below w4.heap.size w4 W) => nd_set (HNd.out.below hw) 1 c.period (by unfold wh.wfI; omega) HPer.out.1 (Nat.zero_le _))
    have HMu : Hid (∀ k, mutl (l0 k) → k < w4.heap.size) := Lib.hid (fun k e => HNd.out.lt k e.1)
    go_wp2
    refine Go.Rel.wp_region_states (by kernel_rfl) (by kernel_rfl) (by kernel_rfl) (by kernel_rfl) (TI 6 w4 (fun w => ∃ l', NdX nv l' w (({ Sw.new c me inc (xs.take 4096) with wh := wh.St.new } : Sw).set 1 c.period) x0 ∧ Goes l0 l' w4 w)) (But (OldB w4)) (fun _ _ _ h k => h.trans k) OldB.drew TI.start (nsA (OldB w4) nv c X) (nsA_stable nv c X) ?hs5 ?he5
    case hs5 =>
      refine (.cons ?_ (.cons ?_ (.cons ?_ (.cons ?_ (.cons ?_ (.cons ?_ (.cons ?_ .nil)))))))
      · intro f a w' hI hf hanc hdesc hle hs' hd K hK
        have f12 : a.tmps[12]? = some (.pointer (some ⟨nv.B, 0, none⟩)) := hs'.2.2 12 (by kernel_rfl)
        unfold Go.Rel.stepOf
        go_simp
        exact hK _ _ (But.refl _ _) (hI.read (j := 0) (by decide)) rfl
      · intro f a w' hI hf hanc hdesc hle hs' hd K hK
        obtain ⟨_, t0, rfl⟩ := hd 0 40 (by kernel_rfl)
        unfold Go.Rel.stepOf
        go_simp
        exact hK _ _ (But.refl _ _) (hI.read (j := 1) (by decide)) rfl
      · intro f a w' hI hf hanc hdesc hle hs' hd K hK
        obtain ⟨_, t1, rfl⟩ := hd 1 41 (by kernel_rfl)
        unfold Go.Rel.stepOf
        go_simp
        exact hK _ _ (But.refl _ _) (hI.read (j := 2) (by decide)) rfl
      · intro f a w' hI hf hanc hdesc hle hs' hd K hK
        obtain ⟨_, t2, rfl⟩ := hd 2 42 (by kernel_rfl)
        have zL : f 6 = false := hdesc 60 6 (by kernel_rfl)
        have cc := (HCn.out w' (hI.ahead zL)).c16
        unfold Go.Rel.stepOf
        go_simp
        exact hK _ _ (But.refl _ _) (hI.read (j := 3) (by decide)) rfl
      · intro f a w' hI hf hanc hdesc hle hs' hd K hK
        have f4 : a.tmps[4]? = some (.pointer (some ⟨X, 0, none⟩)) := hs'.2.2 4 (by kernel_rfl)
        unfold Go.Rel.stepOf
        go_simp
        exact hK _ _ (But.refl _ _) (hI.read (j := 4) (by decide)) rfl
      · intro f a w' hI hf hanc hdesc hle hs' hd K hK
        obtain ⟨_, t4, rfl⟩ := hd 4 44 (by kernel_rfl)
        have zL : f 6 = false := hdesc 60 6 (by kernel_rfl)
        obtain ⟨c0, c1, c2, c3, c4, c5, c6, c7, c8, c9, c10⟩ := (HCf2.out w' (hI.ahead zL)).cells
        unfold Go.Rel.stepOf
        go_simp
        exact hK _ _ (But.refl _ _) (hI.read (j := 5) (by decide)) rfl
      · intro f a w' hI hf hanc hdesc hle hs' hd K hK
        obtain ⟨_, t3, rfl⟩ := hd 3 43 (by kernel_rfl)
        obtain ⟨_, t5, rfl⟩ := hd 5 45 (by kernel_rfl)
        unfold Go.Rel.stepOf
        go_simp
        refine (HSet.out w' (hI.ahead hf)).mono ?_
        rintro e w2 ⟨rfl, l2, hn2, hg2⟩
        exact hK _ _ (But.oldB hg2.but HMu.out) (TI.last ⟨l2, hn2, (Goes.below (hI.ahead hf)).trans hg2⟩) trivial
    case he5 =>
      intro f a w5 hall hJ hle hs' hR'
      have HP5 := Lib.hid (hJ.done_ (hall 6 (by decide)))
      clear hJ hall hle
      obtain ⟨v40, s40, _⟩ := hR' 0 40 (by kernel_rfl)
      obtain ⟨v41, s41, _⟩ := hR' 1 41 (by kernel_rfl)
      obtain ⟨v42, s42, _⟩ := hR' 2 42 (by kernel_rfl)
      obtain ⟨v43, s43, _⟩ := hR' 3 43 (by kernel_rfl)
      obtain ⟨v44, s44, _⟩ := hR' 4 44 (by kernel_rfl)
      obtain ⟨v45, s45, _⟩ := hR' 5 45 (by kernel_rfl)
      obtain ⟨v46, s46, _⟩ := hR' 6 46 (by kernel_rfl)
      have e := hs'.shape
      simp only [List.toList_toArray, List.foldl, Go.Rel.reset, Array.getD_eq_getD_getElem?, s40, s41, s42, s43, s44, s45, s46, Option.getD_some] at e
      simp at e
      clear hR' hs' s40 s41 s42 s43 s44 s45 s46
      subst e
      obtain ⟨l1, hnd, hg⟩ := HP5.out
      have HN1 := Lib.hid hnd
      have HG1 := Lib.hid hg
      have HXl1 : Hid (CfAt w5 X c) := Lib.hid ((hg.but.block X (block_lt HXl0.out) (fun e => HXn0.out e.1)).trans HXl0.out)
      have HXn1 : Hid (¬ l1 X ≠ 0) := Lib.hid (fun e => HXn0.out ((hg.old X (block_lt HXl0.out)).2 e))
      clear hnd hg HCf2 HCn HSet HMu
      have HCf2 := Lib.hid (fun W (hw : Below w5.heap.size w5 W) => HXl1.out.below hw)
      have HCn := Lib.hid (fun W (hw : Below w5.heap.size w5 W) => (HN1.out.below hw).n.blk)
      have HSet := Lib.hid (fun W (hw : Below w5.heap.size w5 W) => nd_set (HN1.out.below hw) 2 c.gossip (by unfold wh.wfI; omega) HPer.out.2.1 (by exact HNow1.out))
      have HMu : Hid (∀ j, mutl (l1 j) → j < w5.heap.size) := Lib.hid (fun j e => HN1.out.lt j e.1)
      go_wp2
      refine Go.Rel.wp_region_states (by kernel_rfl) (by kernel_rfl) (by kernel_rfl) (by kernel_rfl) (TI 6 w5 (fun w => ∃ l', NdX nv l' w ((({ Sw.new c me inc (xs.take 4096) with wh := wh.St.new } : Sw).set 1 c.period).set 2 c.gossip) x0 ∧ Goes l1 l' w5 w)) (But (OldB w5)) (fun _ _ _ h k => h.trans k) OldB.drew TI.start (nsB (OldB w5) nv c X) (nsB_stable nv c X) ?hs6 ?he6
      case hs6 =>
        refine (.cons ?_ (.cons ?_ (.cons ?_ (.cons ?_ (.cons ?_ (.cons ?_ (.cons ?_ .nil)))))))
        · intro f a w' hI hf hanc hdesc hle hs' hd K hK
          have f12 : a.tmps[12]? = some (.pointer (some ⟨nv.B, 0, none⟩)) := hs'.2.2 12 (by kernel_rfl)
          unfold Go.Rel.stepOf
          go_simp
          exact hK _ _ (But.refl _ _) (hI.read (j := 0) (by decide)) rfl
        · intro f a w' hI hf hanc hdesc hle hs' hd K hK
          obtain ⟨_, t0, rfl⟩ := hd 0 47 (by kernel_rfl)
          unfold Go.Rel.stepOf
          go_simp
          exact hK _ _ (But.refl _ _) (hI.read (j := 1) (by decide)) rfl
        · intro f a w' hI hf hanc hdesc hle hs' hd K hK
          obtain ⟨_, t1, rfl⟩ := hd 1 48 (by kernel_rfl)
          unfold Go.Rel.stepOf
          go_simp
          exact hK _ _ (But.refl _ _) (hI.read (j := 2) (by decide)) rfl
        · intro f a w' hI hf hanc hdesc hle hs' hd K hK
          obtain ⟨_, t2, rfl⟩ := hd 2 49 (by kernel_rfl)
          have zL : f 6 = false := hdesc 60 6 (by kernel_rfl)
          have cc := (HCn.out w' (hI.ahead zL)).c16
          unfold Go.Rel.stepOf
          go_simp
          exact hK _ _ (But.refl _ _) (hI.read (j := 3) (by decide)) rfl
        · intro f a w' hI hf hanc hdesc hle hs' hd K hK
          have f4 : a.tmps[4]? = some (.pointer (some ⟨X, 0, none⟩)) := hs'.2.2 4 (by kernel_rfl)
          unfold Go.Rel.stepOf
          go_simp
          exact hK _ _ (But.refl _ _) (hI.read (j := 4) (by decide)) rfl
        · intro f a w' hI hf hanc hdesc hle hs' hd K hK
          obtain ⟨_, t4, rfl⟩ := hd 4 51 (by kernel_rfl)
          have zL : f 6 = false := hdesc 60 6 (by kernel_rfl)
          obtain ⟨c0, c1, c2, c3, c4, c5, c6, c7, c8, c9, c10⟩ := (HCf2.out w' (hI.ahead zL)).cells
          unfold Go.Rel.stepOf
          go_simp
          exact hK _ _ (But.refl _ _) (hI.read (j := 5) (by decide)) rfl
        · intro f a w' hI hf hanc hdesc hle hs' hd K hK
          obtain ⟨_, t3, rfl⟩ := hd 3 50 (by kernel_rfl)
          obtain ⟨_, t5, rfl⟩ := hd 5 52 (by kernel_rfl)
          unfold Go.Rel.stepOf
          go_simp
          refine (HSet.out w' (hI.ahead hf)).mono ?_
          rintro e w2 ⟨rfl, l2, hn2, hg2⟩
          exact hK _ _ (But.oldB hg2.but HMu.out) (TI.last ⟨l2, hn2, (Goes.below (hI.ahead hf)).trans hg2⟩) trivial
      case he6 =>
        intro f a w6 hall hJ hle hs' hR'
        have HP6 := Lib.hid (hJ.done_ (hall 6 (by decide)))
        clear hJ hall hle
        obtain ⟨v47, s47, _⟩ := hR' 0 47 (by kernel_rfl)
        obtain ⟨v48, s48, _⟩ := hR' 1 48 (by kernel_rfl)
        obtain ⟨v49, s49, _⟩ := hR' 2 49 (by kernel_rfl)
        obtain ⟨v50, s50, _⟩ := hR' 3 50 (by kernel_rfl)
        obtain ⟨v51, s51, _⟩ := hR' 4 51 (by kernel_rfl)
        obtain ⟨v52, s52, _⟩ := hR' 5 52 (by kernel_rfl)
        obtain ⟨v53, s53, _⟩ := hR' 6 53 (by kernel_rfl)
        have e := hs'.shape
        simp only [List.toList_toArray, List.foldl, Go.Rel.reset, Array.getD_eq_getD_getElem?, s47, s48, s49, s50, s51, s52, s53, Option.getD_some] at e
        simp at e
        clear hR' hs' s47 s48 s49 s50 s51 s52 s53
        subst e
        obtain ⟨l2, hnd, hg⟩ := HP6.out
        have HN2 := Lib.hid hnd
        have HG2 := Lib.hid hg
        have HXl2 : Hid (CfAt w6 X c) := Lib.hid ((hg.but.block X (block_lt HXl1.out) (fun e => HXn1.out e.1)).trans HXl1.out)
        have HXn2 : Hid (¬ l2 X ≠ 0) := Lib.hid (fun e => HXn1.out ((hg.old X (block_lt HXl1.out)).2 e))
        clear hnd hg HCf2 HCn HSet HMu
        have HCf2 := Lib.hid (fun W (hw : Below w6.heap.size w6 W) => HXl2.out.below hw)
        have HCn := Lib.hid (fun W (hw : Below w6.heap.size w6 W) => (HN2.out.below hw).n.blk)
        have HSet := Lib.hid (fun W (hw : Below w6.heap.size w6 W) => nd_set (HN2.out.below hw) 3 c.sync (by unfold wh.wfI; omega) HPer.out.2.2 (by exact HNow2.out))
        have HMu : Hid (∀ j, mutl (l2 j) → j < w6.heap.size) := Lib.hid (fun j e => HN2.out.lt j e.1)
        go_wp2
        refine Go.Rel.wp_region_states (by kernel_rfl) (by kernel_rfl) (by kernel_rfl) (by kernel_rfl) (TI 6 w6 (fun w => ∃ l', NdX nv l' w (((({ Sw.new c me inc (xs.take 4096) with wh := wh.St.new } : Sw).set 1 c.period).set 2 c.gossip).set 3 c.sync) x0 ∧ Goes l2 l' w6 w)) (But (OldB w6)) (fun _ _ _ h k => h.trans k) OldB.drew TI.start (nsC (OldB w6) nv c X) (nsC_stable nv c X) ?hs7 ?he7
        case hs7 =>
          refine (.cons ?_ (.cons ?_ (.cons ?_ (.cons ?_ (.cons ?_ (.cons ?_ (.cons ?_ .nil)))))))
          · intro f a w' hI hf hanc hdesc hle hs' hd K hK
            have f12 : a.tmps[12]? = some (.pointer (some ⟨nv.B, 0, none⟩)) := hs'.2.2 12 (by kernel_rfl)
            unfold Go.Rel.stepOf
            go_simp
            exact hK _ _ (But.refl _ _) (hI.read (j := 0) (by decide)) rfl
          · intro f a w' hI hf hanc hdesc hle hs' hd K hK
            obtain ⟨_, t0, rfl⟩ := hd 0 54 (by kernel_rfl)
            unfold Go.Rel.stepOf
            go_simp
            exact hK _ _ (But.refl _ _) (hI.read (j := 1) (by decide)) rfl
          · intro f a w' hI hf hanc hdesc hle hs' hd K hK
            obtain ⟨_, t1, rfl⟩ := hd 1 55 (by kernel_rfl)
            unfold Go.Rel.stepOf
            go_simp
            exact hK _ _ (But.refl _ _) (hI.read (j := 2) (by decide)) rfl
          · intro f a w' hI hf hanc hdesc hle hs' hd K hK
            obtain ⟨_, t2, rfl⟩ := hd 2 56 (by kernel_rfl)
            have zL : f 6 = false := hdesc 60 6 (by kernel_rfl)
            have cc := (HCn.out w' (hI.ahead zL)).c16
            unfold Go.Rel.stepOf
            go_simp
            exact hK _ _ (But.refl _ _) (hI.read (j := 3) (by decide)) rfl
          · intro f a w' hI hf hanc hdesc hle hs' hd K hK
            have f4 : a.tmps[4]? = some (.pointer (some ⟨X, 0, none⟩)) := hs'.2.2 4 (by kernel_rfl)
            unfold Go.Rel.stepOf
            go_simp
            exact hK _ _ (But.refl _ _) (hI.read (j := 4) (by decide)) rfl
          · intro f a w' hI hf hanc hdesc hle hs' hd K hK
            obtain ⟨_, t4, rfl⟩ := hd 4 58 (by kernel_rfl)
            have zL : f 6 = false := hdesc 60 6 (by kernel_rfl)
            obtain ⟨c0, c1, c2, c3, c4, c5, c6, c7, c8, c9, c10⟩ := (HCf2.out w' (hI.ahead zL)).cells
            unfold Go.Rel.stepOf
            go_simp
            exact hK _ _ (But.refl _ _) (hI.read (j := 5) (by decide)) rfl
          · intro f a w' hI hf hanc hdesc hle hs' hd K hK
            obtain ⟨_, t3, rfl⟩ := hd 3 57 (by kernel_rfl)
            obtain ⟨_, t5, rfl⟩ := hd 5 59 (by kernel_rfl)
            unfold Go.Rel.stepOf
            go_simp
            refine (HSet.out w' (hI.ahead hf)).mono ?_
            rintro e w2 ⟨rfl, l2, hn2, hg2⟩
            exact hK _ _ (But.oldB hg2.but HMu.out) (TI.last ⟨l2, hn2, (Goes.below (hI.ahead hf)).trans hg2⟩) trivial
        case he7 =>
          intro f a w7 hall hJ hle hs' hR'
          have HP7 := Lib.hid (hJ.done_ (hall 6 (by decide)))
          clear hJ hall hle
          obtain ⟨v54, s54, _⟩ := hR' 0 54 (by kernel_rfl)
          obtain ⟨v55, s55, _⟩ := hR' 1 55 (by kernel_rfl)
          obtain ⟨v56, s56, _⟩ := hR' 2 56 (by kernel_rfl)
          obtain ⟨v57, s57, _⟩ := hR' 3 57 (by kernel_rfl)
          obtain ⟨v58, s58, _⟩ := hR' 4 58 (by kernel_rfl)
          obtain ⟨v59, s59, _⟩ := hR' 5 59 (by kernel_rfl)
          obtain ⟨v60, s60, _⟩ := hR' 6 60 (by kernel_rfl)
          have e := hs'.shape
          simp only [List.toList_toArray, List.foldl, Go.Rel.reset, Array.getD_eq_getD_getElem?, s54, s55, s56, s57, s58, s59, s60, Option.getD_some] at e
          simp at e
          clear hR' hs' s54 s55 s56 s57 s58 s59 s60
          subst e
          obtain ⟨l3, hnd, hg⟩ := HP7.out
          have h9 := nd_apart (nv := nv) (s := Sw.new c me inc (xs.take 4096)) (x := x0) HB4.out HL0.out ((HG1.out.trans HG2.out).trans hg)
          have HF : Hid (Nd nv l3 w7 (Sw.new c me inc (xs.take 4096)) ∧ (∀ k, l3 k ≠ 0 → W0.heap.size ≤ k) ∧ Below W0.heap.size W0 w7) := Lib.hid ⟨⟨x0, hnd⟩, h9.2, h9.1⟩
          clear hnd hg h9
          go_wp2
          go_ret2
          exact ⟨nv, l3, rfl, HF.out⟩
end Go.Proofs.YtaicipldjmngaaaGreatDoor.sw

namespace Go.Proofs.YtaicipldjmngaaaGreatDoor.dr
end Go.Proofs.YtaicipldjmngaaaGreatDoor.dr
namespace Go.Proofs.YtaicipldjmngaaaGreatDoor.wh
end Go.Proofs.YtaicipldjmngaaaGreatDoor.wh
namespace Go.Proofs.YtaicipldjmngaaaGreatDoor.ro
end Go.Proofs.YtaicipldjmngaaaGreatDoor.ro
namespace Go.Proofs.YtaicipldjmngaaaGreatDoor.ru
end Go.Proofs.YtaicipldjmngaaaGreatDoor.ru
namespace Go.Proofs.YtaicipldjmngaaaGreatDoor.db
end Go.Proofs.YtaicipldjmngaaaGreatDoor.db
namespace Go.Proofs.YtaicipldjmngaaaGreatDoor.pr
end Go.Proofs.YtaicipldjmngaaaGreatDoor.pr
namespace Go.Proofs.YtaicipldjmngaaaGreatDoor.sp
end Go.Proofs.YtaicipldjmngaaaGreatDoor.sp
namespace Go.Proofs.YtaicipldjmngaaaGreatDoor.sw
open Go.Proofs.YtaicipldjmngaaaGreatDoor.dr Go.Proofs.YtaicipldjmngaaaGreatDoor.wh Go.Proofs.YtaicipldjmngaaaGreatDoor.ro Go.Proofs.YtaicipldjmngaaaGreatDoor.ru Go.Proofs.YtaicipldjmngaaaGreatDoor.db Go.Proofs.YtaicipldjmngaaaGreatDoor.pr Go.Proofs.YtaicipldjmngaaaGreatDoor.sp
open Go.RowKit
set_option linter.unusedVariables false
set_option linter.unusedSimpArgs false
def cZero : Cf := ⟨0, 0, 0, 0, 0, 0, 0, 0, 0, 0, 0⟩
theorem fitted_zero (W : World) : ∃ c : Cf, c.Ok ∧ Calls Tryz.prog 12 #[.agg #[.int .i64 0, .int .i64 0, .int .i64 0, .int .i64 0, .int .i64 0, .int .i64 0, .int .i64 0, .int .i64 0, .int .i64 0, .int .i64 0, .int .i64 0]] W fun e w' => e = .returned (.agg #[.int .i64 c.period, .int .i64 c.wait, .int .i64 c.indirect, .int .i64 c.least, .int .i64 c.most, .int .i64 c.want, .int .i64 c.mult, .int .i64 c.piggy, .int .i64 c.gossip, .int .i64 c.fanout, .int .i64 c.sync]) ∧ Below W.heap.size W w' := ⟨fitC cZero, fitC_ok cZero, Fitted_any cZero W⟩
theorem new_view (c : Cf) (i : Nat) : (Sw.new c 0 i []).view = [⟨0, i, 0⟩] := rfl
theorem new_selfU (c : Cf) (me : Int) (i : Nat) (xs : List Nat) : (Sw.new c me i xs).ro.selfU = ⟨me, i, 0⟩ := by
  show ((ro.Ro.new me i).T me).getD ⟨0, 0, 0⟩ = _
  unfold ro.Ro.new
  simp
theorem PkF.first {l : Nat → Nat} {w : World} {own : Int} {u : Value} {p : Pkt} {o : List Pkt} (h : PkF l w own u (p :: o)) : ∃ b off c, u = .slice (some ⟨b, off, none⟩) (o.length + 1) c ∧ b < w.heap.size ∧ w.cell? ⟨b, off, none⟩ = some (.int .i64 own) ∧ w.cell? ⟨b, off + 1, none⟩ = some (.int .i64 p.to) := by
  obtain ⟨L, h1, h2, _⟩ := h.row
  cases L with
  | nil => cases h1
  | cons y L =>
    simp only [List.map_cons, List.cons.injEq] at h1
    obtain ⟨rfl, h1⟩ := h1
    obtain ⟨A, c, e, hS, _, _, _⟩ := SK.of_row (poC_length own) h2
    obtain ⟨b, off, rfl, hb, hc⟩ := hS.at_ (j := 0) (by simp) (by simp)
    have hl : (y :: L).length = o.length + 1 := by rw [← h1, List.length_map, List.length_cons]
    rw [hl] at e
    exact ⟨b, off, c, e, hb, by have := hc 0 _ rfl; simpa using this, by have := hc 1 _ rfl; simpa using this⟩
set_option maxHeartbeats 8000000 in
set_option maxRecDepth 100000 in
theorem works_any (W0 : World) (hs : db.ScIs W0) : Calls Tryz.prog 13 #[] W0 fun e w' => e = .returned (.bool true) ∧ Below W0.heap.size W0 w' := by
  obtain ⟨c, hc, hF⟩ := fitted_zero W0
  have HF := Lib.hid hF
  have HNew := Lib.hid (fun W (hw : Below W0.heap.size W0 W) => New_any c hc 0 (by unfold isNode; omega) 1 (by omega) none 0 0 [] W (hs.below hw) (RV.zero _ _) (fun _ => rfl) (Nat.le_refl _) (by omega) (fun y hy => by cases hy))
  have hB : (Sw.new c 0 1 []).Base := Sw.Base.new hc (by unfold isNode; omega) (by omega) (fun y hy => by cases hy)
  have HB := Lib.hid hB
  have ue := fun w => up_eq (⟨0, 1, 0⟩ : Up) ⟨0, 1, 0⟩ w
  have ug := up_guard
  simp only [decide_true] at ue
  have e1 : ((1 : Nat) : Int) = 1 := rfl
  rw [e1] at ue
  clear hF hs hB hc e1
  go_enter Tryz.func13, Tryz.ntmps13
  go_wp2_with fail
  refine HF.out.mono ?_
  rintro e w1 ⟨rfl, hb1⟩
  have HN := HNew.out w1 hb1
  have e1 : ((1 : Nat) : Int) = 1 := rfl
  rw [e1] at HN
  have HN := Lib.hid HN
  have HB1 := Lib.hid hb1
  clear hb1 e1 HNew
  go_wp2_with fail
  refine HN.out.mono ?_
  rintro e w2 ⟨nv, l, rfl, ⟨x, hnd⟩, hl0, hb2⟩
  have hnd : NdX nv l w2 (Sw.new c 0 1 []) x := hnd
  have HJ := Lib.hid (Join_any hnd HB.out 1 (Nat.zero_le _))
  have HL0 := Lib.hid hl0
  have HB2 : Hid (Below W0.heap.size W0 w2) := Lib.hid (HB1.out.trans (hb2.mono HB1.out.size))
  clear hnd hl0 hb2
  go_wp2_with fail
  refine HJ.out.mono ?_
  rintro e w3 ⟨u, l2, rfl, ⟨x2, hn2⟩, hg2, hp2⟩
  have hj : (Sw.new c 0 1 []).join 1 = (((Sw.new c 0 1 []).send 1 ((Sw.new c 0 1 []).tables false)).flush, ((Sw.new c 0 1 []).send 1 ((Sw.new c 0 1 []).tables false)).out) := by
    unfold Sw.join
    rw [if_neg (by rintro (e | e | e | e); cases e; omega; omega; exact absurd e (by show ¬ (1 : Int) = 0; omega))]
    rfl
  have ho : ((Sw.new c 0 1 []).join 1).2 = [⟨1, (Sw.new c 0 1 []).tables false :: tellL (Sw.new c 0 1 []).own (Sw.new c 0 1 []).takes.1⟩] := by rw [hj]; rfl
  rw [ho] at hp2
  obtain ⟨b, off, cc, rfl, hbl, hc0, hc1⟩ := hp2.first
  have hro : ((Sw.new c 0 1 []).join 1).1.ro = (Sw.new c 0 1 []).ro := by rw [hj]; rfl
  have hsu : ((Sw.new c 0 1 []).join 1).1.ro.selfU = ⟨0, 1, 0⟩ := by rw [hro]; exact new_selfU c 0 1 []
  have hvw : ((Sw.new c 0 1 []).join 1).1.view = [⟨0, 1, 0⟩] := by unfold Sw.view; rw [hro]; exact new_view c 1
  have hS := Self_any hn2
  rw [hsu] at hS
  have e1 : ((1 : Nat) : Int) = 1 := rfl
  simp only [e1] at hS
  have HS := Lib.hid hS
  have HV := Lib.hid (fun W (hw : Below w3.heap.size w3 W) => by
    have := View_any (hn2.below hw)
    rw [hvw] at this
    exact this)
  have HB3 : Hid (Below W0.heap.size W0 w3) := Lib.hid (HB2.out.trans (hg2.but.below HB2.out.size (fun k hk e => by have h1 := HL0.out k e.1; have h2 := HB1.out.size; omega)))
  have c0' : w3.cell? ⟨b, off + 1, none⟩ = some (.int .i64 1) := hc1
  clear hn2 hg2 hp2 hj ho hro hsu hvw hS e1 hc0 hc1 hbl
  go_wp2_with fail
  refine HS.out.mono ?_
  rintro e w4 ⟨rfl, hb4⟩
  have HV4 := Lib.hid (HV.out w4 hb4)
  have HB4 : Hid (Below W0.heap.size W0 w4) := Lib.hid (HB3.out.trans (hb4.mono HB3.out.size))
  clear hb4 c0'
  go_wp2_with fail
  refine HV4.out.mono ?_
  rintro e w5 ⟨A5, c5, rfl, _, hb5⟩
  have HB5 : Hid (Below W0.heap.size W0 w5) := Lib.hid (HB4.out.trans (hb5.mono HB4.out.size))
  clear hb5
  go_wp2
  go_ret
  exact ⟨rfl, HB5.out⟩
end Go.Proofs.YtaicipldjmngaaaGreatDoor.sw

namespace Go.Proofs.YtaicipldjmngaaaGreatDoor.dr
end Go.Proofs.YtaicipldjmngaaaGreatDoor.dr
namespace Go.Proofs.YtaicipldjmngaaaGreatDoor.wh
end Go.Proofs.YtaicipldjmngaaaGreatDoor.wh
namespace Go.Proofs.YtaicipldjmngaaaGreatDoor.ro
end Go.Proofs.YtaicipldjmngaaaGreatDoor.ro
namespace Go.Proofs.YtaicipldjmngaaaGreatDoor.ru
end Go.Proofs.YtaicipldjmngaaaGreatDoor.ru
namespace Go.Proofs.YtaicipldjmngaaaGreatDoor.db
end Go.Proofs.YtaicipldjmngaaaGreatDoor.db
namespace Go.Proofs.YtaicipldjmngaaaGreatDoor.pr
end Go.Proofs.YtaicipldjmngaaaGreatDoor.pr
namespace Go.Proofs.YtaicipldjmngaaaGreatDoor.sp
end Go.Proofs.YtaicipldjmngaaaGreatDoor.sp
namespace Go.Proofs.YtaicipldjmngaaaGreatDoor.sw
open Go.Proofs.YtaicipldjmngaaaGreatDoor.dr Go.Proofs.YtaicipldjmngaaaGreatDoor.wh Go.Proofs.YtaicipldjmngaaaGreatDoor.ro Go.Proofs.YtaicipldjmngaaaGreatDoor.ru Go.Proofs.YtaicipldjmngaaaGreatDoor.db Go.Proofs.YtaicipldjmngaaaGreatDoor.pr Go.Proofs.YtaicipldjmngaaaGreatDoor.sp
open Go.RowKit
set_option linter.unusedVariables false
set_option linter.unusedSimpArgs false
theorem cells3 {W : World} {X : Nat} {v0 v1 v2 : Value} {t : TypeId} (h : W.heap[X]? = some (.cells #[v0, v1, v2] t (0, 0))) : W.cell? ⟨X, 0, none⟩ = some v0 ∧ W.cell? ⟨X, 1, none⟩ = some v1 ∧ W.cell? ⟨X, 2, none⟩ = some v2 := by
  refine ⟨?_, ?_, ?_⟩ <;> (rw [cell_of_row _ _ _ _ _ _ h]; rfl)
theorem cells4 {W : World} {X : Nat} {v0 v1 v2 v3 : Value} {t : TypeId} (h : W.heap[X]? = some (.cells #[v0, v1, v2, v3] t (0, 0))) : W.cell? ⟨X, 0, none⟩ = some v0 ∧ W.cell? ⟨X, 1, none⟩ = some v1 ∧ W.cell? ⟨X, 2, none⟩ = some v2 ∧ W.cell? ⟨X, 3, none⟩ = some v3 := by
  refine ⟨?_, ?_, ?_, ?_⟩ <;> (rw [cell_of_row _ _ _ _ _ _ h]; rfl)
set_option maxHeartbeats 8000000 in
set_option maxRecDepth 100000 in
theorem noSelf {w : World} {u : Value} (h : NoSw w u) : Calls Tryz.prog 23 #[u] w fun e w' => e = .returned (.agg #[.int .i64 0, .int .u32 0, .int .i64 0]) ∧ Below w.heap.size w w' := by
  have b1 := below1 w (.cells #[.int .i64 0, .int .u32 0, .int .i64 0] 63)
  have k1 := heap_alloc_new w (.cells #[.int .i64 0, .int .u32 0, .int .i64 0] 63)
  have HM := Lib.hid (made_no (h.below b1))
  obtain ⟨W1, hW1⟩ : ∃ W1, w.alloc (.cells #[.int .i64 0, .int .u32 0, .int .i64 0] 63) = W1 := ⟨_, rfl⟩
  obtain ⟨X, hX⟩ : ∃ X, w.heap.size = X := ⟨_, rfl⟩
  rw [hW1] at b1 k1 HM
  rw [hX] at k1
  have HX := Lib.hid hX
  have HW := Lib.hid hW1
  have HK := Lib.hid k1
  have HB := Lib.hid b1
  have g0 := blk_froz k1 0
  have g1 := blk_froz k1 1
  have g2 := blk_froz k1 2
  obtain ⟨q0, q1, q2⟩ := cells3 k1
  clear h b1 k1 hW1 hX
  go_enter Tryz.func23, Tryz.ntmps23
  go_wp2_with fail
  rw [HW.out, HX.out]
  refine HM.out.mono ?_
  rintro e w' ⟨rfl, rfl⟩
  go_wp2
  have hk : (((W1.setCell ⟨X, 0, none⟩ (.int .i64 0)).setCell ⟨X, 1, none⟩ (.int .u32 0)).setCell ⟨X, 2, none⟩ (.int .i64 0)).heap[X]? = some (.cells #[.int .i64 0, .int .u32 0, .int .i64 0] 63 (0, 0)) := (block_set (block_set (block_set HK.out 0 (.int .i64 0)) 1 (.int .u32 0)) 2 (.int .i64 0))
  obtain ⟨d0, d1, d2⟩ := cells3 hk
  refine bodyPost_ret (v := .agg #[.int .i64 0, .int .u32 0, .int .i64 0]) (by simp [results, Tryz.results23, go_sem, d0, d1, d2]) rfl ⟨rfl, ?_⟩
  have h1 : But (· = X) W1 (((W1.setCell ⟨X, 0, none⟩ (.int .i64 0)).setCell ⟨X, 1, none⟩ (.int .u32 0)).setCell ⟨X, 2, none⟩ (.int .i64 0)) := ((((But.refl _ _).trans (But.set (S := (· = X)) _ (p := ⟨X, 0, none⟩) rfl _)).trans (But.set (S := (· = X)) _ (p := ⟨X, 1, none⟩) rfl _)).trans (But.set (S := (· = X)) _ (p := ⟨X, 2, none⟩) rfl _))
  exact HB.out.trans (h1.below HB.out.size (fun k hk e => by have := HX.out; omega))
set_option maxHeartbeats 8000000 in
set_option maxRecDepth 100000 in
theorem noCounts {w : World} {u : Value} (h : NoSw w u) : Calls Tryz.prog 24 #[u] w fun e w' => e = .returned (.agg #[.int .i64 0, .int .i64 0, .bool false]) ∧ Below w.heap.size w w' := by
  have b1 := below1 w (.cells #[.int .i64 0, .int .i64 0, .bool false] 45)
  have k1 := heap_alloc_new w (.cells #[.int .i64 0, .int .i64 0, .bool false] 45)
  have HM := Lib.hid (made_no (h.below b1))
  obtain ⟨W1, hW1⟩ : ∃ W1, w.alloc (.cells #[.int .i64 0, .int .i64 0, .bool false] 45) = W1 := ⟨_, rfl⟩
  obtain ⟨X, hX⟩ : ∃ X, w.heap.size = X := ⟨_, rfl⟩
  rw [hW1] at b1 k1 HM
  rw [hX] at k1
  have HX := Lib.hid hX
  have HW := Lib.hid hW1
  have HK := Lib.hid k1
  have HB := Lib.hid b1
  have g0 := blk_froz k1 0
  have g1 := blk_froz k1 1
  have g2 := blk_froz k1 2
  obtain ⟨q0, q1, q2⟩ := cells3 k1
  clear h b1 k1 hW1 hX
  go_enter Tryz.func24, Tryz.ntmps24
  go_wp2_with fail
  rw [HW.out, HX.out]
  refine HM.out.mono ?_
  rintro e w' ⟨rfl, rfl⟩
  go_wp2
  have hk : (((W1.setCell ⟨X, 0, none⟩ (.int .i64 0)).setCell ⟨X, 1, none⟩ (.int .i64 0)).setCell ⟨X, 2, none⟩ (.bool false)).heap[X]? = some (.cells #[.int .i64 0, .int .i64 0, .bool false] 45 (0, 0)) := (block_set (block_set (block_set HK.out 0 (.int .i64 0)) 1 (.int .i64 0)) 2 (.bool false))
  obtain ⟨d0, d1, d2⟩ := cells3 hk
  refine bodyPost_ret (v := .agg #[.int .i64 0, .int .i64 0, .bool false]) (by simp [results, Tryz.results24, go_sem, d0, d1, d2]) rfl ⟨rfl, ?_⟩
  have h1 : But (· = X) W1 (((W1.setCell ⟨X, 0, none⟩ (.int .i64 0)).setCell ⟨X, 1, none⟩ (.int .i64 0)).setCell ⟨X, 2, none⟩ (.bool false)) := ((((But.refl _ _).trans (But.set (S := (· = X)) _ (p := ⟨X, 0, none⟩) rfl _)).trans (But.set (S := (· = X)) _ (p := ⟨X, 1, none⟩) rfl _)).trans (But.set (S := (· = X)) _ (p := ⟨X, 2, none⟩) rfl _))
  exact HB.out.trans (h1.below HB.out.size (fun k hk e => by have := HX.out; omega))
set_option maxHeartbeats 8000000 in
set_option maxRecDepth 100000 in
theorem noHeld {w : World} {u : Value} (n : Int) (h : NoSw w u) : Calls Tryz.prog 14 #[u, .int .i64 n] w fun e w' => e = .returned (.tuple #[.agg #[.int .u32 0, .int .i64 0, .int .i64 0, .int .i64 0], .bool false]) ∧ Below w.heap.size w w' := by
  have b1 := below1 w (.cells #[.int .u32 0, .int .i64 0, .int .i64 0, .int .i64 0] 51)
  have k1 := heap_alloc_new w (.cells #[.int .u32 0, .int .i64 0, .int .i64 0, .int .i64 0] 51)
  have HM := Lib.hid (made_no (h.below b1))
  obtain ⟨W1, hW1⟩ : ∃ W1, w.alloc (.cells #[.int .u32 0, .int .i64 0, .int .i64 0, .int .i64 0] 51) = W1 := ⟨_, rfl⟩
  obtain ⟨X, hX⟩ : ∃ X, w.heap.size = X := ⟨_, rfl⟩
  rw [hW1] at b1 k1 HM
  rw [hX] at k1
  have HX := Lib.hid hX
  have HW := Lib.hid hW1
  have HK := Lib.hid k1
  have HB := Lib.hid b1
  have g0 := blk_froz k1 0
  have g1 := blk_froz k1 1
  have g2 := blk_froz k1 2
  have g3 := blk_froz k1 3
  obtain ⟨q0, q1, q2, q3⟩ := cells4 k1
  clear h b1 k1 hW1 hX
  go_enter Tryz.func14, Tryz.ntmps14
  go_wp2_with fail
  rw [HW.out, HX.out]
  refine HM.out.mono ?_
  rintro e w' ⟨rfl, rfl⟩
  go_wp2
  have hk : ((((W1.setCell ⟨X, 0, none⟩ (.int .u32 0)).setCell ⟨X, 1, none⟩ (.int .i64 0)).setCell ⟨X, 2, none⟩ (.int .i64 0)).setCell ⟨X, 3, none⟩ (.int .i64 0)).heap[X]? = some (.cells #[.int .u32 0, .int .i64 0, .int .i64 0, .int .i64 0] 51 (0, 0)) := (block_set (block_set (block_set (block_set HK.out 0 (.int .u32 0)) 1 (.int .i64 0)) 2 (.int .i64 0)) 3 (.int .i64 0))
  obtain ⟨d0, d1, d2, d3⟩ := cells4 hk
  refine bodyPost_ret (v := .tuple #[.agg #[.int .u32 0, .int .i64 0, .int .i64 0, .int .i64 0], .bool false]) (by simp [results, Tryz.results14, go_sem, d0, d1, d2, d3]) rfl ⟨rfl, ?_⟩
  have h1 : But (· = X) W1 ((((W1.setCell ⟨X, 0, none⟩ (.int .u32 0)).setCell ⟨X, 1, none⟩ (.int .i64 0)).setCell ⟨X, 2, none⟩ (.int .i64 0)).setCell ⟨X, 3, none⟩ (.int .i64 0)) := (((((But.refl _ _).trans (But.set (S := (· = X)) _ (p := ⟨X, 0, none⟩) rfl _)).trans (But.set (S := (· = X)) _ (p := ⟨X, 1, none⟩) rfl _)).trans (But.set (S := (· = X)) _ (p := ⟨X, 2, none⟩) rfl _)).trans (But.set (S := (· = X)) _ (p := ⟨X, 3, none⟩) rfl _))
  exact HB.out.trans (h1.below HB.out.size (fun k hk e => by have := HX.out; omega))
set_option maxHeartbeats 8000000 in
set_option maxRecDepth 100000 in
theorem noReceive {w : World} {u : Value} (a b : Int) (A : Option Addr) (n c : Nat) (h : NoSw w u) : Calls Tryz.prog 16 #[u, .agg #[.int .i64 a, .int .i64 b, .slice A n c]] w fun e w' => e = .returned (.slice none 0 0) ∧ Below w.heap.size w w' := by
  have b1 := below1 w (.cells #[.int .i64 a, .int .i64 b, .slice A n c] 29)
  obtain ⟨W1, hW1⟩ : ∃ W1, w.alloc (.cells #[.int .i64 a, .int .i64 b, .slice A n c] 29) = W1 := ⟨_, rfl⟩
  rw [hW1] at b1
  have HM := Lib.hid (fun m => active_none ((h.below b1).below (below_drewN (Below.refl _ W1) m)))
  obtain ⟨X, hX⟩ : ∃ X, w.heap.size = X := ⟨_, rfl⟩
  have HX := Lib.hid hX
  have HW := Lib.hid hW1
  have HB := Lib.hid b1
  clear h b1 hW1 hX
  go_enter Tryz.func16, Tryz.ntmps16
  go_wp2
  rw [HW.out, HX.out]
  go_quiet ((go_at_call 43; exact Calls.quiet_of_same ((HM.out _).mono fun _ _ ⟨h1, h2⟩ => ⟨h1, h2.symm⟩)))
  rename_i nq
  go_wp2
  go_ret
  exact ⟨rfl, HB.out.trans (below_drewN (Below.refl _ _) _)⟩
end Go.Proofs.YtaicipldjmngaaaGreatDoor.sw

namespace Go.Proofs.YtaicipldjmngaaaGreatDoor.dr
end Go.Proofs.YtaicipldjmngaaaGreatDoor.dr
namespace Go.Proofs.YtaicipldjmngaaaGreatDoor.wh
end Go.Proofs.YtaicipldjmngaaaGreatDoor.wh
namespace Go.Proofs.YtaicipldjmngaaaGreatDoor.ro
end Go.Proofs.YtaicipldjmngaaaGreatDoor.ro
namespace Go.Proofs.YtaicipldjmngaaaGreatDoor.ru
end Go.Proofs.YtaicipldjmngaaaGreatDoor.ru
namespace Go.Proofs.YtaicipldjmngaaaGreatDoor.db
end Go.Proofs.YtaicipldjmngaaaGreatDoor.db
namespace Go.Proofs.YtaicipldjmngaaaGreatDoor.pr
end Go.Proofs.YtaicipldjmngaaaGreatDoor.pr
namespace Go.Proofs.YtaicipldjmngaaaGreatDoor.sp
end Go.Proofs.YtaicipldjmngaaaGreatDoor.sp
namespace Go.Proofs.YtaicipldjmngaaaGreatDoor.sw
open Go.Proofs.YtaicipldjmngaaaGreatDoor.dr Go.Proofs.YtaicipldjmngaaaGreatDoor.wh Go.Proofs.YtaicipldjmngaaaGreatDoor.ro Go.Proofs.YtaicipldjmngaaaGreatDoor.ru Go.Proofs.YtaicipldjmngaaaGreatDoor.db Go.Proofs.YtaicipldjmngaaaGreatDoor.pr Go.Proofs.YtaicipldjmngaaaGreatDoor.sp
open Go.RowKit
set_option linter.unusedVariables false
set_option linter.unusedSimpArgs false
structure Pn where
  src : Int
  dst : Int
  A : Option Addr
  n : Nat
  c : Nat
def noR (_ : Nat → Prop) (u : Value) (n : Int) (X : Nat) (p : Pn) : Nat → Value → World → Prop
  | 0, v, _ => v = u
  | 1, v, _ => v = .slice none 0 0
  | 2, v, _ => v = .int .i64 0
  | 3, v, _ => v = u
  | 4, v, _ => v = .agg #[.int .i64 p.src, .int .i64 p.dst, .slice p.A p.n p.c]
  | 5, v, _ => v = .slice none 0 0
  | 6, v, _ => v = .int .i64 0
  | 7, v, _ => v = .int .i64 0
  | 8, v, _ => v = u
  | 9, v, _ => v = .int .i64 n
  | 10, v, _ => v = .slice none 0 0
  | 11, v, _ => v = .int .i64 0
  | 12, v, _ => v = .int .i64 0
  | 13, v, _ => v = u
  | 14, v, _ => v = .slice none 0 0
  | 15, v, _ => v = .int .i64 0
  | 16, v, _ => v = .int .i64 0
  | 17, v, _ => v = u
  | 18, v, _ => v = .slice none 0 0
  | 19, v, _ => v = .int .i64 0
  | 20, v, _ => v = .int .i64 0
  | 21, v, _ => v = u
  | 22, v, _ => v = .slice none 0 0
  | 23, v, _ => v = .int .i64 0
  | 24, v, _ => v = .int .i64 0
  | 25, v, _ => v = u
  | 26, v, _ => v = .slice none 0 0
  | 27, v, _ => v = .int .i64 0
  | 28, v, _ => v = .int .i64 0
  | 29, v, _ => v = u
  | 30, v, _ => v = .slice none 0 0
  | 31, v, _ => v = .int .i64 0
  | 32, v, _ => v = .int .i64 0
  | 33, v, _ => v = .bool false
  | _, _, _ => True
theorem noR_stable {W1 : World} (u : Value) (n : Int) (X : Nat) (p : Pn) : ∀ i v w w', noR (OldB W1) u n X p i v w → But (OldB W1) w w' → noR (OldB W1) u n X p i v w'
  | 0, _, _, _, h, _ | 1, _, _, _, h, _ | 2, _, _, _, h, _ | 3, _, _, _, h, _ | 4, _, _, _, h, _ | 5, _, _, _, h, _ | 6, _, _, _, h, _ | 7, _, _, _, h, _ | 8, _, _, _, h, _ | 9, _, _, _, h, _ | 10, _, _, _, h, _ | 11, _, _, _, h, _ | 12, _, _, _, h, _ | 13, _, _, _, h, _ | 14, _, _, _, h, _ | 15, _, _, _, h, _ | 16, _, _, _, h, _ | 17, _, _, _, h, _ | 18, _, _, _, h, _ | 19, _, _, _, h, _ | 20, _, _, _, h, _ | 21, _, _, _, h, _ | 22, _, _, _, h, _ | 23, _, _, _, h, _ | 24, _, _, _, h, _ | 25, _, _, _, h, _ | 26, _, _, _, h, _ | 27, _, _, _, h, _ | 28, _, _, _, h, _ | 29, _, _, _, h, _ | 30, _, _, _, h, _ | 31, _, _, _, h, _ | 32, _, _, _, h, _ | 33, _, _, _, h, _ => h
  | _ + 34, _, _, _, h, _ => h
def ndZ : Array Value := #[.int .i64 0, .int .i64 0, .int .i64 0, .int .i64 0, .int .i64 0, .int .i64 0, .int .i64 0, .int .i64 0, .int .i64 0, .int .i64 0, .int .i64 0, .int .i64 0] ++ #[.pointer none, .pointer none, .pointer none, .pointer none, .pointer none, .map none, .int .u32 0] ++ #[.pointer none, .pointer none, .pointer none, .pointer none, .pointer none, .pointer none, .pointer none, .pointer none, .pointer none] ++ #[.int .i64 0, .slice none 0 0, .int .i64 0, .int .i64 0, .bool false, .slice none 0 0]
theorem ndZ_17 : ndZ[17]? = some (.map none) := by kernel_rfl
theorem held_eq (w : World) : (Op.equalIn 10000 51 (.agg #[.int .u32 0, .int .i64 0, .int .i64 0, .int .i64 0]) (.agg #[.int .u32 0, .int .i64 0, .int .i64 0, .int .i64 0])).run Tryz.prog w = .ok true w := by kernel_rfl
theorem held_guard : Tryz.prog.eqGuardType Tryz.prog.depth 51 = false := by kernel_rfl
theorem counts_eq (w : World) : (Op.equalIn 10000 45 (.agg #[.int .i64 0, .int .i64 0, .bool false]) (.agg #[.int .i64 0, .int .i64 0, .bool false])).run Tryz.prog w = .ok true w := by kernel_rfl
theorem counts_guard : Tryz.prog.eqGuardType Tryz.prog.depth 45 = false := by kernel_rfl
set_option maxHeartbeats 8000000 in
set_option maxRecDepth 100000 in
theorem none_walk (p : Pn) (n : Int) (hn : -9223372036854775808 ≤ n ∧ n ≤ 9223372036854775807) (W0 : World) (hs : db.ScIs W0) : Calls Tryz.prog 4 #[.agg #[.int .i64 p.src, .int .i64 p.dst, .slice p.A p.n p.c], .int .i64 n] W0 fun e w' => e = .returned (.bool true) ∧ Below W0.heap.size W0 w' := by
  have b1 := below1 W0 (.cells #[.int .i64 p.src, .int .i64 p.dst, .slice p.A p.n p.c] 29)
  have k1 := heap_alloc_new W0 (.cells #[.int .i64 p.src, .int .i64 p.dst, .slice p.A p.n p.c] 29)
  obtain ⟨W1, hW1⟩ : ∃ W1, W0.alloc (.cells #[.int .i64 p.src, .int .i64 p.dst, .slice p.A p.n p.c] 29) = W1 := ⟨_, rfl⟩
  rw [hW1] at b1 k1
  obtain ⟨X, hX⟩ : ∃ X, W0.heap.size = X := ⟨_, rfl⟩
  rw [hX] at k1
  have s1 : W1.heap.size = X + 1 := by rw [← hW1, ← hX]; simp
  have b2 := below1 W1 (.cells ndZ 48)
  have k2 := heap_alloc_new W1 (.cells ndZ 48)
  obtain ⟨W2, hW2⟩ : ∃ W2, W1.alloc (.cells ndZ 48) = W2 := ⟨_, rfl⟩
  rw [hW2] at b2 k2
  rw [s1] at k2
  have s2 : W2.heap.size = X + 1 + 1 := by rw [← hW2]; simp [s1]
  have b3 := below1 W2 (.cells #[.pointer none, .pointer (some ⟨X + 1, 0, none⟩)] 30)
  have k3 := heap_alloc_new W2 (.cells #[.pointer none, .pointer (some ⟨X + 1, 0, none⟩)] 30)
  obtain ⟨W3, hW3⟩ : ∃ W3, W2.alloc (.cells #[.pointer none, .pointer (some ⟨X + 1, 0, none⟩)] 30) = W3 := ⟨_, rfl⟩
  rw [hW3] at b3 k3
  rw [s2] at k3
  have HB3 : Hid (Below W0.heap.size W0 W3) := Lib.hid ((b1.trans (b2.mono b1.size)).trans (b3.mono (b1.trans (b2.mono b1.size)).size))
  have HP3 : Hid (W3.heap[X]? = some (.cells #[.int .i64 p.src, .int .i64 p.dst, .slice p.A p.n p.c] 29 (0, 0))) := Lib.hid ((b3.block X (by omega)).trans ((b2.block X (by omega)).trans k1))
  have HNo : Hid (∀ k, k < 2 → ∀ W, Below W3.heap.size W3 W → ∃ u, W.cell? ⟨X + 1 + 1, k, none⟩ = some u ∧ NoSw W u) := Lib.hid (fun k hk W hw => by
    have hr := (hw.block _ (block_lt k3)).trans k3
    have hz := (hw.block _ (by have := block_lt k3; omega)).trans ((b3.block (X + 1) (by omega)).trans k2)
    have hk' : k = 0 ∨ k = 1 := by omega
    rcases hk' with rfl | rfl
    · exact ⟨.pointer none, by rw [cell_of_row _ _ _ _ _ _ hr]; rfl, .inl rfl⟩
    · refine ⟨.pointer (some ⟨X + 1, 0, none⟩), by rw [cell_of_row _ _ _ _ _ _ hr]; rfl, .inr ⟨X + 1, rfl, ?_⟩⟩
      rw [cell_of_row _ _ _ _ _ _ hz]
      exact ndZ_17)
  have HWk := Lib.hid (fun W (hw : Below W0.heap.size W0 W) => works_any W (hs.below hw))
  have HX := Lib.hid hX
  have HS1 := Lib.hid s1
  have HS2 := Lib.hid s2
  have HW1 := Lib.hid hW1
  have HW2 := Lib.hid hW2
  have HW3 := Lib.hid hW3
  have HKey : Hid (∀ A : Array Value, (hA : A = ndZ) → (W1.alloc (.cells A 48)).alloc (.cells #[.pointer none, .pointer (some ⟨X + 1, 0, none⟩)] 30) = W3) := Lib.hid (fun A hA => by rw [hA, HW2.out, HW3.out])
  have ue := fun w => up_eq (⟨0, 0, 0⟩ : Up) ⟨0, 0, 0⟩ w
  simp only [decide_true] at ue
  have e00 : ((0 : Nat) : Int) = 0 := rfl
  rw [e00] at ue
  have ug := up_guard
  have he := held_eq
  have hg := held_guard
  have ce := counts_eq
  have cg := counts_guard
  clear hs b1 k1 hW1 hX s1 b2 k2 hW2 s2 b3 k3 hW3 e00 hn
  go_enter Tryz.func4, Tryz.ntmps4
  go_wp2_with fail
  rw [HX.out, HW1.out, HKey.out]
  case hA => kernel_rfl
  have HB30 : Hid (Below W3.heap.size W3 W3) := Lib.hid (Below.refl _ _)
  go_loopw [7] (fun kv wr => ∃ k : Nat, k ≤ 2 ∧ kv = .int .i64 (k : Int) ∧ Hid (Below W3.heap.size W3 wr)) (fun kv _ => 2 - (RowKit.intOf kv).toNat)
  case atStart => exact ⟨0, by omega, rfl, HB30⟩
  case round =>
    obtain ⟨k, hk, rfl, hbr⟩ := hrel
    by_cases hlt : k < 2
    · obtain ⟨u, hcu, hno⟩ := HNo.out k hlt wr hbr.out
      have HN := Lib.hid hno
      have HHe := Lib.hid (noHeld n hno)
      have q0 : (0 : Int) ≤ (k : Int) := by omega
      have q1 : (k : Int) < 2 := by omega
      clear hno
      go_wp2_with fail
      refine HHe.out.mono ?_
      rintro e w4 ⟨rfl, hb4⟩
      have hb5 := below1 w4 (.cells #[.int .u32 0, .int .i64 0, .int .i64 0, .int .i64 0] 51)
      have hk5 := heap_alloc_new w4 (.cells #[.int .u32 0, .int .i64 0, .int .i64 0, .int .i64 0] 51)
      obtain ⟨W5, hW5⟩ : ∃ W5, w4.alloc (.cells #[.int .u32 0, .int .i64 0, .int .i64 0, .int .i64 0] 51) = W5 := ⟨_, rfl⟩
      obtain ⟨Y, hY⟩ : ∃ Y, w4.heap.size = Y := ⟨_, rfl⟩
      rw [hW5] at hb5 hk5
      rw [hY] at hk5
      have HW5 := Lib.hid hW5
      have HY := Lib.hid hY
      have HK5 := Lib.hid hk5
      have HBr5 : Hid (Below wr.heap.size wr W5) := Lib.hid (hb4.trans (hb5.mono hb4.size))
      have HP0 : Hid (W5.heap[X]? = some (.cells #[.int .i64 p.src, .int .i64 p.dst, .slice p.A p.n p.c] 29 (0, 0))) := Lib.hid (by
        have h1 := (hbr.out.block X (block_lt HP3.out)).trans HP3.out
        exact (HBr5.out.block X (block_lt h1)).trans h1)
      have HN5 := Lib.hid (fun W (hw : Below W5.heap.size W5 W) => (HN.out.below HBr5.out).below hw)
      have HTi := Lib.hid (fun W (hw : Below W5.heap.size W5 W) => noTick (HN5.out W hw))
      have HRe := Lib.hid (fun W (hw : Below W5.heap.size W5 W) => noReceive p.src p.dst p.A p.n p.c (HN5.out W hw))
      have HJo := Lib.hid (fun W (hw : Below W5.heap.size W5 W) => noJoin n (HN5.out W hw))
      have HLe := Lib.hid (fun W (hw : Below W5.heap.size W5 W) => noLeave (HN5.out W hw))
      have HVi := Lib.hid (fun W (hw : Below W5.heap.size W5 W) => noView (HN5.out W hw))
      have HLi := Lib.hid (fun W (hw : Below W5.heap.size W5 W) => noLive (HN5.out W hw))
      have HRu := Lib.hid (fun W (hw : Below W5.heap.size W5 W) => noRumors (HN5.out W hw))
      have HEv := Lib.hid (fun W (hw : Below W5.heap.size W5 W) => noEvents (HN5.out W hw))
      have HSe := Lib.hid (fun W (hw : Below W5.heap.size W5 W) => noSelf (HN5.out W hw))
      have HCo := Lib.hid (fun W (hw : Below W5.heap.size W5 W) => noCounts (HN5.out W hw))
      clear hb4 hb5 hk5 hW5 hY hcu
      go_wp2
      rw [HW5.out, HY.out]
      refine Go.Rel.wp_region_states (by kernel_rfl) (by kernel_rfl) (by kernel_rfl) (by kernel_rfl) (TI 33 W5 (fun w => Below W5.heap.size W5 w)) (But (OldB W5)) (fun _ _ _ h k => h.trans k) OldB.drew TI.start (noR (OldB W5) u n X p) (noR_stable u n X p) ?hs6 ?he6
      case hs6 =>
        refine (.cons ?_ (.cons ?_ (.cons ?_ (.cons ?_ (.cons ?_ (.cons ?_ (.cons ?_ (.cons ?_ (.cons ?_ (.cons ?_ (.cons ?_ (.cons ?_ (.cons ?_ (.cons ?_ (.cons ?_ (.cons ?_ (.cons ?_ (.cons ?_ (.cons ?_ (.cons ?_ (.cons ?_ (.cons ?_ (.cons ?_ (.cons ?_ (.cons ?_ (.cons ?_ (.cons ?_ (.cons ?_ (.cons ?_ (.cons ?_ (.cons ?_ (.cons ?_ (.cons ?_ (.cons ?_ .nil))))))))))))))))))))))))))))))))))
        · intro f a w' hI hf hanc hdesc hle hs' hd K hK
          have f8 : a.tmps[8]? = some (u) := hs'.2.2 8 (by kernel_rfl)
          unfold Go.Rel.stepOf
          go_simp
          exact hK _ _ (But.refl _ _) (hI.read (j := 0) (by decide)) rfl
        · intro f a w' hI hf hanc hdesc hle hs' hd K hK
          obtain ⟨_, t0, rfl⟩ := hd 0 31 (by kernel_rfl)
          have zL : f 33 = false := hdesc 60 33 (by kernel_rfl)
          unfold Go.Rel.stepOf
          go_simp
          refine (HTi.out w' (hI.ahead zL)).mono ?_
          rintro e w2 ⟨rfl, hb2⟩
          exact hK _ _ (But.of_below hb2) (hI.below zL hb2 (by decide)) rfl
        · intro f a w' hI hf hanc hdesc hle hs' hd K hK
          obtain ⟨_, t1, rfl⟩ := hd 1 32 (by kernel_rfl)
          unfold Go.Rel.stepOf
          go_simp
          exact hK _ _ (But.refl _ _) (hI.read (j := 2) (by decide)) rfl
        · intro f a w' hI hf hanc hdesc hle hs' hd K hK
          have f8 : a.tmps[8]? = some (u) := hs'.2.2 8 (by kernel_rfl)
          unfold Go.Rel.stepOf
          go_simp
          exact hK _ _ (But.refl _ _) (hI.read (j := 3) (by decide)) rfl
        · intro f a w' hI hf hanc hdesc hle hs' hd K hK
          have f2 : a.tmps[2]? = some (.pointer (some ⟨X, 0, none⟩)) := hs'.2.2 2 (by kernel_rfl)
          have zL : f 33 = false := hdesc 60 33 (by kernel_rfl)
          obtain ⟨q0, q1, q2⟩ := cells3 ((hI.ahead zL).block X (block_lt HP0.out) |>.trans HP0.out)
          unfold Go.Rel.stepOf
          go_simp
          exact hK _ _ (But.refl _ _) (hI.read (j := 4) (by decide)) rfl
        · intro f a w' hI hf hanc hdesc hle hs' hd K hK
          obtain ⟨_, t3, rfl⟩ := hd 3 34 (by kernel_rfl)
          obtain ⟨_, t4, rfl⟩ := hd 4 35 (by kernel_rfl)
          have zL : f 33 = false := hdesc 60 33 (by kernel_rfl)
          unfold Go.Rel.stepOf
          go_simp
          refine (HRe.out w' (hI.ahead zL)).mono ?_
          rintro e w2 ⟨rfl, hb2⟩
          exact hK _ _ (But.of_below hb2) (hI.below zL hb2 (by decide)) rfl
        · intro f a w' hI hf hanc hdesc hle hs' hd K hK
          obtain ⟨_, t5, rfl⟩ := hd 5 36 (by kernel_rfl)
          unfold Go.Rel.stepOf
          go_simp
          exact hK _ _ (But.refl _ _) (hI.read (j := 6) (by decide)) rfl
        · intro f a w' hI hf hanc hdesc hle hs' hd K hK
          obtain ⟨_, t2, rfl⟩ := hd 2 33 (by kernel_rfl)
          obtain ⟨_, t6, rfl⟩ := hd 6 37 (by kernel_rfl)
          unfold Go.Rel.stepOf
          go_simp
          exact hK _ _ (But.refl _ _) (hI.read (j := 7) (by decide)) rfl
        · intro f a w' hI hf hanc hdesc hle hs' hd K hK
          have f8 : a.tmps[8]? = some (u) := hs'.2.2 8 (by kernel_rfl)
          unfold Go.Rel.stepOf
          go_simp
          exact hK _ _ (But.refl _ _) (hI.read (j := 8) (by decide)) rfl
        · intro f a w' hI hf hanc hdesc hle hs' hd K hK
          have f1 : a.tmps[1]? = some (.int .i64 n) := hs'.2.2 1 (by kernel_rfl)
          unfold Go.Rel.stepOf
          go_simp
          exact hK _ _ (But.refl _ _) (hI.read (j := 9) (by decide)) rfl
        · intro f a w' hI hf hanc hdesc hle hs' hd K hK
          obtain ⟨_, t8, rfl⟩ := hd 8 39 (by kernel_rfl)
          obtain ⟨_, t9, rfl⟩ := hd 9 40 (by kernel_rfl)
          have zL : f 33 = false := hdesc 60 33 (by kernel_rfl)
          unfold Go.Rel.stepOf
          go_simp
          refine (HJo.out w' (hI.ahead zL)).mono ?_
          rintro e w2 ⟨rfl, hb2⟩
          exact hK _ _ (But.of_below hb2) (hI.below zL hb2 (by decide)) rfl
        · intro f a w' hI hf hanc hdesc hle hs' hd K hK
          obtain ⟨_, t10, rfl⟩ := hd 10 41 (by kernel_rfl)
          unfold Go.Rel.stepOf
          go_simp
          exact hK _ _ (But.refl _ _) (hI.read (j := 11) (by decide)) rfl
        · intro f a w' hI hf hanc hdesc hle hs' hd K hK
          obtain ⟨_, t7, rfl⟩ := hd 7 38 (by kernel_rfl)
          obtain ⟨_, t11, rfl⟩ := hd 11 42 (by kernel_rfl)
          unfold Go.Rel.stepOf
          go_simp
          exact hK _ _ (But.refl _ _) (hI.read (j := 12) (by decide)) rfl
        · intro f a w' hI hf hanc hdesc hle hs' hd K hK
          have f8 : a.tmps[8]? = some (u) := hs'.2.2 8 (by kernel_rfl)
          unfold Go.Rel.stepOf
          go_simp
          exact hK _ _ (But.refl _ _) (hI.read (j := 13) (by decide)) rfl
        · intro f a w' hI hf hanc hdesc hle hs' hd K hK
          obtain ⟨_, t13, rfl⟩ := hd 13 44 (by kernel_rfl)
          have zL : f 33 = false := hdesc 60 33 (by kernel_rfl)
          unfold Go.Rel.stepOf
          go_simp
          refine (HLe.out w' (hI.ahead zL)).mono ?_
          rintro e w2 ⟨rfl, hb2⟩
          exact hK _ _ (But.of_below hb2) (hI.below zL hb2 (by decide)) rfl
        · intro f a w' hI hf hanc hdesc hle hs' hd K hK
          obtain ⟨_, t14, rfl⟩ := hd 14 45 (by kernel_rfl)
          unfold Go.Rel.stepOf
          go_simp
          exact hK _ _ (But.refl _ _) (hI.read (j := 15) (by decide)) rfl
        · intro f a w' hI hf hanc hdesc hle hs' hd K hK
          obtain ⟨_, t12, rfl⟩ := hd 12 43 (by kernel_rfl)
          obtain ⟨_, t15, rfl⟩ := hd 15 46 (by kernel_rfl)
          unfold Go.Rel.stepOf
          go_simp
          exact hK _ _ (But.refl _ _) (hI.read (j := 16) (by decide)) rfl
        · intro f a w' hI hf hanc hdesc hle hs' hd K hK
          have f8 : a.tmps[8]? = some (u) := hs'.2.2 8 (by kernel_rfl)
          unfold Go.Rel.stepOf
          go_simp
          exact hK _ _ (But.refl _ _) (hI.read (j := 17) (by decide)) rfl
        · intro f a w' hI hf hanc hdesc hle hs' hd K hK
          obtain ⟨_, t17, rfl⟩ := hd 17 48 (by kernel_rfl)
          have zL : f 33 = false := hdesc 60 33 (by kernel_rfl)
          unfold Go.Rel.stepOf
          go_simp
          refine (HVi.out w' (hI.ahead zL)).mono ?_
          rintro e w2 ⟨rfl, hb2⟩
          exact hK _ _ (But.of_below hb2) (hI.below zL hb2 (by decide)) rfl
        · intro f a w' hI hf hanc hdesc hle hs' hd K hK
          obtain ⟨_, t18, rfl⟩ := hd 18 49 (by kernel_rfl)
          unfold Go.Rel.stepOf
          go_simp
          exact hK _ _ (But.refl _ _) (hI.read (j := 19) (by decide)) rfl
        · intro f a w' hI hf hanc hdesc hle hs' hd K hK
          obtain ⟨_, t16, rfl⟩ := hd 16 47 (by kernel_rfl)
          obtain ⟨_, t19, rfl⟩ := hd 19 50 (by kernel_rfl)
          unfold Go.Rel.stepOf
          go_simp
          exact hK _ _ (But.refl _ _) (hI.read (j := 20) (by decide)) rfl
        · intro f a w' hI hf hanc hdesc hle hs' hd K hK
          have f8 : a.tmps[8]? = some (u) := hs'.2.2 8 (by kernel_rfl)
          unfold Go.Rel.stepOf
          go_simp
          exact hK _ _ (But.refl _ _) (hI.read (j := 21) (by decide)) rfl
        · intro f a w' hI hf hanc hdesc hle hs' hd K hK
          obtain ⟨_, t21, rfl⟩ := hd 21 52 (by kernel_rfl)
          have zL : f 33 = false := hdesc 60 33 (by kernel_rfl)
          unfold Go.Rel.stepOf
          go_simp
          refine (HLi.out w' (hI.ahead zL)).mono ?_
          rintro e w2 ⟨rfl, hb2⟩
          exact hK _ _ (But.of_below hb2) (hI.below zL hb2 (by decide)) rfl
        · intro f a w' hI hf hanc hdesc hle hs' hd K hK
          obtain ⟨_, t22, rfl⟩ := hd 22 53 (by kernel_rfl)
          unfold Go.Rel.stepOf
          go_simp
          exact hK _ _ (But.refl _ _) (hI.read (j := 23) (by decide)) rfl
        · intro f a w' hI hf hanc hdesc hle hs' hd K hK
          obtain ⟨_, t20, rfl⟩ := hd 20 51 (by kernel_rfl)
          obtain ⟨_, t23, rfl⟩ := hd 23 54 (by kernel_rfl)
          unfold Go.Rel.stepOf
          go_simp
          exact hK _ _ (But.refl _ _) (hI.read (j := 24) (by decide)) rfl
        · intro f a w' hI hf hanc hdesc hle hs' hd K hK
          have f8 : a.tmps[8]? = some (u) := hs'.2.2 8 (by kernel_rfl)
          unfold Go.Rel.stepOf
          go_simp
          exact hK _ _ (But.refl _ _) (hI.read (j := 25) (by decide)) rfl
        · intro f a w' hI hf hanc hdesc hle hs' hd K hK
          obtain ⟨_, t25, rfl⟩ := hd 25 56 (by kernel_rfl)
          have zL : f 33 = false := hdesc 60 33 (by kernel_rfl)
          unfold Go.Rel.stepOf
          go_simp
          refine (HRu.out w' (hI.ahead zL)).mono ?_
          rintro e w2 ⟨rfl, hb2⟩
          exact hK _ _ (But.of_below hb2) (hI.below zL hb2 (by decide)) rfl
        · intro f a w' hI hf hanc hdesc hle hs' hd K hK
          obtain ⟨_, t26, rfl⟩ := hd 26 57 (by kernel_rfl)
          unfold Go.Rel.stepOf
          go_simp
          exact hK _ _ (But.refl _ _) (hI.read (j := 27) (by decide)) rfl
        · intro f a w' hI hf hanc hdesc hle hs' hd K hK
          obtain ⟨_, t24, rfl⟩ := hd 24 55 (by kernel_rfl)
          obtain ⟨_, t27, rfl⟩ := hd 27 58 (by kernel_rfl)
          unfold Go.Rel.stepOf
          go_simp
          exact hK _ _ (But.refl _ _) (hI.read (j := 28) (by decide)) rfl
        · intro f a w' hI hf hanc hdesc hle hs' hd K hK
          have f8 : a.tmps[8]? = some (u) := hs'.2.2 8 (by kernel_rfl)
          unfold Go.Rel.stepOf
          go_simp
          exact hK _ _ (But.refl _ _) (hI.read (j := 29) (by decide)) rfl
        · intro f a w' hI hf hanc hdesc hle hs' hd K hK
          obtain ⟨_, t29, rfl⟩ := hd 29 60 (by kernel_rfl)
          have zL : f 33 = false := hdesc 60 33 (by kernel_rfl)
          unfold Go.Rel.stepOf
          go_simp
          refine (HEv.out w' (hI.ahead zL)).mono ?_
          rintro e w2 ⟨rfl, hb2⟩
          exact hK _ _ (But.of_below hb2) (hI.below zL hb2 (by decide)) rfl
        · intro f a w' hI hf hanc hdesc hle hs' hd K hK
          obtain ⟨_, t30, rfl⟩ := hd 30 61 (by kernel_rfl)
          unfold Go.Rel.stepOf
          go_simp
          exact hK _ _ (But.refl _ _) (hI.read (j := 31) (by decide)) rfl
        · intro f a w' hI hf hanc hdesc hle hs' hd K hK
          obtain ⟨_, t28, rfl⟩ := hd 28 59 (by kernel_rfl)
          obtain ⟨_, t31, rfl⟩ := hd 31 62 (by kernel_rfl)
          unfold Go.Rel.stepOf
          go_simp
          exact hK _ _ (But.refl _ _) (hI.read (j := 32) (by decide)) rfl
        · intro f a w' hI hf hanc hdesc hle hs' hd K hK
          obtain ⟨_, t32, rfl⟩ := hd 32 63 (by kernel_rfl)
          unfold Go.Rel.stepOf
          go_simp
          exact hK _ _ (But.refl _ _) (TI.last (hI.ahead hf)) rfl
      case he6 =>
        intro f a w6 hall hJ hle hs' hR'
        have HP6 := Lib.hid (hJ.done_ (hall 33 (by decide)))
        clear hJ hall hle
        obtain ⟨v31, s31, _⟩ := hR' 0 31 (by kernel_rfl)
        obtain ⟨v32, s32, _⟩ := hR' 1 32 (by kernel_rfl)
        obtain ⟨v33, s33, _⟩ := hR' 2 33 (by kernel_rfl)
        obtain ⟨v34, s34, _⟩ := hR' 3 34 (by kernel_rfl)
        obtain ⟨v35, s35, _⟩ := hR' 4 35 (by kernel_rfl)
        obtain ⟨v36, s36, _⟩ := hR' 5 36 (by kernel_rfl)
        obtain ⟨v37, s37, _⟩ := hR' 6 37 (by kernel_rfl)
        obtain ⟨v38, s38, _⟩ := hR' 7 38 (by kernel_rfl)
        obtain ⟨v39, s39, _⟩ := hR' 8 39 (by kernel_rfl)
        obtain ⟨v40, s40, _⟩ := hR' 9 40 (by kernel_rfl)
        obtain ⟨v41, s41, _⟩ := hR' 10 41 (by kernel_rfl)
        obtain ⟨v42, s42, _⟩ := hR' 11 42 (by kernel_rfl)
        obtain ⟨v43, s43, _⟩ := hR' 12 43 (by kernel_rfl)
        obtain ⟨v44, s44, _⟩ := hR' 13 44 (by kernel_rfl)
        obtain ⟨v45, s45, _⟩ := hR' 14 45 (by kernel_rfl)
        obtain ⟨v46, s46, _⟩ := hR' 15 46 (by kernel_rfl)
        obtain ⟨v47, s47, _⟩ := hR' 16 47 (by kernel_rfl)
        obtain ⟨v48, s48, _⟩ := hR' 17 48 (by kernel_rfl)
        obtain ⟨v49, s49, _⟩ := hR' 18 49 (by kernel_rfl)
        obtain ⟨v50, s50, _⟩ := hR' 19 50 (by kernel_rfl)
        obtain ⟨v51, s51, _⟩ := hR' 20 51 (by kernel_rfl)
        obtain ⟨v52, s52, _⟩ := hR' 21 52 (by kernel_rfl)
        obtain ⟨v53, s53, _⟩ := hR' 22 53 (by kernel_rfl)
        obtain ⟨v54, s54, _⟩ := hR' 23 54 (by kernel_rfl)
        obtain ⟨v55, s55, _⟩ := hR' 24 55 (by kernel_rfl)
        obtain ⟨v56, s56, _⟩ := hR' 25 56 (by kernel_rfl)
        obtain ⟨v57, s57, _⟩ := hR' 26 57 (by kernel_rfl)
        obtain ⟨v58, s58, _⟩ := hR' 27 58 (by kernel_rfl)
        obtain ⟨v59, s59, _⟩ := hR' 28 59 (by kernel_rfl)
        obtain ⟨v60, s60, _⟩ := hR' 29 60 (by kernel_rfl)
        obtain ⟨v61, s61, _⟩ := hR' 30 61 (by kernel_rfl)
        obtain ⟨v62, s62, _⟩ := hR' 31 62 (by kernel_rfl)
        obtain ⟨v63, s63, _⟩ := hR' 32 63 (by kernel_rfl)
        obtain ⟨_, s64, rfl⟩ := hR' 33 64 (by kernel_rfl)
        have e := hs'.shape
        simp only [List.toList_toArray, List.foldl, Go.Rel.reset, Array.getD_eq_getD_getElem?, s31, s32, s33, s34, s35, s36, s37, s38, s39, s40, s41, s42, s43, s44, s45, s46, s47, s48, s49, s50, s51, s52, s53, s54, s55, s56, s57, s58, s59, s60, s61, s62, s63, s64, Option.getD_some] at e
        simp at e
        clear hR' hs' s31 s32 s33 s34 s35 s36 s37 s38 s39 s40 s41 s42 s43 s44 s45 s46 s47 s48 s49 s50 s51 s52 s53 s54 s55 s56 s57 s58 s59 s60 s61 s62 s63 s64
        subst e
        have HSe6 := Lib.hid (HSe.out w6 HP6.out)
        go_wp2_with fail
        refine HSe6.out.mono ?_
        rintro e w7 ⟨rfl, hb7⟩
        have HB7 : Hid (Below W5.heap.size W5 w7) := Lib.hid (HP6.out.trans (hb7.mono HP6.out.size))
        obtain ⟨y0, y1, y2, y3⟩ := cells4 ((HB7.out.block Y (block_lt HK5.out)).trans HK5.out)
        have HCo7 := Lib.hid (HCo.out w7 HB7.out)
        clear hb7
        go_wp2_with fail
        refine HCo7.out.mono ?_
        rintro e w8 ⟨rfl, hb8⟩
        have HB8 : Hid (Below W3.heap.size W3 w8) := Lib.hid (hbr.out.trans ((HBr5.out.trans ((HB7.out.trans (hb8.mono HB7.out.size)).mono HBr5.out.size)).mono hbr.out.size))
        clear hb8 y0 y1 y2 y3
        go_wp2
        go_roundw
        case rel => exact ⟨k + 1, by omega, by go_num, HB8⟩
        case measure => simp [RowKit.intOf]; omega
    · obtain rfl : k = 2 := by omega
      have HBw : Hid (Below W0.heap.size W0 wr) := Lib.hid (HB3.out.trans (hbr.out.mono HB3.out.size))
      have HWk2 := Lib.hid (HWk.out wr HBw.out)
      clear hlt
      go_wp2_with fail
      refine HWk2.out.mono ?_
      rintro e w9 ⟨rfl, hb9⟩
      have HF : Hid (Below W0.heap.size W0 w9) := Lib.hid (HBw.out.trans (hb9.mono HBw.out.size))
      clear hb9
      go_wp2
      go_ret
      exact ⟨rfl, HF.out⟩
end Go.Proofs.YtaicipldjmngaaaGreatDoor.sw

namespace Go.Proofs.YtaicipldjmngaaaGreatDoor.dr
end Go.Proofs.YtaicipldjmngaaaGreatDoor.dr
namespace Go.Proofs.YtaicipldjmngaaaGreatDoor.wh
end Go.Proofs.YtaicipldjmngaaaGreatDoor.wh
namespace Go.Proofs.YtaicipldjmngaaaGreatDoor.ro
end Go.Proofs.YtaicipldjmngaaaGreatDoor.ro
namespace Go.Proofs.YtaicipldjmngaaaGreatDoor.ru
end Go.Proofs.YtaicipldjmngaaaGreatDoor.ru
namespace Go.Proofs.YtaicipldjmngaaaGreatDoor.db
end Go.Proofs.YtaicipldjmngaaaGreatDoor.db
namespace Go.Proofs.YtaicipldjmngaaaGreatDoor.pr
end Go.Proofs.YtaicipldjmngaaaGreatDoor.pr
namespace Go.Proofs.YtaicipldjmngaaaGreatDoor.sp
end Go.Proofs.YtaicipldjmngaaaGreatDoor.sp
namespace Go.Proofs.YtaicipldjmngaaaGreatDoor.sw
open Go.Proofs.YtaicipldjmngaaaGreatDoor.dr Go.Proofs.YtaicipldjmngaaaGreatDoor.wh Go.Proofs.YtaicipldjmngaaaGreatDoor.ro Go.Proofs.YtaicipldjmngaaaGreatDoor.ru Go.Proofs.YtaicipldjmngaaaGreatDoor.db Go.Proofs.YtaicipldjmngaaaGreatDoor.pr Go.Proofs.YtaicipldjmngaaaGreatDoor.sp
open Go.Joins Go.ChangeShapes Go.WideShapes Go.ChangeAt Go.RowKit
set_option linter.unusedSimpArgs false
noncomputable def i64C : Came Tryz.prog 3 Int := Came.int Tryz.underlying3 (by kernel_rfl)
theorem wfu8 (z : Int) (h : (Lit.int .u8 z).wf = true) : 0 ≤ z ∧ z < ((256 : Nat) : Int) := by
  have : 0 ≤ z ∧ z ≤ 255 := by simpa [Lit.wf, IntKind.min, IntKind.max, IntKind.signed, IntKind.bits] using h
  omega
noncomputable def u8C : Came Tryz.prog 5 Nat := Came.nat Tryz.underlying5 (by kernel_rfl) 256 wfu8
structure Pi where
  src : Int
  dst : Int
  b : Sl Nat
noncomputable def pktC : Came Tryz.prog 29 Pi :=
  (Came.struct (CameF.cons i64C (CameF.cons i64C (CameF.cons (u8C.slice (by decide) Tryz.underlying27 (by kernel_rfl)) (CameF.nil _)))) Tryz.underlying29 (by kernel_rfl) (by kernel_rfl)).re
    (fun x => ⟨x.1, x.2.1, x.2.2.1⟩) (fun x => [.int .i64 x.src, .int .i64 x.dst, .slice x.b.A x.b.l.length x.b.c])
    (fun W N x => i64C.ok W N x.src ∧ i64C.ok W N x.dst ∧ (u8C.slice (by decide) Tryz.underlying27 (by kernel_rfl)).ok W N x.b) (fun _ => rfl)
    (fun h => ⟨rfl, h.1, h.2.1, h.2.2.1⟩) (fun h hb => ⟨i64C.keep h.1 hb, i64C.keep h.2.1 hb, (u8C.slice (by decide) Tryz.underlying27 (by kernel_rfl)).keep h.2.2 hb⟩)
theorem scIs_of {W : World} (h : laidMetH Tryz.prog [("sodality/doubt.scale", Rows.laid_sodality_doubt_scale)] W) : db.ScIs W :=
  laid_ints (zs := db.scaleL) (by kernel_rfl) (by kernel_rfl) Tryz.underlying135 Tryz.underlying3 (by kernel_rfl) h
end Go.Proofs.YtaicipldjmngaaaGreatDoor.sw
