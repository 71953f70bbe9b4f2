import Derived.Test.YtaicipldjmngaaaGreatDoorZj28
import Derived.Test.YtaicipldjmngaaaGreatDoorZj29
import Derived.Test.YtaicipldjmngaaaGreatDoorZj5
import Derived.Test.YtaicipldjmngaaaGreatDoorZj22
import Derived.Test.YtaicipldjmngaaaGreatDoorZj30
import Derived.Test.YtaicipldjmngaaaGreatDoorZj11
import Derived.Test.YtaicipldjmngaaaGreatDoorZj9
import Derived.Test.YtaicipldjmngaaaGreatDoorZj32
namespace Go.Proofs.YtaicipldjmngaaaGreatDoor.dr
end Go.Proofs.YtaicipldjmngaaaGreatDoor.dr
namespace Go.Proofs.YtaicipldjmngaaaGreatDoor.wh
end Go.Proofs.YtaicipldjmngaaaGreatDoor.wh
namespace Go.Proofs.YtaicipldjmngaaaGreatDoor.ro
end Go.Proofs.YtaicipldjmngaaaGreatDoor.ro
namespace Go.Proofs.YtaicipldjmngaaaGreatDoor.ru
end Go.Proofs.YtaicipldjmngaaaGreatDoor.ru
namespace Go.Proofs.YtaicipldjmngaaaGreatDoor.db
end Go.Proofs.YtaicipldjmngaaaGreatDoor.db
namespace Go.Proofs.YtaicipldjmngaaaGreatDoor.pr
end Go.Proofs.YtaicipldjmngaaaGreatDoor.pr
namespace Go.Proofs.YtaicipldjmngaaaGreatDoor.sp
end Go.Proofs.YtaicipldjmngaaaGreatDoor.sp
namespace Go.Proofs.YtaicipldjmngaaaGreatDoor.sw
open Go.Proofs.YtaicipldjmngaaaGreatDoor.dr Go.Proofs.YtaicipldjmngaaaGreatDoor.wh Go.Proofs.YtaicipldjmngaaaGreatDoor.ro Go.Proofs.YtaicipldjmngaaaGreatDoor.ru Go.Proofs.YtaicipldjmngaaaGreatDoor.db Go.Proofs.YtaicipldjmngaaaGreatDoor.pr Go.Proofs.YtaicipldjmngaaaGreatDoor.sp
open Go.RowKit
set_option linter.unusedVariables false
set_option linter.unusedSimpArgs false
abbrev TN : TypeId := 48
abbrev TIq : TypeId := 210
abbrev TY : TypeId := 216
abbrev TK : TypeId := 29
structure Nv where
  B : Nat
  Br : Nat
  Mr : Nat
  Bq : Nat
  Mq : Nat
  Bg : Nat
  Bd : Nat
  Bw : Nat
  Md : Nat
def ptrO : Option Nat → Value
  | none => .pointer none
  | some b => .pointer (some ⟨b, 0, none⟩)
structure Nc where
  seq : Nat
  cur : Option Nat
  rel : Nat → Option Nat
  last : Int
  ev : Value
  wr : Int
  na : Int
  st : Bool
  ou : Value
def ndL (v : Nv) (c : Cf) (own : Int) (x : Nc) : List Value :=
  .int .i64 c.period :: .int .i64 c.wait :: .int .i64 c.indirect :: .int .i64 c.least :: .int .i64 c.most :: .int .i64 c.want :: .int .i64 c.mult :: .int .i64 c.piggy :: .int .i64 c.gossip :: .int .i64 c.fanout :: .int .i64 c.sync ::
  .int .i64 own :: .pointer (some ⟨v.Br, 0, none⟩) :: .pointer (some ⟨v.Bq, 0, none⟩) :: .pointer (some ⟨v.Bg, 0, none⟩) :: .pointer (some ⟨v.Bd, 0, none⟩) :: .pointer (some ⟨v.Bw, 0, none⟩) :: .map (some v.Md) ::
  .int .u32 (x.seq : Int) :: ptrO x.cur :: ptrO (x.rel 0) :: ptrO (x.rel 1) :: ptrO (x.rel 2) :: ptrO (x.rel 3) :: ptrO (x.rel 4) :: ptrO (x.rel 5) :: ptrO (x.rel 6) :: ptrO (x.rel 7) ::
  .int .i64 x.last :: x.ev :: .int .i64 x.wr :: .int .i64 x.na :: .bool x.st :: x.ou :: []
def ndA (v : Nv) (c : Cf) (own : Int) (x : Nc) : Array Value := (ndL v c own x).toArray
def NBlk (w : World) (v : Nv) (c : Cf) (own : Int) (x : Nc) : Prop := w.heap[v.B]? = some (.cells (ndA v c own x) TN (0, 0))
def lab (l : Nat → Nat) (a b n : Nat) : Nat → Nat := fun k => if a ≤ k ∧ k < b then n else l k
theorem lab_old (l : Nat → Nat) {a b n k : Nat} (h : k < a) : lab l a b n k = l k := if_neg (by omega)
theorem lab_new (l : Nat → Nat) {a b n k : Nat} (h : a ≤ k) (h2 : k < b) : lab l a b n k = n := if_pos ⟨h, h2⟩
def mutl (n : Nat) : Prop := n ≠ 0 ∧ n ≠ 5
structure Goes (l l' : Nat → Nat) (w w' : World) : Prop where
  but : But (fun k => mutl (l k)) w w'
  old : ∀ k, k < w.heap.size → (mutl (l' k) → mutl (l k)) ∧ (l' k ≠ 0 → l k ≠ 0)
theorem Goes.refl (l : Nat → Nat) (w : World) : Goes l l w w := ⟨But.refl _ _, fun _ _ => ⟨id, id⟩⟩
theorem Goes.trans {l l1 l2 : Nat → Nat} {a b c : World} (h : Goes l l1 a b) (k : Goes l1 l2 b c) : Goes l l2 a c :=
  ⟨h.but.then_ k.but (fun i hi hlt => (h.old i hlt).1 hi), fun i hi => ⟨fun e => (h.old i hi).1 ((k.old i (Nat.lt_of_lt_of_le hi h.but.size)).1 e), fun e => (h.old i hi).2 ((k.old i (Nat.lt_of_lt_of_le hi h.but.size)).2 e)⟩⟩
theorem Goes.below {l : Nat → Nat} {w w' : World} (h : Below w.heap.size w w') : Goes l l w w' := ⟨But.of_below h, fun _ _ => ⟨id, id⟩⟩
theorem Goes.part {l : Nat → Nat} {w w' : World} {T : Nat → Prop} (hb : But T w w') (c n : Nat) (hT : ∀ k, k < w.heap.size → T k → mutl (l k)) : Goes l (lab l w.heap.size w'.heap.size n) w w' :=
  ⟨⟨hb.os, hb.tape, hb.output, hb.size, fun k hk hn => hb.block k hk (fun e => hn (hT k hk e))⟩, fun k hk => by rw [lab_old l hk]; exact ⟨id, id⟩⟩
theorem _root_.Go.Proofs.YtaicipldjmngaaaGreatDoor.But.old {T : Nat → Prop} {w w' : World} (hb : But T w w') : But (fun k => T k ∧ k < w.heap.size) w w' := ⟨hb.os, hb.tape, hb.output, hb.size, fun k hk hn => hb.block k hk (fun e => hn ⟨e, hk⟩)⟩
structure PcR (v : Nv) (l : Nat → Nat) (w : World) (r : ro.Ro) : Prop where
  lB : l v.Br = 1
  lM : l v.Mr = 1
  at_ : ∃ n, n ≤ 8 ∧ ro.RlAt w v.Br v.Mr r n
structure PcQ (v : Nv) (l : Nat → Nat) (w : World) (q : ru.Qu) : Prop where
  lB : l v.Bq = 2
  lM : l v.Mq = 2
  at_ : ru.QuAt w v.Bq v.Mq q
structure PcW (v : Nv) (l : Nat → Nat) (w : World) (s : wh.St) : Prop where
  at_ : wh.WhAt (fun k => l k = 3) w v.Bw s
def Sg (l : Nat → Nat) (w : World) (k : Nat) : Prop := k < w.heap.size ∧ l k ≠ 5
structure PcG (v : Nv) (l : Nat → Nat) (w : World) (g : pr.Rg) (d : dr.Dr) : Prop where
  lB : l v.Bg = 4
  lD : l v.Bd = 4
  ne : v.Bg ≠ v.Bd
  ring : pr.RgAt true (Sg l w) w v.Bg g
  draw : dr.DwAt (Sg l w) w (.pointer (some ⟨v.Bd, 0, none⟩)) d
structure Dp where
  inc : Nat
  b : Option Nat
def dpV (x : Dp) : Value := .agg #[.int .u32 (x.inc : Int), ptrO x.b]
def dpP : Option Nat → DataW Unit
  | none => .lit (.int .i64 (-1))
  | some b => .lit (.int .i64 (b : Int))
def dpD (x : Dp) : DataW Unit := .agg [.lit (.int .u32 (x.inc : Int)), dpP x.b]
def dpE (v : Value) : Option (DataW Unit × List MemPlace) :=
  match v with
  | .agg cs => match cs.toList with
    | [.int .u32 a, .pointer none] => if 0 ≤ a then some (.agg [.lit (.int .u32 a), dpP none], []) else none
    | [.int .u32 a, .pointer (some ⟨b, 0, none⟩)] => if 0 ≤ a then some (.agg [.lit (.int .u32 a), dpP (some b)], []) else none
    | _ => none
  | _ => none
theorem dpE_mk (x : Dp) : dpE (dpV x) = some (dpD x, []) := by
  obtain ⟨i, b⟩ := x
  unfold dpE dpV dpD
  cases b <;> simp [ptrO]
theorem dpE_inv {v : Value} {z : DataW Unit × List MemPlace} (h : dpE v = some z) : ∃ x, v = dpV x ∧ z = (dpD x, []) := by
  unfold dpE at h
  split at h
  · rename_i cs
    split at h
    · rename_i a e
      split at h
      · rename_i hp
        cases h
        refine ⟨⟨a.toNat, none⟩, ?_, ?_⟩
        · unfold dpV ptrO
          have : cs = #[.int .u32 a, .pointer none] := by rw [← Array.toArray_toList (xs := cs), e]
          rw [this]
          simp only [Int.toNat_of_nonneg hp]
        · unfold dpD
          simp only [Int.toNat_of_nonneg hp]
      · cases h
    · rename_i a b e
      split at h
      · rename_i hp
        cases h
        refine ⟨⟨a.toNat, some b⟩, ?_, ?_⟩
        · unfold dpV ptrO
          have : cs = #[.int .u32 a, .pointer (some ⟨b, 0, none⟩)] := by rw [← Array.toArray_toList (xs := cs), e]
          rw [this]
          simp only [Int.toNat_of_nonneg hp]
        · unfold dpD
          simp only [Int.toNat_of_nonneg hp]
      · cases h
    · cases h
  · cases h
theorem dpP_inj : ∀ {a b : Option Nat}, dpP a = dpP b → a = b
  | none, none, _ => rfl
  | none, some b, h => by
    unfold dpP at h
    simp only [DataW.lit.injEq, Lit.int.injEq, true_and] at h
    omega
  | some a, none, h => by
    unfold dpP at h
    simp only [DataW.lit.injEq, Lit.int.injEq, true_and] at h
    omega
  | some a, some b, h => by
    unfold dpP at h
    simp only [DataW.lit.injEq, Lit.int.injEq, true_and] at h
    congr 1
    omega
theorem dpD_inj {x y : Dp} (h : dpD x = dpD y) : x = y := by
  obtain ⟨i, b⟩ := x
  obtain ⟨j, c⟩ := y
  unfold dpD at h
  simp only [DataW.agg.injEq, List.cons.injEq, DataW.lit.injEq, Lit.int.injEq, true_and, and_true] at h
  obtain ⟨h1, h2⟩ := h
  have h1' : i = j := by omega
  rw [h1', dpP_inj h2]
def dpEl : ElemOf Dp := ⟨dpV, dpD, dpE, dpE_mk, dpE_inv, dpD_inj⟩
abbrev KI : KeyOf Tryz.prog 3 Int := intKey Tryz.underlying3
def DoubtAt (l : Nat → Nat) (w : World) (n : Int) (p : Nat × db.Db) (x : Dp) : Prop :=
  x.inc = p.1 ∧ ∃ b m, x.b = some b ∧ db.DbAt w b m p.2 ∧ l b = 16 + n.toNat ∧ l m = 16 + n.toNat
structure PcD (v : Nv) (l : Nat → Nat) (w : World) (d : Int → Option (Nat × db.Db)) : Prop where
  lM : l v.Md = 7
  at_ : ∃ (m : Int → Option Dp) (cn : Nat), cn ≤ 8 ∧ IsMap KI dpEl w v.Md m cn ∧ ∀ n, KI.wf n → (d n = none ∧ m n = none) ∨ ∃ p x, d n = some p ∧ m n = some x ∧ DoubtAt l w n p x
def CurAt (l : Nat → Nat) (w : World) : Option Pb → Option Nat → Prop
  | none, none => True
  | some p, some b => l b = 5 ∧ w.heap[b]? = some (.cells #[.int .u32 (p.seq : Int), .int .i64 p.tgt] TIq (0, 0))
  | _, _ => False
def RelAt (l : Nat → Nat) (w : World) : Option Rl → Option Nat → Prop
  | none, none => True
  | some r, some b => l b = 5 ∧ w.heap[b]? = some (.cells #[.int .u32 (r.seq : Int), .int .i64 r.tgt, .int .u32 (r.oseq : Int), .int .i64 r.org] TY (0, 0))
  | _, _ => False
structure Po where
  pk : Pkt
  A : Option Addr
  c : Nat
noncomputable def Pkt.bytes (p : Pkt) : List UInt8 := encs (p.ms.map sp.frM)
noncomputable def poC (own : Int) (x : Po) : List Value := [.int .i64 own, .int .i64 x.pk.to, .slice x.A x.pk.bytes.length x.c]
theorem poC_length (own : Int) (x : Po) : (poC own x).length = 3 := rfl
theorem poC_one (own : Int) (x : Po) : ∀ u ∈ poC own x, u.oneCell' = true := fun u hu => by
  simp only [poC, List.mem_cons, List.not_mem_nil, or_false] at hu
  rcases hu with rfl | rfl | rfl <;> rfl
structure Po.Ok (l : Nat → Nat) (w : World) (x : Po) : Prop where
  rb : RB w x.A x.pk.bytes.length x.pk.bytes
  nil : x.A = none → x.c = 0
  le : x.pk.bytes.length ≤ x.c
  lab : ∀ b off, x.A = some ⟨b, off, none⟩ → l b = 5
  short : x.pk.bytes.length ≤ 1400
structure OutAt (l : Nat → Nat) (w : World) (own : Int) (v : Value) (o : List Pkt) (n : Nat) : Prop where
  row : ∃ L : List Po, L.map Po.pk = o ∧ rowK (poC own) TK 3 w 0 v L ∧ ∀ x ∈ L, x.Ok l w
  lab : ∀ b, v.ownBlock = some b → l b = n
structure EvAt (l : Nat → Nat) (w : World) (v : Value) (n : Nat) : Prop where
  row : ∃ L : List Up, L.length ≤ n ∧ upRow w 0 v L
  lab : ∀ b, v.ownBlock = some b → l b = 9
structure PcN (v : Nv) (l : Nat → Nat) (w : World) (s : Sw) (x : Nc) : Prop where
  lB : l v.B = 6
  blk : NBlk w v s.c s.own x
  seq : x.seq = s.seq
  last : x.last = s.last
  st : x.st = s.stuck
  cur : CurAt l w s.cur x.cur
  rel : ∀ k, k < 8 → RelAt l w (s.rel k) (x.rel k)
  ev : EvAt l w x.ev s.q.clock
  out : OutAt l w s.own x.ou s.out 10
structure NdX (v : Nv) (l : Nat → Nat) (w : World) (s : Sw) (x : Nc) : Prop where
  lt : ∀ k, l k ≠ 0 → k < w.heap.size
  r : PcR v l w s.ro
  q : PcQ v l w s.q
  wh : PcW v l w s.wh
  g : PcG v l w s.rg s.d
  d : PcD v l w s.db
  n : PcN v l w s x
def Nd (v : Nv) (l : Nat → Nat) (w : World) (s : Sw) : Prop := ∃ x, NdX v l w s x
def Then (v : Nv) (l : Nat → Nat) (w : World) (s' : Sw) (w' : World) : Prop := ∃ l', Nd v l' w' s' ∧ Goes l l' w w'
section
variable {v : Nv} {l l' : Nat → Nat} {w w' : World} {T : Nat → Prop}
theorem PcR.keep {r : ro.Ro} (h : PcR v l w r) (hb : But T w w') (hT : ∀ k, k < w.heap.size → T k → l k ≠ 1) (hl : ∀ k, k < w.heap.size → l' k = l k) : PcR v l' w' r := by
  obtain ⟨n, hn, h2⟩ := h.at_
  have h1 := h2.lt
  exact ⟨(hl _ h1.1).trans h.lB, (hl _ h1.2).trans h.lM, n, hn, h2.but hb (fun e => hT _ h1.1 e h.lB) (fun e => hT _ h1.2 e h.lM)⟩
theorem PcQ.keep {q : ru.Qu} (h : PcQ v l w q) (hb : But T w w') (hT : ∀ k, k < w.heap.size → T k → l k ≠ 2) (hl : ∀ k, k < w.heap.size → l' k = l k) : PcQ v l' w' q := by
  have h1 := h.at_.lt
  exact ⟨(hl _ h1.1).trans h.lB, (hl _ h1.2).trans h.lM, h.at_.but hb (fun e => hT _ h1.1 e h.lB) (fun e => hT _ h1.2 e h.lM)⟩
theorem PcW.keep {s : wh.St} (h : PcW v l w s) (hb : But T w w') (hT : ∀ k, k < w.heap.size → T k → l k ≠ 3) (hl : ∀ k, k < w.heap.size → l' k = l k) : PcW v l' w' s := by
  have h1 : wh.WhAt (fun k => l' k = 3) w v.Bw s := h.at_.mono (fun k hk e => (hl k hk).trans e)
  exact ⟨h1.but hb (fun k hk hlt e => hT k hlt hk ((hl k hlt).symm.trans e))⟩
theorem PcG.keep {g : pr.Rg} {d : dr.Dr} (h : PcG v l w g d) (hb : But T w w') (hT : ∀ k, k < w.heap.size → T k → l k ≠ 4 ∧ l k ≠ 5) (hl : ∀ k, k < w.heap.size → l' k = l k) : PcG v l' w' g d := by
  have h1 := h.ring.lt
  have h2 : v.Bd < w.heap.size := h.draw.lt _ rfl
  have hbo := hb.old
  have hS2 : ∀ k, k < w.heap.size → (w.heap.size ≤ k ∨ (k < w.heap.size ∧ l k ≠ 5)) → Sg l w k := fun k hk e => by
    rcases e with e | e
    · omega
    · exact e
  have hS3 : ∀ k, k < w'.heap.size → Sg l' w' k → (w.heap.size ≤ k ∨ (k < w.heap.size ∧ l k ≠ 5)) := fun k hk e => by
    rcases Nat.lt_or_ge k w.heap.size with hlt | hge
    · exact .inr ⟨hlt, by rw [← hl k hlt]; exact e.2⟩
    · exact .inl hge
  have hB' : Sg l' w' v.Bg := ⟨Nat.lt_of_lt_of_le h1 hb.size, by rw [hl _ h1, h.lB]; decide⟩
  have hD' : Sg l' w' v.Bd := ⟨Nat.lt_of_lt_of_le h2 hb.size, by rw [hl _ h2, h.lD]; decide⟩
  refine ⟨(hl _ h1).trans h.lB, (hl _ h2).trans h.lD, h.ne, ?_, ?_⟩
  · refine (((h.ring.narrow hS2 (.inr ⟨h1, by rw [h.lB]; decide⟩)).but hbo (fun k hk => .inr ⟨hk.2, (hT k hk.2 hk.1).2⟩) (fun e => (hT _ e.2 e.1).1 h.lB))).narrow hS3 hB'
  · refine (((h.draw.narrow hS2 (fun k hk => ?_)).but hbo (fun k hk => .inr ⟨hk.2, (hT k hk.2 hk.1).2⟩) (fun k hk e => ?_))).narrow hS3 (fun k hk => ?_)
    · unfold dr.Tgt at hk
      simp only [Value.pointer.injEq, Option.some.injEq, Addr.mk.injEq, and_true] at hk
      subst hk
      exact .inr ⟨h2, by rw [h.lD]; decide⟩
    · unfold dr.Tgt at e
      simp only [Value.pointer.injEq, Option.some.injEq, Addr.mk.injEq, and_true] at e
      subst e
      exact (hT _ hk.2 hk.1).1 h.lD
    · unfold dr.Tgt at hk
      simp only [Value.pointer.injEq, Option.some.injEq, Addr.mk.injEq, and_true] at hk
      subst hk
      exact hD'
theorem DoubtAt.keep {n : Int} {p : Nat × db.Db} {x : Dp} (h : DoubtAt l w n p x) (hb : But T w w') (hT : ∀ k, k < w.heap.size → T k → l k ≠ 16 + n.toNat) (hl : ∀ k, k < w.heap.size → l' k = l k) : DoubtAt l' w' n p x := by
  obtain ⟨h0, b, m, h1, h2, h3, h4⟩ := h
  have h5 := h2.lt
  exact ⟨h0, b, m, h1, h2.but hb (fun e => hT _ h5.1 e h3) (fun e => hT _ h5.2 e h4), (hl _ h5.1).trans h3, (hl _ h5.2).trans h4⟩
theorem PcD.keep {d : Int → Option (Nat × db.Db)} (h : PcD v l w d) (hb : But T w w') (hT : ∀ k, k < w.heap.size → T k → l k ≠ 7 ∧ l k < 16) (hl : ∀ k, k < w.heap.size → l' k = l k) : PcD v l' w' d := by
  obtain ⟨m, cn, hcn, h1, h2⟩ := h.at_
  refine ⟨(hl _ h1.lt).trans h.lM, m, cn, hcn, h1.block (hb.block _ h1.lt (fun e => (hT _ h1.lt e).1 h.lM)), fun n hn => ?_⟩
  rcases h2 n hn with e | ⟨p, x, e1, e2, e3⟩
  · exact .inl e
  · exact .inr ⟨p, x, e1, e2, e3.keep hb (fun k hk hTk => by have := (hT k hk hTk).2; omega) hl⟩
theorem CurAt.keep {o : Option Pb} {b : Option Nat} (h : CurAt l w o b) (hb : But T w w') (hT : ∀ k, k < w.heap.size → T k → l k ≠ 5) (hl : ∀ k, k < w.heap.size → l' k = l k) : CurAt l' w' o b := by
  cases o <;> cases b
  · trivial
  · exact h
  · exact h
  · obtain ⟨h1, h2⟩ := h
    have h3 := block_lt h2
    exact ⟨(hl _ h3).trans h1, (hb.block _ h3 (fun e => hT _ h3 e h1)).trans h2⟩
theorem RelAt.keep {o : Option Rl} {b : Option Nat} (h : RelAt l w o b) (hb : But T w w') (hT : ∀ k, k < w.heap.size → T k → l k ≠ 5) (hl : ∀ k, k < w.heap.size → l' k = l k) : RelAt l' w' o b := by
  cases o <;> cases b
  · trivial
  · exact h
  · exact h
  · obtain ⟨h1, h2⟩ := h
    have h3 := block_lt h2
    exact ⟨(hl _ h3).trans h1, (hb.block _ h3 (fun e => hT _ h3 e h1)).trans h2⟩
theorem _root_.Go.Proofs.YtaicipldjmngaaaGreatDoor.RB.butL {A : Option Addr} {n : Nat} {xs : List UInt8} (h : RB w A n xs) (hb : But T w w') (hs : ∀ b off, A = some ⟨b, off, none⟩ → b < w.heap.size → ¬ T b) : RB w' A n xs :=
  ⟨h.1, fun hn => by
    obtain ⟨b, off, e, hlt, hc⟩ := h.2 hn
    exact ⟨b, off, e, Nat.lt_of_lt_of_le hlt hb.size, fun j hj => (hb.cell (p := ⟨b, off + j, none⟩) hlt (hs b off e hlt)).trans (hc j hj)⟩⟩
theorem Po.Ok.keep {x : Po} (h : x.Ok l w) (hb : But T w w') (hT : ∀ k, k < w.heap.size → T k → l k ≠ 5) (hl : ∀ k, k < w.heap.size → l' k = l k) (hlt : ∀ k, l k ≠ 0 → k < w.heap.size) : x.Ok l' w' :=
  ⟨RB.butL h.rb hb (fun b off e hlt e2 => hT b hlt e2 (h.lab b off e)), h.nil, h.le, fun b off e => by
    have h1 := h.lab b off e
    rw [hl b (hlt b (by rw [h1]; decide))]; exact h1, h.short⟩
theorem OutAt.keep {own : Int} {vv : Value} {o : List Pkt} {n : Nat} (h : OutAt l w own vv o n) (hb : But T w w') (hT : ∀ k, k < w.heap.size → T k → l k ≠ 5 ∧ l k ≠ n) (hl : ∀ k, k < w.heap.size → l' k = l k) (hlt : ∀ k, l k ≠ 0 → k < w.heap.size) : OutAt l' w' own vv o n := by
  obtain ⟨L, h1, h2, h3⟩ := h.row
  refine ⟨⟨L, h1, h2.but hb.old (fun j hj e => (hT j e.2 e.1).2 (h.lab j hj)), fun x hx => (h3 x hx).keep hb (fun k hk e => (hT k hk e).1) hl hlt⟩, fun b hb' => ?_⟩
  have h4 := h2.from b hb'
  rw [hl b h4.2]
  exact h.lab b hb'
theorem EvAt.keep {vv : Value} {n : Nat} (h : EvAt l w vv n) (hb : But T w w') (hT : ∀ k, k < w.heap.size → T k → l k ≠ 9) (hl : ∀ k, k < w.heap.size → l' k = l k) : EvAt l' w' vv n := by
  obtain ⟨L, h1, h2⟩ := h.row
  have hlt : ∀ j, vv.ownBlock = some j → j < w.heap.size := fun j hj => by
    rcases h2.2 with ⟨rfl, _⟩ | ⟨g, _, _, rfl, _, hh, _⟩
    · cases hj
    · cases hj; exact block_lt hh
  refine ⟨⟨L, h1, own_but h2 hb.old (fun j hj e => hT j e.2 e.1 (h.lab j hj))⟩, fun b hb' => ?_⟩
  rw [hl b (hlt b hb')]
  exact h.lab b hb'
theorem PcN.keep {s : Sw} {x : Nc} (h : PcN v l w s x) (hb : But T w w') (hT : ∀ k, k < w.heap.size → T k → l k ≠ 5 ∧ l k ≠ 6 ∧ l k ≠ 9 ∧ l k ≠ 10) (hl : ∀ k, k < w.heap.size → l' k = l k) (hlt : ∀ k, l k ≠ 0 → k < w.heap.size) : PcN v l' w' s x := by
  have h1 := block_lt h.blk
  exact ⟨(hl _ h1).trans h.lB, (hb.block _ h1 (fun e => (hT _ h1 e).2.1 h.lB)).trans h.blk, h.seq, h.last, h.st, h.cur.keep hb (fun k hk e => (hT k hk e).1) hl, fun k hk => (h.rel k hk).keep hb (fun k hk e => (hT k hk e).1) hl,
    h.ev.keep hb (fun k hk e => (hT k hk e).2.2.1) hl, h.out.keep hb (fun k hk e => ⟨(hT k hk e).1, (hT k hk e).2.2.2⟩) hl hlt⟩
end
theorem NdX.keep {v : Nv} {l : Nat → Nat} {w w' : World} {T : Nat → Prop} {s : Sw} {x : Nc} (h : NdX v l w s x) (hb : But T w w') (hT : ∀ k, k < w.heap.size → T k → l k = 0) : NdX v l w' s x :=
  ⟨fun k hk => Nat.lt_of_lt_of_le (h.lt k hk) hb.size, h.r.keep hb (fun k hk e => by rw [hT k hk e]; decide) (fun _ _ => rfl), h.q.keep hb (fun k hk e => by rw [hT k hk e]; decide) (fun _ _ => rfl), h.wh.keep hb (fun k hk e => by rw [hT k hk e]; decide) (fun _ _ => rfl),
    h.g.keep hb (fun k hk e => by rw [hT k hk e]; decide) (fun _ _ => rfl), h.d.keep hb (fun k hk e => by rw [hT k hk e]; decide) (fun _ _ => rfl), h.n.keep hb (fun k hk e => by rw [hT k hk e]; decide) (fun _ _ => rfl) h.lt⟩
theorem NdX.below {v : Nv} {l : Nat → Nat} {w w' : World} {s : Sw} {x : Nc} (h : NdX v l w s x) (hb : Below w.heap.size w w') : NdX v l w' s x := h.keep (T := fun _ => False) (But.of_below hb) (fun _ _ e => e.elim)
theorem Nd.below {v : Nv} {l : Nat → Nat} {w w' : World} {s : Sw} (h : Nd v l w s) (hb : Below w.heap.size w w') : Nd v l w' s := by
  obtain ⟨x, h⟩ := h
  exact ⟨x, h.below hb⟩
theorem Nd.keep {v : Nv} {l : Nat → Nat} {w w' : World} {T : Nat → Prop} {s : Sw} (h : Nd v l w s) (hb : But T w w') (hT : ∀ k, k < w.heap.size → T k → l k = 0) : Nd v l w' s := by
  obtain ⟨x, h⟩ := h
  exact ⟨x, h.keep hb hT⟩
theorem Then.of_below {v : Nv} {l : Nat → Nat} {w w' : World} {s : Sw} (h : Nd v l w s) (hb : Below w.heap.size w w') : Then v l w s w' := ⟨l, h.below hb, Goes.below hb⟩
theorem Then.ahead {v : Nv} {l : Nat → Nat} {w w1 w' : World} {s : Sw} (hb : Below w.heap.size w w1) (h : Then v l w1 s w') : Then v l w s w' := by
  obtain ⟨l', h1, h2⟩ := h
  exact ⟨l', h1, (Goes.below hb).trans h2⟩
theorem labs {l : Nat → Nat} {w w' : World} {T : Nat → Prop} (hlt : ∀ k, l k ≠ 0 → k < w.heap.size) (hb : But T w w') (n : Nat) : (∀ k, k < w.heap.size → lab l w.heap.size w'.heap.size n k = l k) ∧ ∀ k, lab l w.heap.size w'.heap.size n k ≠ 0 → k < w'.heap.size := by
  refine ⟨fun k hk => lab_old l hk, fun k hk => ?_⟩
  unfold lab at hk
  split at hk
  · rename_i h; exact h.2
  · exact Nat.lt_of_lt_of_le (hlt k hk) hb.size
end Go.Proofs.YtaicipldjmngaaaGreatDoor.sw

namespace Go.Proofs.YtaicipldjmngaaaGreatDoor.dr
end Go.Proofs.YtaicipldjmngaaaGreatDoor.dr
namespace Go.Proofs.YtaicipldjmngaaaGreatDoor.wh
end Go.Proofs.YtaicipldjmngaaaGreatDoor.wh
namespace Go.Proofs.YtaicipldjmngaaaGreatDoor.ro
end Go.Proofs.YtaicipldjmngaaaGreatDoor.ro
namespace Go.Proofs.YtaicipldjmngaaaGreatDoor.ru
end Go.Proofs.YtaicipldjmngaaaGreatDoor.ru
namespace Go.Proofs.YtaicipldjmngaaaGreatDoor.db
end Go.Proofs.YtaicipldjmngaaaGreatDoor.db
namespace Go.Proofs.YtaicipldjmngaaaGreatDoor.pr
end Go.Proofs.YtaicipldjmngaaaGreatDoor.pr
namespace Go.Proofs.YtaicipldjmngaaaGreatDoor.sp
end Go.Proofs.YtaicipldjmngaaaGreatDoor.sp
namespace Go.Proofs.YtaicipldjmngaaaGreatDoor.sw
open Go.Proofs.YtaicipldjmngaaaGreatDoor.dr Go.Proofs.YtaicipldjmngaaaGreatDoor.wh Go.Proofs.YtaicipldjmngaaaGreatDoor.ro Go.Proofs.YtaicipldjmngaaaGreatDoor.ru Go.Proofs.YtaicipldjmngaaaGreatDoor.db Go.Proofs.YtaicipldjmngaaaGreatDoor.pr Go.Proofs.YtaicipldjmngaaaGreatDoor.sp
open Go.RowKit Go.Maps
set_option linter.unusedVariables false
set_option linter.unusedSimpArgs false
section
variable {w : World} {v : Nv} {c : Cf} {own : Int} {x : Nc}
theorem NBlk.lt (h : NBlk w v c own x) : v.B < w.heap.size := block_lt h
theorem NBlk.fz (h : NBlk w v c own x) (i : Nat) : w.frozen? ⟨v.B, i, none⟩ = false := by
  unfold NBlk at h
  simp [World.frozen?, h]
theorem NBlk.c0 (h : NBlk w v c own x) : w.cell? ⟨v.B, 0, none⟩ = some (.int .i64 c.period) := by rw [cell_of_row _ _ _ _ _ _ h]; rfl
theorem NBlk.c1 (h : NBlk w v c own x) : w.cell? ⟨v.B, 1, none⟩ = some (.int .i64 c.wait) := by rw [cell_of_row _ _ _ _ _ _ h]; rfl
theorem NBlk.c2 (h : NBlk w v c own x) : w.cell? ⟨v.B, 2, none⟩ = some (.int .i64 c.indirect) := by rw [cell_of_row _ _ _ _ _ _ h]; rfl
theorem NBlk.c3 (h : NBlk w v c own x) : w.cell? ⟨v.B, 3, none⟩ = some (.int .i64 c.least) := by rw [cell_of_row _ _ _ _ _ _ h]; rfl
theorem NBlk.c4 (h : NBlk w v c own x) : w.cell? ⟨v.B, 4, none⟩ = some (.int .i64 c.most) := by rw [cell_of_row _ _ _ _ _ _ h]; rfl
theorem NBlk.c5 (h : NBlk w v c own x) : w.cell? ⟨v.B, 5, none⟩ = some (.int .i64 c.want) := by rw [cell_of_row _ _ _ _ _ _ h]; rfl
theorem NBlk.c6 (h : NBlk w v c own x) : w.cell? ⟨v.B, 6, none⟩ = some (.int .i64 c.mult) := by rw [cell_of_row _ _ _ _ _ _ h]; rfl
theorem NBlk.c7 (h : NBlk w v c own x) : w.cell? ⟨v.B, 7, none⟩ = some (.int .i64 c.piggy) := by rw [cell_of_row _ _ _ _ _ _ h]; rfl
theorem NBlk.c8 (h : NBlk w v c own x) : w.cell? ⟨v.B, 8, none⟩ = some (.int .i64 c.gossip) := by rw [cell_of_row _ _ _ _ _ _ h]; rfl
theorem NBlk.c9 (h : NBlk w v c own x) : w.cell? ⟨v.B, 9, none⟩ = some (.int .i64 c.fanout) := by rw [cell_of_row _ _ _ _ _ _ h]; rfl
theorem NBlk.c10 (h : NBlk w v c own x) : w.cell? ⟨v.B, 10, none⟩ = some (.int .i64 c.sync) := by rw [cell_of_row _ _ _ _ _ _ h]; rfl
theorem NBlk.c11 (h : NBlk w v c own x) : w.cell? ⟨v.B, 11, none⟩ = some (.int .i64 own) := by rw [cell_of_row _ _ _ _ _ _ h]; rfl
theorem NBlk.c12 (h : NBlk w v c own x) : w.cell? ⟨v.B, 12, none⟩ = some (.pointer (some ⟨v.Br, 0, none⟩)) := by rw [cell_of_row _ _ _ _ _ _ h]; rfl
theorem NBlk.c13 (h : NBlk w v c own x) : w.cell? ⟨v.B, 13, none⟩ = some (.pointer (some ⟨v.Bq, 0, none⟩)) := by rw [cell_of_row _ _ _ _ _ _ h]; rfl
theorem NBlk.c16 (h : NBlk w v c own x) : w.cell? ⟨v.B, 16, none⟩ = some (.pointer (some ⟨v.Bw, 0, none⟩)) := by rw [cell_of_row _ _ _ _ _ _ h]; rfl
theorem NBlk.c17 (h : NBlk w v c own x) : w.cell? ⟨v.B, 17, none⟩ = some (.map (some v.Md)) := by rw [cell_of_row _ _ _ _ _ _ h]; rfl
theorem NBlk.c20 (h : NBlk w v c own x) : w.cell? ⟨v.B, 20, none⟩ = some (ptrO (x.rel 0)) := by rw [cell_of_row _ _ _ _ _ _ h]; rfl
theorem NBlk.c21 (h : NBlk w v c own x) : w.cell? ⟨v.B, 21, none⟩ = some (ptrO (x.rel 1)) := by rw [cell_of_row _ _ _ _ _ _ h]; rfl
theorem NBlk.c22 (h : NBlk w v c own x) : w.cell? ⟨v.B, 22, none⟩ = some (ptrO (x.rel 2)) := by rw [cell_of_row _ _ _ _ _ _ h]; rfl
theorem NBlk.c23 (h : NBlk w v c own x) : w.cell? ⟨v.B, 23, none⟩ = some (ptrO (x.rel 3)) := by rw [cell_of_row _ _ _ _ _ _ h]; rfl
theorem NBlk.c24 (h : NBlk w v c own x) : w.cell? ⟨v.B, 24, none⟩ = some (ptrO (x.rel 4)) := by rw [cell_of_row _ _ _ _ _ _ h]; rfl
theorem NBlk.c25 (h : NBlk w v c own x) : w.cell? ⟨v.B, 25, none⟩ = some (ptrO (x.rel 5)) := by rw [cell_of_row _ _ _ _ _ _ h]; rfl
theorem NBlk.c26 (h : NBlk w v c own x) : w.cell? ⟨v.B, 26, none⟩ = some (ptrO (x.rel 6)) := by rw [cell_of_row _ _ _ _ _ _ h]; rfl
theorem NBlk.c27 (h : NBlk w v c own x) : w.cell? ⟨v.B, 27, none⟩ = some (ptrO (x.rel 7)) := by rw [cell_of_row _ _ _ _ _ _ h]; rfl
theorem NBlk.c33 (h : NBlk w v c own x) : w.cell? ⟨v.B, 33, none⟩ = some (x.ou) := by rw [cell_of_row _ _ _ _ _ _ h]; rfl
theorem NBlk.keep {w' : World} (h : NBlk w v c own x) (hb : w'.heap[v.B]? = w.heap[v.B]?) : NBlk w' v c own x := hb.trans h
theorem NBlk.rel {k : Nat} (hk : k < 8) (h : NBlk w v c own x) : w.cell? ⟨v.B, 20 + k, none⟩ = some (ptrO (x.rel k)) := by
  match k, hk with
  | 0, _ => exact h.c20
  | 1, _ => exact h.c21
  | 2, _ => exact h.c22
  | 3, _ => exact h.c23
  | 4, _ => exact h.c24
  | 5, _ => exact h.c25
  | 6, _ => exact h.c26
  | 7, _ => exact h.c27
theorem NBlk.setOu (h : NBlk w v c own x) (u : Value) : NBlk (w.setCell ⟨v.B, 33, none⟩ (u)) v c own { x with ou := u } := (block_set h 33 _).trans rfl
end
theorem NdX.put {v : Nv} {l : Nat → Nat} {w w' : World} {s s' : Sw} {x x' : Nc} (h : NdX v l w s x) (hb : But (· = v.B) w w') (hblk : NBlk w' v s.c s.own x')
    (e : s' = { s with seq := x'.seq, last := x'.last, stuck := x'.st, cur := s'.cur, rel := s'.rel, wrong := s'.wrong, nacks := s'.nacks }) (hcur : CurAt l w s'.cur x'.cur) (hrel : ∀ k, k < 8 → RelAt l w (s'.rel k) (x'.rel k)) (hev : x'.ev = x.ev) (hou : x'.ou = x.ou) : NdX v l w' s' x' := by
  have hl : ∀ k, k < w.heap.size → l k = l k := fun _ _ => rfl
  have hB := h.n.lB
  have hT : ∀ n, n ≠ 6 → ∀ k, k < w.heap.size → k = v.B → l k ≠ n := fun n hn k _ e he => by rw [e, hB] at he; exact hn he.symm
  obtain ⟨c, ro, q, rg, d, wh, db, cur, rel, seq, last, gone, events, wrong, nacks, stuck, out⟩ := s
  obtain ⟨c', ro', q', rg', d', wh', db', cur', rel', seq', last', gone', events', wrong', nacks', stuck', out'⟩ := s'
  simp only [Sw.mk.injEq] at e
  obtain ⟨rfl, rfl, rfl, rfl, rfl, rfl, rfl, -, -, h1, h2, rfl, rfl, -, -, h3, rfl⟩ := e
  refine ⟨fun k hk => Nat.lt_of_lt_of_le (h.lt k hk) hb.size, h.r.keep hb (hT 1 (by decide)) hl, h.q.keep hb (hT 2 (by decide)) hl, h.wh.keep hb (hT 3 (by decide)) hl,
    h.g.keep hb (fun k hk e => ⟨hT 4 (by decide) k hk e, hT 5 (by decide) k hk e⟩) hl, h.d.keep hb (fun k hk e => ⟨hT 7 (by decide) k hk e, by rw [e, hB]; decide⟩) hl, ?_⟩
  exact ⟨hB, hblk, h1.symm, h2.symm, h3.symm, hcur.keep hb (hT 5 (by decide)) hl, fun k hk => (hrel k hk).keep hb (hT 5 (by decide)) hl, by rw [hev]; exact h.n.ev.keep hb (hT 9 (by decide)) hl,
    by rw [hou]; exact h.n.out.keep hb (fun k hk e => ⟨hT 5 (by decide) k hk e, hT 10 (by decide) k hk e⟩) hl h.lt⟩
theorem _root_.Go.Proofs.YtaicipldjmngaaaGreatDoor.But.setB (w : World) (v : Nv) (i : Nat) (u : Value) : But (· = v.B) w (w.setCell ⟨v.B, i, none⟩ u) := But.set (S := (· = v.B)) w (p := ⟨v.B, i, none⟩) rfl u
theorem Goes.setB {v : Nv} {l : Nat → Nat} {w w' : World} {s : Sw} {x : Nc} (h : NdX v l w s x) (hb : But (· = v.B) w w') : Goes l l w w' :=
  ⟨hb.mono (fun k e => by rw [e, h.n.lB]; exact ⟨by decide, by decide⟩), fun _ _ => ⟨id, id⟩⟩
theorem NdX.posted {v : Nv} {l : Nat → Nat} {w w1 w2 : World} {s : Sw} {x : Nc} (h : NdX v l w s x) (hb : Below w.heap.size w w1) {p : Pkt} {A : Option Addr} {c : Nat} (hby : w1.ownsRow w.heap.size 5 1 (.slice A p.bytes.length c) p.bytes.length (p.bytes.map byteV)) (h14 : p.bytes.length ≤ 1400)
    {L : List Po} (hL : L.map Po.pk = s.out) (hok : ∀ y ∈ L, y.Ok l w) (hb2 : But (fun j => x.ou.ownBlock = some j ∨ j = v.B) w1 w2) {v' : Value} (hrow : rowK (poC s.own) TK 3 w2 0 v' (L ++ [⟨p, A, c⟩])) (hloc : v'.ownBlock = x.ou.ownBlock ∨ ∃ b, v'.ownBlock = some b ∧ w1.heap.size ≤ b)
    (hblk : w2.heap[v.B]? = some (.cells ((ndA v s.c s.own x).setIfInBounds 33 v') TN (0, 0))) : Then v l w { s with out := s.out ++ [p] } w2 := by
  obtain ⟨A', c', e', hrb, hnil, hle, _⟩ := RB.own hby
  simp only [Value.slice.injEq, true_and] at e'
  obtain ⟨rfl, rfl⟩ := e'
  have hAn : ∀ b off, A = some ⟨b, off, none⟩ → w.heap.size ≤ b ∧ b < w1.heap.size := fun b off e => by
    rcases hby.2 with ⟨e', _⟩ | ⟨g, cap, cur, e', hg, hh, _⟩
    · simp only [Value.slice.injEq] at e'
      rw [e'.1] at e; cases e
    · simp only [Value.slice.injEq] at e'
      rw [e'.1] at e
      simp only [Option.some.injEq, Addr.mk.injEq] at e
      have := block_lt hh
      omega
  have hoB : ∀ j, x.ou.ownBlock = some j → l j = 10 := h.n.out.lab
  have hbut : But (fun j => x.ou.ownBlock = some j ∨ j = v.B) w w2 := (But.of_below hb).trans hb2
  have hoT : ∀ k, (x.ou.ownBlock = some k ∨ k = v.B) → l k = 10 ∨ l k = 6 := fun k e => by
    rcases e with e | e
    · exact .inl (hoB k e)
    · rw [e]; exact .inr h.n.lB
  obtain ⟨l', hl'⟩ : ∃ l' : Nat → Nat, l' = fun k => if v'.ownBlock = some k then 10 else lab l w.heap.size w2.heap.size 5 k := ⟨_, rfl⟩
  have hold : ∀ k, k < w.heap.size → l' k = l k := fun k hk => by
    rw [hl']
    show (if v'.ownBlock = some k then 10 else lab l w.heap.size w2.heap.size 5 k) = l k
    split
    · rename_i e
      rcases hloc with e2 | ⟨b, e2, hb3⟩
      · exact (hoB k (e2.symm.trans e)).symm
      · rw [e] at e2
        have := Option.some.inj e2
        have := hb.size
        omega
    · exact lab_old l hk
  have hlt : ∀ k, l' k ≠ 0 → k < w2.heap.size := fun k hk => by
    rw [hl'] at hk
    have hk' : (if v'.ownBlock = some k then 10 else lab l w.heap.size w2.heap.size 5 k) ≠ 0 := hk
    split at hk'
    · rename_i e
      exact (hrow.from k e).2
    · exact (labs h.lt hbut 5).2 k hk'
  have hT : ∀ n, n ≠ 6 → n ≠ 10 → ∀ k, k < w.heap.size → (x.ou.ownBlock = some k ∨ k = v.B) → l k ≠ n := fun n h6 h10 k _ e he => by
    rcases hoT k e with e2 | e2
    · rw [e2] at he; exact h10 he.symm
    · rw [e2] at he; exact h6 he.symm
  refine ⟨l', ⟨{ x with ou := v' }, hlt, h.r.keep hbut (hT 1 (by decide) (by decide)) hold, h.q.keep hbut (hT 2 (by decide) (by decide)) hold, h.wh.keep hbut (hT 3 (by decide) (by decide)) hold,
    h.g.keep hbut (fun k hk e => ⟨hT 4 (by decide) (by decide) k hk e, hT 5 (by decide) (by decide) k hk e⟩) hold, h.d.keep hbut (fun k hk e => ⟨hT 7 (by decide) (by decide) k hk e, by rcases hoT k e with e2 | e2 <;> rw [e2] <;> decide⟩) hold, ?_⟩, ?_⟩
  · refine ⟨(hold _ h.n.blk.lt).trans h.n.lB, ?_, h.n.seq, h.n.last, h.n.st, h.n.cur.keep hbut (hT 5 (by decide) (by decide)) hold, fun k hk => (h.n.rel k hk).keep hbut (hT 5 (by decide) (by decide)) hold, h.n.ev.keep hbut (hT 9 (by decide) (by decide)) hold, ?_⟩
    · exact hblk.trans rfl
    · refine ⟨⟨L ++ [(⟨p, A, c⟩ : Po)], by rw [List.map_append, hL]; rfl, hrow, fun y hy => ?_⟩, fun b hb' => ?_⟩
      · rcases List.mem_append.1 hy with hy | hy
        · exact (hok y hy).keep hbut (hT 5 (by decide) (by decide)) hold h.lt
        · obtain rfl := List.mem_singleton.1 hy
          refine ⟨RB.butL hrb hb2 (fun b off e hlt e2 => ?_), hnil, hle, fun b off e => ?_, h14⟩
          · have h3 := hAn b off e
            rcases e2 with e2 | e2
            · have := h.lt b (by rw [hoB b e2]; decide)
              omega
            · have := h.n.blk.lt
              omega
          · have h3 := hAn b off e
            have hne : v'.ownBlock ≠ some b := fun e2 => by
              rcases hloc with e3 | ⟨b', e3, hb3⟩
              · have := h.lt b (by rw [hoB b (e3.symm.trans e2)]; decide)
                omega
              · rw [e2] at e3
                have := Option.some.inj e3
                omega
            rw [hl']
            show (if v'.ownBlock = some b then 10 else lab l w.heap.size w2.heap.size 5 b) = 5
            rw [if_neg hne]
            exact lab_new l h3.1 (Nat.lt_of_lt_of_le h3.2 hb2.size)
      · rw [hl']
        show (if v'.ownBlock = some b then 10 else _) = 10
        exact if_pos hb'
  · refine ⟨hbut.mono (fun k e => ?_), fun k hk => by rw [hold k hk]; exact ⟨id, id⟩⟩
    rcases hoT k e with e2 | e2 <;> rw [e2] <;> exact ⟨by decide, by decide⟩
end Go.Proofs.YtaicipldjmngaaaGreatDoor.sw
