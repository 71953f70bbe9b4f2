import Derived.Test.YtaicipldjmngaaaGreatDoorZj3
import Derived.Test.YtaicipldjmngaaaGreatDoorZj14
import Derived.Test.YtaicipldjmngaaaGreatDoorZj12
import Derived.Test.YtaicipldjmngaaaGreatDoorZj11
import Derived.Test.YtaicipldjmngaaaGreatDoorZj7
import Derived.Test.YtaicipldjmngaaaGreatDoorZj18
import Derived.Test.YtaicipldjmngaaaGreatDoorZj13
import Derived.Test.YtaicipldjmngaaaGreatDoorZj4
namespace Go.Proofs.YtaicipldjmngaaaGreatDoor.dr
end Go.Proofs.YtaicipldjmngaaaGreatDoor.dr
namespace Go.Proofs.YtaicipldjmngaaaGreatDoor.wh
end Go.Proofs.YtaicipldjmngaaaGreatDoor.wh
namespace Go.Proofs.YtaicipldjmngaaaGreatDoor.ro
end Go.Proofs.YtaicipldjmngaaaGreatDoor.ro
namespace Go.Proofs.YtaicipldjmngaaaGreatDoor.ru
end Go.Proofs.YtaicipldjmngaaaGreatDoor.ru
namespace Go.Proofs.YtaicipldjmngaaaGreatDoor.db
end Go.Proofs.YtaicipldjmngaaaGreatDoor.db
namespace Go.Proofs.YtaicipldjmngaaaGreatDoor.pr
end Go.Proofs.YtaicipldjmngaaaGreatDoor.pr
namespace Go.Proofs.YtaicipldjmngaaaGreatDoor.sp
end Go.Proofs.YtaicipldjmngaaaGreatDoor.sp
namespace Go.Proofs.YtaicipldjmngaaaGreatDoor.sw
open Go.Proofs.YtaicipldjmngaaaGreatDoor.dr Go.Proofs.YtaicipldjmngaaaGreatDoor.wh Go.Proofs.YtaicipldjmngaaaGreatDoor.ro Go.Proofs.YtaicipldjmngaaaGreatDoor.ru Go.Proofs.YtaicipldjmngaaaGreatDoor.db Go.Proofs.YtaicipldjmngaaaGreatDoor.pr Go.Proofs.YtaicipldjmngaaaGreatDoor.sp
structure Cf where
  period : Int
  wait : Int
  indirect : Int
  least : Int
  most : Int
  want : Int
  mult : Int
  piggy : Int
  gossip : Int
  fanout : Int
  sync : Int
structure Cf.Ok (c : Cf) : Prop where
  wait : 1 ≤ c.wait ∧ c.wait ≤ 1000
  period : 2 * c.wait + 1 ≤ c.period ∧ c.period ≤ 4000
  indirect : 0 ≤ c.indirect ∧ c.indirect ≤ 4
  doubt : db.waitOk c.least c.most c.want = true
  mult : 1 ≤ c.mult ∧ c.mult ≤ 8
  piggy : 1 ≤ c.piggy ∧ c.piggy ≤ 16
  gossip : 1 ≤ c.gossip ∧ c.gossip ≤ 1000
  fanout : 1 ≤ c.fanout ∧ c.fanout ≤ 4
  sync : 1 ≤ c.sync ∧ c.sync ≤ 4000
structure Pb where
  seq : Nat
  tgt : Int
structure Rl where
  seq : Nat
  oseq : Nat
  tgt : Int
  org : Int
structure Pkt where
  to : Int
  ms : List sp.Ms
structure Sw where
  c : Cf
  ro : ro.Ro
  q : ru.Qu
  rg : pr.Rg
  d : dr.Dr
  wh : wh.St
  db : Int → Option (Nat × db.Db)
  cur : Option Pb
  rel : Nat → Option Rl
  seq : Nat
  last : Int
  gone : Bool
  events : List Up
  wrong : Nat
  nacks : Nat
  stuck : Bool
  out : List Pkt
def Sw.own (s : Sw) : Int := s.ro.own
def livesOf (T : Int → Option Up) : List Int := ((ro.listTo T 8).filter fun u => decide (u.st = 0 ∨ u.st = 1)).map Up.node
def Sw.live (s : Sw) : List Int := livesOf s.ro.T
def Sw.peers (s : Sw) : List Int := s.live.filter fun z => z != s.own
def Sw.view (s : Sw) : List Up := ro.listTo s.ro.T 8
def Sw.takes (s : Sw) : List Up × ru.Qu := s.q.take s.c.piggy.toNat (ru.limitQ s.q.mult (s.live.length : Nat))
def tellM (own : Int) (us : List Up) : sp.Ms := ⟨5, 0, own, 0, false, us⟩
def tellL (own : Int) (us : List Up) : List sp.Ms := if us = [] then [] else [tellM own us]
def Sw.send (s : Sw) (to : Int) (m : sp.Ms) : Sw := { s with q := s.takes.2, out := s.out ++ [⟨to, m :: tellL s.own s.takes.1⟩] }
def Sw.whisper (s : Sw) (to : Int) : Sw := { s with q := s.takes.2, out := s.out ++ (if s.takes.1 = [] then [] else [⟨to, [tellM s.own s.takes.1]⟩]) }
def Sw.shout (s : Sw) (u : Up) : Sw := { s with out := s.out ++ s.peers.map fun p => ⟨p, [tellM s.own [u]]⟩ }
def upd {α : Type} (f : Int → Option α) (n : Int) (x : Option α) : Int → Option α := fun k => if k = n then x else f k
def Sw.wants (s : Sw) : Int := if (s.live.length : Int) - 2 < 0 then 0 else if s.c.want < (s.live.length : Int) - 2 then s.c.want else (s.live.length : Int) - 2
def Sw.redoubt (s : Sw) (u : Up) (f : Int) : Sw :=
  { s with db := upd s.db u.node (if u.st = 1 then some (u.inc, db.Db.new s.c.least s.c.most s.wants f) else none) }
def Sw.rering (s : Sw) (u : Up) : Sw :=
  if u.st = 0 ∨ u.st = 1 then
    if s.rg.takes u.node then { s with rg := s.rg.add u.node (s.d.below (s.rg.row.length + 1 : Nat)), d := s.d.next (s.rg.row.length + 1 : Nat) } else s
  else { s with rg := s.rg.remove u.node }
def Sw.learn (s : Sw) (r : ro.Ro) (u : Up) : Sw := { s with ro := r, q := s.q.push u, events := s.events ++ [u] }
def Sw.confirm (s : Sw) (n : Int) (f : Int) : Sw := { s with db := upd s.db n ((s.db n).map fun p => (p.1, p.2.confirm f)) }
def Sw.doubted (s : Sw) (u : Up) : Bool := decide (u.st = 1) && decide (s.ro.T u.node = some u) && (s.db u.node).isSome
def Sw.accept (s : Sw) (u : Up) (f : Int) : Sw :=
  if s.doubted u then s.confirm u.node f
  else if (s.ro.apply u).1 = 1 ∨ (s.ro.apply u).1 = 2 then (((s.learn (s.ro.apply u).2.2.2 u).redoubt u f).rering u)
  else if (s.ro.apply u).1 = 3 then (s.learn (s.ro.apply u).2.2.2 (s.ro.apply u).2.2.1).shout (s.ro.apply u).2.2.1
  else if (s.ro.apply u).1 = 4 then { s with stuck := true }
  else s
def Sw.accepts (s : Sw) (l : List Up) (f : Int) : Sw := l.foldl (fun s u => s.accept u f) s
def Sw.doubtTick (s : Sw) (n : Int) : Sw := match s.db n with
  | none => s
  | some p => if p.2.tick.due then ({ s with db := upd s.db n (some (p.1, p.2.tick)) } : Sw).accept ⟨n, p.1, 2⟩ s.own else { s with db := upd s.db n (some (p.1, p.2.tick)) }
def Sw.doubtsTo (s : Sw) : Nat → Sw
  | 0 => s
  | k + 1 => (s.doubtsTo k).doubtTick (k : Int)
def nextSeq (n : Nat) : Nat := (n + 1) % 4294967296
def pingM (own : Int) (seq : Nat) (t : Int) : sp.Ms := ⟨1, seq, own, t, false, []⟩
def ackM (src : Int) (seq : Nat) : sp.Ms := ⟨2, seq, src, 0, false, []⟩
def askM (own : Int) (seq : Nat) (t : Int) : sp.Ms := ⟨3, seq, own, t, false, []⟩
def nackM (own : Int) (seq : Nat) : sp.Ms := ⟨4, seq, own, 0, false, []⟩
def Sw.tables (s : Sw) (r : Bool) : sp.Ms := ⟨6, 0, s.own, 0, r, s.view⟩
def Sw.set (s : Sw) (id n : Int) : Sw := { s with wh := s.wh.set id n }
def Sw.stop (s : Sw) (id : Int) : Sw := { s with wh := s.wh.stop id }
def Sw.asks (s : Sw) : Sw := { s with rg := (s.rg.asked s.peers s.d).2.2, d := s.d.asked s.rg s.peers }
def Sw.ping (s : Sw) (t : Int) : Sw := (({ s with seq := nextSeq s.seq, cur := some ⟨nextSeq s.seq, t⟩ } : Sw).set 4 s.c.wait).send t (pingM s.own (nextSeq s.seq) t)
def Sw.probe (s : Sw) : Sw := let s1 := s.set 1 s.c.period
  if (s1.rg.asked s1.peers s1.d).2.1 then s1.asks.ping (s1.rg.asked s1.peers s1.d).1 else s1.asks
def butP (live : List Int) (x : Int) : List Int := live.filter fun y => !(y == x)
def Sw.others (s : Sw) (x many : Int) : List Int := pr.pickL (butP s.peers x) (s.d.some_ (butP s.peers x).length many)
def Sw.drawn (s : Sw) (x : Int) : Sw := { s with d := s.d.afterO (butP s.peers x).length }
def Sw.gossip (s : Sw) : Sw := let s1 := s.set 2 s.c.gossip
  (s1.others (-1) s1.c.fanout).foldl Sw.whisper (s1.drawn (-1))
def Sw.mates (s : Sw) : List Int := (s.view.filter fun u => decide (u.node ≠ s.own ∧ u.st ≠ 3)).map Up.node
def Sw.partner (s : Sw) : Option Int := match s.mates.find? fun x => decide (s.last < x) with
  | some x => some x
  | none => s.mates.head?
def Sw.sync (s : Sw) : Sw := let s1 := s.set 3 s.c.sync
  match s1.partner with
  | none => s1
  | some x => ({ s1 with last := x } : Sw).send x (s1.tables false)
def Sw.ask (s : Sw) : Sw := match s.cur with
  | none => s
  | some p => ((s.others p.tgt s.c.indirect).foldl (fun s x => s.send x (askM s.own p.seq p.tgt)) (s.drawn p.tgt)).set 5 s.c.wait
def Sw.fail (s : Sw) : Sw := match s.cur with
  | none => s
  | some p => match s.ro.T p.tgt with
    | none => { s with cur := none }
    | some u => if u.st = 0 then ({ s with cur := none } : Sw).accept ⟨u.node, u.inc, 1⟩ s.own else { s with cur := none }
def updR (f : Nat → Option Rl) (k : Nat) (x : Option Rl) : Nat → Option Rl := fun j => if j = k then x else f j
def Sw.late (s : Sw) (k : Nat) : Sw := match s.rel k with
  | none => s
  | some r => ({ s with rel := updR s.rel k none } : Sw).send r.org (nackM s.own r.oseq)
def Sw.due (s : Sw) (id : Int) : Sw :=
  if id = 1 then s.probe else if id = 2 then s.gossip else if id = 3 then s.sync else if id = 4 then s.ask else if id = 5 then s.fail
  else if 16 ≤ id ∧ id < 24 then s.late (id - 16).toNat else s
def Sw.dues (s : Sw) (l : List Int) : Sw := l.foldl Sw.due s
def Sw.flush (s : Sw) : Sw := { s with out := [] }
def Sw.ticked (s : Sw) : Sw := let s1 := s.doubtsTo 8
  ({ s1 with wh := s1.wh.tick } : Sw).dues s1.wh.due
def Sw.done (s : Sw) : Sw × List Pkt := (s.flush, s.out)
def Sw.tick (s : Sw) : Sw × List Pkt := if s.gone then (s, []) else s.ticked.done
def freeTo (f : Nat → Option Rl) : Nat → Option Nat
  | 0 => none
  | k + 1 => match freeTo f k with
    | some j => some j
    | none => if (f k).isNone then some k else none
def Sw.relay (s : Sw) (m : sp.Ms) : Sw := match freeTo s.rel 8 with
  | none => s
  | some k => (({ s with seq := nextSeq s.seq, rel := updR s.rel k (some ⟨nextSeq s.seq, m.seq, m.tgt, m.src⟩) } : Sw).set (16 + (k : Int)) s.c.wait).send m.tgt (pingM s.own (nextSeq s.seq) m.tgt)
def Sw.pinged (s : Sw) (m : sp.Ms) : Sw :=
  if m.tgt = s.own then s.send m.src (ackM s.own m.seq) else if m.kind = 3 then s.relay m else s
def isFor (m : sp.Ms) : Option Rl → Bool
  | none => false
  | some r => decide (r.seq = m.seq ∧ r.tgt = m.src)
def meantTo (f : Nat → Option Rl) (m : sp.Ms) : Nat → Option Nat
  | 0 => none
  | k + 1 => match meantTo f m k with
    | some j => some j
    | none => if isFor m (f k) then some k else none
def Sw.answers (s : Sw) (m : sp.Ms) : Bool := match s.cur with
  | none => false
  | some p => decide (p.seq = m.seq ∧ p.tgt = m.src)
def Sw.acked (s : Sw) (m : sp.Ms) : Sw :=
  if s.answers m then ((({ s with cur := none } : Sw).stop 4).stop 5)
  else match meantTo s.rel m 8 with
    | none => s
    | some k => match s.rel k with
      | none => s
      | some r => (({ s with rel := updR s.rel k none } : Sw).stop (16 + (k : Int))).send r.org (ackM r.tgt r.oseq)
def Sw.told (s : Sw) (m : sp.Ms) : Sw := let s1 := s.accepts m.us m.src
  if m.kind = 6 ∧ m.rep = false then s1.send m.src (s1.tables true) else s1
def Sw.hear (s : Sw) (m : sp.Ms) : Sw :=
  if m.src = s.own then s
  else if m.kind = 1 ∨ m.kind = 3 then s.pinged m
  else if m.kind = 2 then s.acked m
  else if m.kind = 4 then { s with nacks := s.nacks + 1 }
  else if m.kind = 5 ∨ m.kind = 6 then s.told m
  else s
def Sw.hears (s : Sw) (l : List sp.Ms) : Sw := l.foldl Sw.hear s
def Sw.receive (s : Sw) (to : Int) (o : Option (List sp.Ms)) : Sw × List Pkt :=
  if s.gone ∨ to ≠ s.own then (s, [])
  else match o with
    | none => ({ s with wrong := s.wrong + 1 }, [])
    | some l => (s.hears l).done
def Sw.join (s : Sw) (peer : Int) : Sw × List Pkt :=
  if s.gone ∨ peer < 0 ∨ 7 < peer ∨ peer = s.own then (s, []) else (s.send peer (s.tables false)).done
def Sw.new (c : Cf) (self : Int) (inc : Nat) (draws : List Nat) : Sw :=
  { c := c, ro := ro.Ro.new self inc, q := ru.Qu.new c.mult, rg := pr.Rg.new, d := ⟨draws, 0⟩, wh := ((wh.St.new.set 1 c.period).set 2 c.gossip).set 3 c.sync,
    db := fun _ => none, cur := none, rel := fun _ => none, seq := 0, last := -1, gone := false, events := [], wrong := 0, nacks := 0, stuck := false, out := [] }
end Go.Proofs.YtaicipldjmngaaaGreatDoor.sw

namespace Go.Proofs.YtaicipldjmngaaaGreatDoor.dr
end Go.Proofs.YtaicipldjmngaaaGreatDoor.dr
namespace Go.Proofs.YtaicipldjmngaaaGreatDoor.wh
end Go.Proofs.YtaicipldjmngaaaGreatDoor.wh
namespace Go.Proofs.YtaicipldjmngaaaGreatDoor.ro
end Go.Proofs.YtaicipldjmngaaaGreatDoor.ro
namespace Go.Proofs.YtaicipldjmngaaaGreatDoor.ru
end Go.Proofs.YtaicipldjmngaaaGreatDoor.ru
namespace Go.Proofs.YtaicipldjmngaaaGreatDoor.db
end Go.Proofs.YtaicipldjmngaaaGreatDoor.db
namespace Go.Proofs.YtaicipldjmngaaaGreatDoor.pr
end Go.Proofs.YtaicipldjmngaaaGreatDoor.pr
namespace Go.Proofs.YtaicipldjmngaaaGreatDoor.sp
end Go.Proofs.YtaicipldjmngaaaGreatDoor.sp
namespace Go.Proofs.YtaicipldjmngaaaGreatDoor.sw
open Go.Proofs.YtaicipldjmngaaaGreatDoor.dr Go.Proofs.YtaicipldjmngaaaGreatDoor.wh Go.Proofs.YtaicipldjmngaaaGreatDoor.ro Go.Proofs.YtaicipldjmngaaaGreatDoor.ru Go.Proofs.YtaicipldjmngaaaGreatDoor.db Go.Proofs.YtaicipldjmngaaaGreatDoor.pr Go.Proofs.YtaicipldjmngaaaGreatDoor.sp
def isNode (n : Int) : Prop := 0 ≤ n ∧ n ≤ 7
structure Pkt.Ok (p : Pkt) : Prop where
  to : isNode p.to
  some_ : p.ms ≠ []
  few : p.ms.length ≤ 2
  each : ∀ m ∈ p.ms, m.Ok ∧ m.wide
  short : ∀ m ∈ p.ms, m.us.length ≤ 8
structure Rl.Ok (r : Rl) : Prop where
  seq : r.seq < 4294967296
  oseq : r.oseq < 4294967296
  tgt : isNode r.tgt
  org : isNode r.org
structure Sw.Base (s : Sw) : Prop where
  c : s.c.Ok
  ro : s.ro.ok
  wide : ∀ n u, s.ro.T n = some u → u.wide
  q : s.q.ok
  qT : ∀ r ∈ s.q.L, ∃ v, s.ro.T r.u.node = some v ∧ r.u.above v = false
  qw : ∀ r ∈ s.q.L, r.u.wide ∧ r.sent ≤ 128
  rg : s.rg.ok
  d : dr.okDr s.d
  wh : s.wh.ok
  ids : ∀ x ∈ s.wh.L, (1 ≤ x.1 ∧ x.1 ≤ 5) ∨ (16 ≤ x.1 ∧ x.1 < 24)
  db : ∀ n p, s.db n = some p → n ≠ s.own ∧ s.ro.T n = some ⟨n, p.1, 1⟩ ∧ p.2.ok ∧ p.2.least = s.c.least ∧ p.2.most = s.c.most
  dn : ∀ n u, s.ro.T n = some u → u.st = 1 → n ≠ s.own → (s.db n).isSome = true
  self : ∃ i, s.ro.T s.own = some ⟨s.own, i, if s.gone then 3 else 0⟩
  cur : ∀ p, s.cur = some p → p.seq < 4294967296 ∧ isNode p.tgt
  rel : ∀ k r, s.rel k = some r → k < 8 ∧ r.Ok
  seq : s.seq < 4294967296
  last : -1 ≤ s.last ∧ s.last ≤ 7
  out : ∀ p ∈ s.out, p.Ok
  ev : ∀ u ∈ s.events, u.right = true ∧ u.wide
theorem Sw.Base.ownN {s : Sw} (h : s.Base) : isNode s.own := by have := h.ro.ownR; unfold isNode Sw.own; omega
theorem right_node {u : Up} (h : u.right = true) : isNode u.node := by
  obtain ⟨k, h1, h2⟩ := right_lt h
  unfold isNode; omega
theorem mem_listTo {T : Int → Option Up} {m : Nat} {u : Up} : u ∈ ro.listTo T m ↔ ∃ k : Nat, k < m ∧ T (k : Int) = some u := by
  unfold ro.listTo
  simp [List.mem_filterMap]
theorem Sw.Base.mem_view {s : Sw} (h : s.Base) {u : Up} (hu : u ∈ s.view) : u.right = true ∧ u.wide ∧ s.ro.T u.node = some u := by
  obtain ⟨k, _, hk⟩ := mem_listTo.1 hu
  obtain ⟨h1, h2⟩ := h.ro.at_ _ _ hk
  exact ⟨h1, h.wide _ _ hk, by rw [h2]; exact hk⟩
theorem view_len (s : Sw) : s.view.length ≤ 8 := ro.listTo_len _ _
theorem Sw.Base.mem_live {s : Sw} (h : s.Base) {n : Int} (hn : n ∈ s.live) : isNode n := by
  unfold Sw.live livesOf at hn
  obtain ⟨u, hu, rfl⟩ := List.mem_map.1 hn
  exact right_node (h.mem_view (List.mem_filter.1 hu).1).1
theorem Sw.Base.mem_peers {s : Sw} (h : s.Base) {n : Int} (hn : n ∈ s.peers) : isNode n ∧ n ≠ s.own := by
  unfold Sw.peers at hn
  obtain ⟨h1, h2⟩ := List.mem_filter.1 hn
  exact ⟨h.mem_live h1, by simpa using h2⟩
theorem isNode.right {n : Int} (h : isNode n) {i : Nat} {st : Int} (hs : st = 0 ∨ st = 1 ∨ st = 2 ∨ st = 3) : (⟨n, i, st⟩ : Up).right = true := by
  unfold isNode at h
  unfold Up.right
  simp only [decide_eq_true_eq]
  omega
theorem tellM_ok {own : Int} {us : List Up} (ho : isNode own) (hl : us.length ≤ 8) (hr : ∀ u ∈ us, u.right = true ∧ u.wide) : (tellM own us).Ok ∧ (tellM own us).wide ∧ (tellM own us).us.length ≤ 8 := by
  unfold tellM
  unfold isNode at ho
  refine ⟨⟨by simp, by simp only; omega, by simp, by simp only; omega, fun u hu => (hr u hu).1, fun _ => ⟨rfl, rfl⟩, fun h => by simp at h, fun _ => rfl, fun _ _ => rfl⟩, ⟨by simp, fun u hu => (hr u hu).2⟩, hl⟩
theorem plainM_ok {k : Int} {q : Nat} {f t : Int} (hk : k = 1 ∨ k = 2 ∨ k = 3 ∨ k = 4) (hq : q < 4294967296) (hf : isNode f) (ht : isNode t) (h0 : k = 2 ∨ k = 4 → t = 0) :
    (⟨k, q, f, t, false, []⟩ : sp.Ms).Ok ∧ (⟨k, q, f, t, false, []⟩ : sp.Ms).wide ∧ (⟨k, q, f, t, false, []⟩ : sp.Ms).us.length ≤ 8 := by
  unfold isNode at hf ht
  refine ⟨⟨by simp only; omega, by simp only; omega, by simp only; omega, by simp, fun u hu => by simp at hu, fun h => by simp only at h; omega, fun _ => rfl, fun _ => rfl, fun h1 h3 => h0 (by simp only at h1 h3; omega)⟩, ⟨hq, fun u hu => by simp at hu⟩, by simp⟩
theorem pingM_ok {own t : Int} {q : Nat} (ho : isNode own) (ht : isNode t) (hq : q < 4294967296) : (pingM own q t).Ok ∧ (pingM own q t).wide ∧ (pingM own q t).us.length ≤ 8 := plainM_ok (.inl rfl) hq ho ht (by omega)
theorem askM_ok {own t : Int} {q : Nat} (ho : isNode own) (ht : isNode t) (hq : q < 4294967296) : (askM own q t).Ok ∧ (askM own q t).wide ∧ (askM own q t).us.length ≤ 8 := plainM_ok (.inr (.inr (.inl rfl))) hq ho ht (by omega)
theorem ackM_ok {own : Int} {q : Nat} (ho : isNode own) (hq : q < 4294967296) : (ackM own q).Ok ∧ (ackM own q).wide ∧ (ackM own q).us.length ≤ 8 := plainM_ok (.inr (.inl rfl)) hq ho (by unfold isNode; omega) (fun _ => rfl)
theorem nackM_ok {own : Int} {q : Nat} (ho : isNode own) (hq : q < 4294967296) : (nackM own q).Ok ∧ (nackM own q).wide ∧ (nackM own q).us.length ≤ 8 := plainM_ok (.inr (.inr (.inr rfl))) hq ho (by unfold isNode; omega) (fun _ => rfl)
theorem Sw.Base.tables_ok {s : Sw} (h : s.Base) (r : Bool) : (s.tables r).Ok ∧ (s.tables r).wide ∧ (s.tables r).us.length ≤ 8 := by
  have ho := h.ownN
  have hl := view_len s
  unfold Sw.tables
  unfold isNode at ho
  refine ⟨⟨by simp, by simp only; omega, by simp, by simp only; omega, fun u hu => (h.mem_view hu).1, fun _ => ⟨rfl, rfl⟩, fun h => by simp at h, fun h => absurd rfl h, fun _ _ => rfl⟩, ⟨by simp, fun u hu => (h.mem_view hu).2.1⟩, hl⟩
theorem Sw.Base.takes {s : Sw} (h : s.Base) : s.takes.1.length ≤ 8 ∧ (∀ u ∈ s.takes.1, u.right = true ∧ u.wide ∧ ∃ r ∈ s.q.L, r.u = u) ∧ s.takes.2.ok ∧ (∀ r ∈ s.takes.2.L, (∃ t ∈ s.q.L, r.u = t.u) ∧ r.sent ≤ 128) := by
  unfold Sw.takes
  refine ⟨?_, ?_, ru.Qu.take_ok h.q _ _, ?_⟩
  · have := ru.Qu.few h.q
    show ((s.q.L.take _).map _).length ≤ 8
    rw [List.length_map, List.length_take]
    omega
  · intro u hu
    obtain ⟨r, hr, rfl⟩ := List.mem_map.1 hu
    have hr' := List.mem_of_mem_take hr
    exact ⟨h.q.right r hr', (h.qw r hr').1, r, hr', rfl⟩
  · intro r hr
    have hr := (ru.sortQ_perm _).subset hr
    obtain ⟨t, ht, e, _⟩ := ru.left_mem hr
    refine ⟨⟨t, ht, e⟩, ?_⟩
    unfold ru.left at hr
    rcases List.mem_append.1 hr with k | k
    · have h1 := (List.mem_filter.1 k).2
      simp only [decide_eq_true_eq] at h1
      have h2 : s.live.length ≤ 8 := by
        have h3 : s.live.length ≤ s.view.length := by
          unfold Sw.live livesOf Sw.view
          rw [List.length_map]
          exact List.length_filter_le _ _
        have := view_len s
        omega
      have := ru.limitQ_le h.q.mult8 (members := (s.live.length : Nat)) (by omega)
      omega
    · exact (h.qw r (List.mem_of_mem_drop k)).2
theorem tellL_ok {own : Int} {us : List Up} (ho : isNode own) (hl : us.length ≤ 8) (hr : ∀ u ∈ us, u.right = true ∧ u.wide) : (tellL own us).length ≤ 1 ∧ ∀ m ∈ tellL own us, m.Ok ∧ m.wide ∧ m.us.length ≤ 8 := by
  unfold tellL
  split
  · exact ⟨by simp, fun m hm => by cases hm⟩
  · refine ⟨by simp, fun m hm => ?_⟩
    rw [List.mem_singleton.1 hm]
    exact tellM_ok ho hl hr
theorem Sw.Base.takenQ {s : Sw} (h : s.Base) (o : List Pkt) (ho : ∀ p ∈ o, p.Ok) : ({ s with q := s.takes.2, out := s.out ++ o } : Sw).Base := by
  obtain ⟨h1, h2, h3, h4⟩ := h.takes
  refine ⟨h.c, h.ro, h.wide, h3, ?_, ?_, h.rg, h.d, h.wh, h.ids, h.db, h.dn, h.self, h.cur, h.rel, h.seq, h.last, ?_, h.ev⟩
  · intro r hr
    obtain ⟨⟨t, ht, e⟩, _⟩ := h4 r hr
    rw [e]; exact h.qT t ht
  · intro r hr
    obtain ⟨⟨t, ht, e⟩, hs⟩ := h4 r hr
    exact ⟨by rw [e]; exact (h.qw t ht).1, hs⟩
  · intro p hp
    rcases List.mem_append.1 hp with hp | hp
    · exact h.out p hp
    · exact ho p hp
theorem Sw.Base.send {s : Sw} (h : s.Base) {to : Int} (ht : isNode to) {m : sp.Ms} (hm : m.Ok ∧ m.wide ∧ m.us.length ≤ 8) : (s.send to m).Base := by
  obtain ⟨h1, h2, h3, h4⟩ := h.takes
  obtain ⟨k1, k2⟩ := tellL_ok h.ownN h1 (fun u hu => ⟨(h2 u hu).1, (h2 u hu).2.1⟩)
  refine h.takenQ _ (fun p hp => ?_)
  rw [List.mem_singleton.1 hp]
  refine ⟨ht, by simp, by simp only [List.length_cons]; omega, ?_, ?_⟩
  · intro x hx
    rcases List.mem_cons.1 hx with rfl | hx
    · exact ⟨hm.1, hm.2.1⟩
    · exact ⟨(k2 x hx).1, (k2 x hx).2.1⟩
  · intro x hx
    rcases List.mem_cons.1 hx with rfl | hx
    · exact hm.2.2
    · exact (k2 x hx).2.2
theorem Sw.Base.whisper {s : Sw} (h : s.Base) {to : Int} (ht : isNode to) : (s.whisper to).Base := by
  obtain ⟨h1, h2, h3, h4⟩ := h.takes
  refine h.takenQ _ (fun p hp => ?_)
  split at hp
  · cases hp
  · rw [List.mem_singleton.1 hp]
    have k := tellM_ok h.ownN h1 (fun u hu => ⟨(h2 u hu).1, (h2 u hu).2.1⟩)
    exact ⟨ht, by simp, by simp, fun x hx => by rw [List.mem_singleton.1 hx]; exact ⟨k.1, k.2.1⟩, fun x hx => by rw [List.mem_singleton.1 hx]; exact k.2.2⟩
theorem Sw.Base.shout {s : Sw} (h : s.Base) {u : Up} (hu : u.right = true ∧ u.wide) : (s.shout u).Base := by
  refine ⟨h.c, h.ro, h.wide, h.q, h.qT, h.qw, h.rg, h.d, h.wh, h.ids, h.db, h.dn, h.self, h.cur, h.rel, h.seq, h.last, ?_, h.ev⟩
  intro p hp
  rcases List.mem_append.1 hp with hp | hp
  · exact h.out p hp
  · obtain ⟨x, hx, rfl⟩ := List.mem_map.1 hp
    have k := tellM_ok (us := [u]) h.ownN (by simp) (fun v hv => by rw [List.mem_singleton.1 hv]; exact hu)
    exact ⟨(h.mem_peers hx).1, by simp, by simp, fun x hx => by rw [List.mem_singleton.1 hx]; exact ⟨k.1, k.2.1⟩, fun x hx => by rw [List.mem_singleton.1 hx]; exact k.2.2⟩
end Go.Proofs.YtaicipldjmngaaaGreatDoor.sw

namespace Go.Proofs.YtaicipldjmngaaaGreatDoor.dr
end Go.Proofs.YtaicipldjmngaaaGreatDoor.dr
namespace Go.Proofs.YtaicipldjmngaaaGreatDoor.wh
end Go.Proofs.YtaicipldjmngaaaGreatDoor.wh
namespace Go.Proofs.YtaicipldjmngaaaGreatDoor.ro
end Go.Proofs.YtaicipldjmngaaaGreatDoor.ro
namespace Go.Proofs.YtaicipldjmngaaaGreatDoor.ru
end Go.Proofs.YtaicipldjmngaaaGreatDoor.ru
namespace Go.Proofs.YtaicipldjmngaaaGreatDoor.db
end Go.Proofs.YtaicipldjmngaaaGreatDoor.db
namespace Go.Proofs.YtaicipldjmngaaaGreatDoor.pr
end Go.Proofs.YtaicipldjmngaaaGreatDoor.pr
namespace Go.Proofs.YtaicipldjmngaaaGreatDoor.sp
end Go.Proofs.YtaicipldjmngaaaGreatDoor.sp
namespace Go.Proofs.YtaicipldjmngaaaGreatDoor.sw
open Go.Proofs.YtaicipldjmngaaaGreatDoor.dr Go.Proofs.YtaicipldjmngaaaGreatDoor.wh Go.Proofs.YtaicipldjmngaaaGreatDoor.ro Go.Proofs.YtaicipldjmngaaaGreatDoor.ru Go.Proofs.YtaicipldjmngaaaGreatDoor.db Go.Proofs.YtaicipldjmngaaaGreatDoor.pr Go.Proofs.YtaicipldjmngaaaGreatDoor.sp
open Go.RowKit
set_option linter.unusedVariables false
set_option linter.unusedSimpArgs false
def inB (n a b : Int) : Bool := decide (a ≤ n ∧ n ≤ b)
def rightL (c : Cf) : List Bool := [inB c.wait 1 1000, inB c.period (2 * c.wait + 1) 4000, inB c.indirect 0 4, db.waitOk c.least c.most c.want, inB c.mult 1 8, inB c.piggy 1 16, inB c.gossip 1 1000, inB c.fanout 1 4, inB c.sync 1 4000]
def rightB (c : Cf) : Bool := (rightL c).all id
theorem rightB_iff (c : Cf) : rightB c = true ↔ c.Ok := by
  unfold rightB rightL inB
  simp only [List.all_cons, List.all_nil, id, Bool.and_eq_true, decide_eq_true_eq, Bool.and_true]
  constructor
  · rintro ⟨h1, h2, h3, h4, h5, h6, h7, h8, h9⟩
    exact ⟨h1, h2, h3, h4, h5, h6, h7, h8, h9⟩
  · rintro ⟨h1, h2, h3, h4, h5, h6, h7, h8, h9⟩
    exact ⟨h1, h2, h3, h4, h5, h6, h7, h8, h9⟩
theorem within_yes (n a b : Int) (h : a ≤ n ∧ n ≤ b) (w : World) : Calls Tryz.prog 35 #[.int .i64 n, .int .i64 a, .int .i64 b] w fun e w' => e = .returned (.bool true) ∧ w = w' := by
  obtain ⟨h1, h2⟩ := h
  go_enter Tryz.func35, Tryz.ntmps35
  go_wp2
  go_ret
  exact ⟨rfl, rfl⟩
theorem within_no (n a b : Int) (h : ¬ (a ≤ n ∧ n ≤ b)) (w : World) : Calls Tryz.prog 35 #[.int .i64 n, .int .i64 a, .int .i64 b] w fun e w' => e = .returned (.bool false) ∧ w = w' := by
  by_cases h1 : a ≤ n
  · have h2 : decide (n ≤ b) = false := by rw [decide_eq_false_iff_not]; omega
    clear h
    go_enter Tryz.func35, Tryz.ntmps35
    go_wp2
    go_ret
    exact ⟨rfl, rfl⟩
  · have h2 : n < a := by omega
    clear h h1
    go_enter Tryz.func35, Tryz.ntmps35
    go_wp2
    go_ret
    exact ⟨rfl, rfl⟩
theorem within_any (n a b : Int) (w : World) : Calls Tryz.prog 35 #[.int .i64 n, .int .i64 a, .int .i64 b] w fun e w' => e = .returned (.bool (inB n a b)) ∧ w = w' := by
  unfold inB
  by_cases h : a ≤ n ∧ n ≤ b
  · rw [decide_eq_true h]; exact within_yes n a b h w
  · rw [decide_eq_false h]; exact within_no n a b h w
def CfAt (w : World) (X : Nat) (c : Cf) : Prop := w.heap[X]? = some (.cells #[.int .i64 c.period, .int .i64 c.wait, .int .i64 c.indirect, .int .i64 c.least, .int .i64 c.most, .int .i64 c.want, .int .i64 c.mult, .int .i64 c.piggy, .int .i64 c.gossip, .int .i64 c.fanout, .int .i64 c.sync] 23 (0, 0))
theorem CfAt.below {w w' : World} {X : Nat} {c : Cf} (h : CfAt w X c) (hb : Below w.heap.size w w') : CfAt w' X c := (hb.block X (block_lt h)).trans h
theorem CfAt.cells {w : World} {X : Nat} {c : Cf} (h : CfAt w X c) : w.cell? ⟨X, 0, none⟩ = some (.int .i64 c.period) ∧ w.cell? ⟨X, 1, none⟩ = some (.int .i64 c.wait) ∧ w.cell? ⟨X, 2, none⟩ = some (.int .i64 c.indirect) ∧ w.cell? ⟨X, 3, none⟩ = some (.int .i64 c.least) ∧ w.cell? ⟨X, 4, none⟩ = some (.int .i64 c.most) ∧ w.cell? ⟨X, 5, none⟩ = some (.int .i64 c.want) ∧ w.cell? ⟨X, 6, none⟩ = some (.int .i64 c.mult) ∧ w.cell? ⟨X, 7, none⟩ = some (.int .i64 c.piggy) ∧ w.cell? ⟨X, 8, none⟩ = some (.int .i64 c.gossip) ∧ w.cell? ⟨X, 9, none⟩ = some (.int .i64 c.fanout) ∧ w.cell? ⟨X, 10, none⟩ = some (.int .i64 c.sync) := by
  refine ⟨?_, ?_, ?_, ?_, ?_, ?_, ?_, ?_, ?_, ?_, ?_⟩ <;> (rw [cell_of_row _ _ _ _ _ _ h]; rfl)
set_option maxHeartbeats 8000000 in
set_option maxRecDepth 100000 in
theorem right_0 (c : Cf) (W0 : World) (hs : db.ScIs W0) (h0 : inB c.wait 1 1000 = false) : Calls Tryz.prog 10 #[.agg #[.int .i64 c.period, .int .i64 c.wait, .int .i64 c.indirect, .int .i64 c.least, .int .i64 c.most, .int .i64 c.want, .int .i64 c.mult, .int .i64 c.piggy, .int .i64 c.gossip, .int .i64 c.fanout, .int .i64 c.sync]] W0 fun e w' => e = .returned (.bool false) ∧ Below W0.heap.size W0 w' := by
  have b1 := below1 W0 (.cells #[.int .i64 c.period, .int .i64 c.wait, .int .i64 c.indirect, .int .i64 c.least, .int .i64 c.most, .int .i64 c.want, .int .i64 c.mult, .int .i64 c.piggy, .int .i64 c.gossip, .int .i64 c.fanout, .int .i64 c.sync] 23)
  have k1 : CfAt _ _ c := heap_alloc_new W0 (.cells #[.int .i64 c.period, .int .i64 c.wait, .int .i64 c.indirect, .int .i64 c.least, .int .i64 c.most, .int .i64 c.want, .int .i64 c.mult, .int .i64 c.piggy, .int .i64 c.gossip, .int .i64 c.fanout, .int .i64 c.sync] 23)
  obtain ⟨W1, hW1⟩ : ∃ W1, W0.alloc (.cells #[.int .i64 c.period, .int .i64 c.wait, .int .i64 c.indirect, .int .i64 c.least, .int .i64 c.most, .int .i64 c.want, .int .i64 c.mult, .int .i64 c.piggy, .int .i64 c.gossip, .int .i64 c.fanout, .int .i64 c.sync] 23) = W1 := ⟨_, rfl⟩
  obtain ⟨X, hX⟩ : ∃ X, W0.heap.size = X := ⟨_, rfl⟩
  rw [hW1] at b1 k1
  rw [hX] at k1
  have HX := Lib.hid hX
  have HW1 := Lib.hid hW1
  have HB1 := Lib.hid b1
  have HK := Lib.hid k1
  clear b1 k1 hX hW1 hs
  have H0 := Lib.hid (fun W => within_any c.wait 1 1000 W)
  rw [h0] at H0
  clear h0
  go_enter Tryz.func10, Tryz.ntmps10
  go_wp2_with fail
  rw [HW1.out, HX.out]
  refine (H0.out _).mono ?_
  rintro e w' ⟨rfl, rfl⟩
  obtain ⟨c0, c1, c2, c3, c4, c5, c6, c7, c8, c9, c10⟩ := HK.out.cells
  go_wp2
  go_ret
  exact ⟨rfl, HB1.out⟩
set_option maxHeartbeats 8000000 in
set_option maxRecDepth 100000 in
theorem right_1 (c : Cf) (W0 : World) (hs : db.ScIs W0) (h0 : inB c.wait 1 1000 = true) (h1 : inB c.period (2 * c.wait + 1) 4000 = false) : Calls Tryz.prog 10 #[.agg #[.int .i64 c.period, .int .i64 c.wait, .int .i64 c.indirect, .int .i64 c.least, .int .i64 c.most, .int .i64 c.want, .int .i64 c.mult, .int .i64 c.piggy, .int .i64 c.gossip, .int .i64 c.fanout, .int .i64 c.sync]] W0 fun e w' => e = .returned (.bool false) ∧ Below W0.heap.size W0 w' := by
  have b1 := below1 W0 (.cells #[.int .i64 c.period, .int .i64 c.wait, .int .i64 c.indirect, .int .i64 c.least, .int .i64 c.most, .int .i64 c.want, .int .i64 c.mult, .int .i64 c.piggy, .int .i64 c.gossip, .int .i64 c.fanout, .int .i64 c.sync] 23)
  have k1 : CfAt _ _ c := heap_alloc_new W0 (.cells #[.int .i64 c.period, .int .i64 c.wait, .int .i64 c.indirect, .int .i64 c.least, .int .i64 c.most, .int .i64 c.want, .int .i64 c.mult, .int .i64 c.piggy, .int .i64 c.gossip, .int .i64 c.fanout, .int .i64 c.sync] 23)
  obtain ⟨W1, hW1⟩ : ∃ W1, W0.alloc (.cells #[.int .i64 c.period, .int .i64 c.wait, .int .i64 c.indirect, .int .i64 c.least, .int .i64 c.most, .int .i64 c.want, .int .i64 c.mult, .int .i64 c.piggy, .int .i64 c.gossip, .int .i64 c.fanout, .int .i64 c.sync] 23) = W1 := ⟨_, rfl⟩
  obtain ⟨X, hX⟩ : ∃ X, W0.heap.size = X := ⟨_, rfl⟩
  rw [hW1] at b1 k1
  rw [hX] at k1
  have HX := Lib.hid hX
  have HW1 := Lib.hid hW1
  have HB1 := Lib.hid b1
  have HK := Lib.hid k1
  clear b1 k1 hX hW1 hs
  have H0 := Lib.hid (fun W => within_any c.wait 1 1000 W)
  rw [h0] at H0
  have q0 : 1 ≤ c.wait ∧ c.wait ≤ 1000 := by unfold inB at h0; simpa using h0
  obtain ⟨q1, q2⟩ := q0
  clear h0
  have H1 := Lib.hid (fun W => within_any c.period (2 * c.wait + 1) 4000 W)
  rw [h1] at H1
  clear h1
  go_enter Tryz.func10, Tryz.ntmps10
  go_wp2_with fail
  rw [HW1.out, HX.out]
  refine (H0.out _).mono ?_
  rintro e w' ⟨rfl, rfl⟩
  obtain ⟨c0, c1, c2, c3, c4, c5, c6, c7, c8, c9, c10⟩ := HK.out.cells
  go_wp2_with fail
  refine (H1.out _).mono ?_
  rintro e w' ⟨rfl, rfl⟩
  go_wp2
  go_ret
  exact ⟨rfl, HB1.out⟩
set_option maxHeartbeats 8000000 in
set_option maxRecDepth 100000 in
theorem right_2 (c : Cf) (W0 : World) (hs : db.ScIs W0) (h0 : inB c.wait 1 1000 = true) (h1 : inB c.period (2 * c.wait + 1) 4000 = true) (h2 : inB c.indirect 0 4 = false) : Calls Tryz.prog 10 #[.agg #[.int .i64 c.period, .int .i64 c.wait, .int .i64 c.indirect, .int .i64 c.least, .int .i64 c.most, .int .i64 c.want, .int .i64 c.mult, .int .i64 c.piggy, .int .i64 c.gossip, .int .i64 c.fanout, .int .i64 c.sync]] W0 fun e w' => e = .returned (.bool false) ∧ Below W0.heap.size W0 w' := by
  have b1 := below1 W0 (.cells #[.int .i64 c.period, .int .i64 c.wait, .int .i64 c.indirect, .int .i64 c.least, .int .i64 c.most, .int .i64 c.want, .int .i64 c.mult, .int .i64 c.piggy, .int .i64 c.gossip, .int .i64 c.fanout, .int .i64 c.sync] 23)
  have k1 : CfAt _ _ c := heap_alloc_new W0 (.cells #[.int .i64 c.period, .int .i64 c.wait, .int .i64 c.indirect, .int .i64 c.least, .int .i64 c.most, .int .i64 c.want, .int .i64 c.mult, .int .i64 c.piggy, .int .i64 c.gossip, .int .i64 c.fanout, .int .i64 c.sync] 23)
  obtain ⟨W1, hW1⟩ : ∃ W1, W0.alloc (.cells #[.int .i64 c.period, .int .i64 c.wait, .int .i64 c.indirect, .int .i64 c.least, .int .i64 c.most, .int .i64 c.want, .int .i64 c.mult, .int .i64 c.piggy, .int .i64 c.gossip, .int .i64 c.fanout, .int .i64 c.sync] 23) = W1 := ⟨_, rfl⟩
  obtain ⟨X, hX⟩ : ∃ X, W0.heap.size = X := ⟨_, rfl⟩
  rw [hW1] at b1 k1
  rw [hX] at k1
  have HX := Lib.hid hX
  have HW1 := Lib.hid hW1
  have HB1 := Lib.hid b1
  have HK := Lib.hid k1
  clear b1 k1 hX hW1 hs
  have H0 := Lib.hid (fun W => within_any c.wait 1 1000 W)
  rw [h0] at H0
  have q0 : 1 ≤ c.wait ∧ c.wait ≤ 1000 := by unfold inB at h0; simpa using h0
  obtain ⟨q1, q2⟩ := q0
  clear h0
  have H1 := Lib.hid (fun W => within_any c.period (2 * c.wait + 1) 4000 W)
  rw [h1] at H1
  clear h1
  have H2 := Lib.hid (fun W => within_any c.indirect 0 4 W)
  rw [h2] at H2
  clear h2
  go_enter Tryz.func10, Tryz.ntmps10
  go_wp2_with fail
  rw [HW1.out, HX.out]
  refine (H0.out _).mono ?_
  rintro e w' ⟨rfl, rfl⟩
  obtain ⟨c0, c1, c2, c3, c4, c5, c6, c7, c8, c9, c10⟩ := HK.out.cells
  go_wp2_with fail
  refine (H1.out _).mono ?_
  rintro e w' ⟨rfl, rfl⟩
  go_wp2_with fail
  refine (H2.out _).mono ?_
  rintro e w' ⟨rfl, rfl⟩
  go_wp2
  go_ret
  exact ⟨rfl, HB1.out⟩
set_option maxHeartbeats 8000000 in
set_option maxRecDepth 100000 in
theorem right_3 (c : Cf) (W0 : World) (hs : db.ScIs W0) (h0 : inB c.wait 1 1000 = true) (h1 : inB c.period (2 * c.wait + 1) 4000 = true) (h2 : inB c.indirect 0 4 = true) (h3 : db.waitOk c.least c.most c.want = false) : Calls Tryz.prog 10 #[.agg #[.int .i64 c.period, .int .i64 c.wait, .int .i64 c.indirect, .int .i64 c.least, .int .i64 c.most, .int .i64 c.want, .int .i64 c.mult, .int .i64 c.piggy, .int .i64 c.gossip, .int .i64 c.fanout, .int .i64 c.sync]] W0 fun e w' => e = .returned (.bool false) ∧ Below W0.heap.size W0 w' := by
  have b1 := below1 W0 (.cells #[.int .i64 c.period, .int .i64 c.wait, .int .i64 c.indirect, .int .i64 c.least, .int .i64 c.most, .int .i64 c.want, .int .i64 c.mult, .int .i64 c.piggy, .int .i64 c.gossip, .int .i64 c.fanout, .int .i64 c.sync] 23)
  have k1 : CfAt _ _ c := heap_alloc_new W0 (.cells #[.int .i64 c.period, .int .i64 c.wait, .int .i64 c.indirect, .int .i64 c.least, .int .i64 c.most, .int .i64 c.want, .int .i64 c.mult, .int .i64 c.piggy, .int .i64 c.gossip, .int .i64 c.fanout, .int .i64 c.sync] 23)
  obtain ⟨W1, hW1⟩ : ∃ W1, W0.alloc (.cells #[.int .i64 c.period, .int .i64 c.wait, .int .i64 c.indirect, .int .i64 c.least, .int .i64 c.most, .int .i64 c.want, .int .i64 c.mult, .int .i64 c.piggy, .int .i64 c.gossip, .int .i64 c.fanout, .int .i64 c.sync] 23) = W1 := ⟨_, rfl⟩
  obtain ⟨X, hX⟩ : ∃ X, W0.heap.size = X := ⟨_, rfl⟩
  rw [hW1] at b1 k1
  rw [hX] at k1
  have HX := Lib.hid hX
  have HW1 := Lib.hid hW1
  have HB1 := Lib.hid b1
  have HK := Lib.hid k1
  have HWt := Lib.hid (db.wait_any c.least c.most c.want 0 W1 (hs.below b1))
  clear b1 k1 hX hW1 hs
  have H0 := Lib.hid (fun W => within_any c.wait 1 1000 W)
  rw [h0] at H0
  have q0 : 1 ≤ c.wait ∧ c.wait ≤ 1000 := by unfold inB at h0; simpa using h0
  obtain ⟨q1, q2⟩ := q0
  clear h0
  have H1 := Lib.hid (fun W => within_any c.period (2 * c.wait + 1) 4000 W)
  rw [h1] at H1
  clear h1
  have H2 := Lib.hid (fun W => within_any c.indirect 0 4 W)
  rw [h2] at H2
  clear h2
  rw [db.waitD_no h3 0] at HWt
  clear h3
  go_enter Tryz.func10, Tryz.ntmps10
  go_wp2_with fail
  rw [HW1.out, HX.out]
  refine (H0.out _).mono ?_
  rintro e w' ⟨rfl, rfl⟩
  obtain ⟨c0, c1, c2, c3, c4, c5, c6, c7, c8, c9, c10⟩ := HK.out.cells
  go_wp2_with fail
  refine (H1.out _).mono ?_
  rintro e w' ⟨rfl, rfl⟩
  go_wp2_with fail
  refine (H2.out _).mono ?_
  rintro e w' ⟨rfl, rfl⟩
  go_wp2_with fail
  refine HWt.out.mono ?_
  rintro e w3 ⟨rfl, nq, hq⟩
  have hb3 : Below W1.heap.size W1 w3 := by rw [hq]; exact below_drewN (Below.refl _ _) nq
  clear hq
  obtain ⟨c0, c1, c2, c3, c4, c5, c6, c7, c8, c9, c10⟩ := (HK.out.below hb3).cells
  have HB3 : Hid (Below W0.heap.size W0 w3) := Lib.hid (HB1.out.trans (hb3.mono HB1.out.size))
  clear hb3
  go_wp2
  go_ret
  exact ⟨rfl, HB3.out⟩
set_option maxHeartbeats 8000000 in
set_option maxRecDepth 100000 in
theorem right_4 (c : Cf) (W0 : World) (hs : db.ScIs W0) (h0 : inB c.wait 1 1000 = true) (h1 : inB c.period (2 * c.wait + 1) 4000 = true) (h2 : inB c.indirect 0 4 = true) (h3 : db.waitOk c.least c.most c.want = true) (h4 : inB c.mult 1 8 = false) : Calls Tryz.prog 10 #[.agg #[.int .i64 c.period, .int .i64 c.wait, .int .i64 c.indirect, .int .i64 c.least, .int .i64 c.most, .int .i64 c.want, .int .i64 c.mult, .int .i64 c.piggy, .int .i64 c.gossip, .int .i64 c.fanout, .int .i64 c.sync]] W0 fun e w' => e = .returned (.bool false) ∧ Below W0.heap.size W0 w' := by
  have b1 := below1 W0 (.cells #[.int .i64 c.period, .int .i64 c.wait, .int .i64 c.indirect, .int .i64 c.least, .int .i64 c.most, .int .i64 c.want, .int .i64 c.mult, .int .i64 c.piggy, .int .i64 c.gossip, .int .i64 c.fanout, .int .i64 c.sync] 23)
  have k1 : CfAt _ _ c := heap_alloc_new W0 (.cells #[.int .i64 c.period, .int .i64 c.wait, .int .i64 c.indirect, .int .i64 c.least, .int .i64 c.most, .int .i64 c.want, .int .i64 c.mult, .int .i64 c.piggy, .int .i64 c.gossip, .int .i64 c.fanout, .int .i64 c.sync] 23)
  obtain ⟨W1, hW1⟩ : ∃ W1, W0.alloc (.cells #[.int .i64 c.period, .int .i64 c.wait, .int .i64 c.indirect, .int .i64 c.least, .int .i64 c.most, .int .i64 c.want, .int .i64 c.mult, .int .i64 c.piggy, .int .i64 c.gossip, .int .i64 c.fanout, .int .i64 c.sync] 23) = W1 := ⟨_, rfl⟩
  obtain ⟨X, hX⟩ : ∃ X, W0.heap.size = X := ⟨_, rfl⟩
  rw [hW1] at b1 k1
  rw [hX] at k1
  have HX := Lib.hid hX
  have HW1 := Lib.hid hW1
  have HB1 := Lib.hid b1
  have HK := Lib.hid k1
  have HWt := Lib.hid (db.wait_any c.least c.most c.want 0 W1 (hs.below b1))
  clear b1 k1 hX hW1 hs
  have H0 := Lib.hid (fun W => within_any c.wait 1 1000 W)
  rw [h0] at H0
  have q0 : 1 ≤ c.wait ∧ c.wait ≤ 1000 := by unfold inB at h0; simpa using h0
  obtain ⟨q1, q2⟩ := q0
  clear h0
  have H1 := Lib.hid (fun W => within_any c.period (2 * c.wait + 1) 4000 W)
  rw [h1] at H1
  clear h1
  have H2 := Lib.hid (fun W => within_any c.indirect 0 4 W)
  rw [h2] at H2
  clear h2
  have hz := db.waitD_pos h3 0
  obtain ⟨z, hzz⟩ : ∃ z, db.waitD c.least c.most c.want 0 = z := ⟨_, rfl⟩
  rw [hzz] at HWt hz
  have e3 : (z != 0) = true := by rw [bne_iff_ne]; exact hz
  clear hz hzz
  clear h3
  have H4 := Lib.hid (fun W => within_any c.mult 1 8 W)
  rw [h4] at H4
  clear h4
  go_enter Tryz.func10, Tryz.ntmps10
  go_wp2_with fail
  rw [HW1.out, HX.out]
  refine (H0.out _).mono ?_
  rintro e w' ⟨rfl, rfl⟩
  obtain ⟨c0, c1, c2, c3, c4, c5, c6, c7, c8, c9, c10⟩ := HK.out.cells
  go_wp2_with fail
  refine (H1.out _).mono ?_
  rintro e w' ⟨rfl, rfl⟩
  go_wp2_with fail
  refine (H2.out _).mono ?_
  rintro e w' ⟨rfl, rfl⟩
  go_wp2_with fail
  refine HWt.out.mono ?_
  rintro e w3 ⟨rfl, nq, hq⟩
  have hb3 : Below W1.heap.size W1 w3 := by rw [hq]; exact below_drewN (Below.refl _ _) nq
  clear hq
  obtain ⟨c0, c1, c2, c3, c4, c5, c6, c7, c8, c9, c10⟩ := (HK.out.below hb3).cells
  have HB3 : Hid (Below W0.heap.size W0 w3) := Lib.hid (HB1.out.trans (hb3.mono HB1.out.size))
  clear hb3
  go_wp2_with fail
  refine (H4.out _).mono ?_
  rintro e w' ⟨rfl, rfl⟩
  go_wp2
  go_ret
  exact ⟨rfl, HB3.out⟩
set_option maxHeartbeats 8000000 in
set_option maxRecDepth 100000 in
theorem right_5 (c : Cf) (W0 : World) (hs : db.ScIs W0) (h0 : inB c.wait 1 1000 = true) (h1 : inB c.period (2 * c.wait + 1) 4000 = true) (h2 : inB c.indirect 0 4 = true) (h3 : db.waitOk c.least c.most c.want = true) (h4 : inB c.mult 1 8 = true) (h5 : inB c.piggy 1 16 = false) : Calls Tryz.prog 10 #[.agg #[.int .i64 c.period, .int .i64 c.wait, .int .i64 c.indirect, .int .i64 c.least, .int .i64 c.most, .int .i64 c.want, .int .i64 c.mult, .int .i64 c.piggy, .int .i64 c.gossip, .int .i64 c.fanout, .int .i64 c.sync]] W0 fun e w' => e = .returned (.bool false) ∧ Below W0.heap.size W0 w' := by
  have b1 := below1 W0 (.cells #[.int .i64 c.period, .int .i64 c.wait, .int .i64 c.indirect, .int .i64 c.least, .int .i64 c.most, .int .i64 c.want, .int .i64 c.mult, .int .i64 c.piggy, .int .i64 c.gossip, .int .i64 c.fanout, .int .i64 c.sync] 23)
  have k1 : CfAt _ _ c := heap_alloc_new W0 (.cells #[.int .i64 c.period, .int .i64 c.wait, .int .i64 c.indirect, .int .i64 c.least, .int .i64 c.most, .int .i64 c.want, .int .i64 c.mult, .int .i64 c.piggy, .int .i64 c.gossip, .int .i64 c.fanout, .int .i64 c.sync] 23)
  obtain ⟨W1, hW1⟩ : ∃ W1, W0.alloc (.cells #[.int .i64 c.period, .int .i64 c.wait, .int .i64 c.indirect, .int .i64 c.least, .int .i64 c.most, .int .i64 c.want, .int .i64 c.mult, .int .i64 c.piggy, .int .i64 c.gossip, .int .i64 c.fanout, .int .i64 c.sync] 23) = W1 := ⟨_, rfl⟩
  obtain ⟨X, hX⟩ : ∃ X, W0.heap.size = X := ⟨_, rfl⟩
  rw [hW1] at b1 k1
  rw [hX] at k1
  have HX := Lib.hid hX
  have HW1 := Lib.hid hW1
  have HB1 := Lib.hid b1
  have HK := Lib.hid k1
  have HWt := Lib.hid (db.wait_any c.least c.most c.want 0 W1 (hs.below b1))
  clear b1 k1 hX hW1 hs
  have H0 := Lib.hid (fun W => within_any c.wait 1 1000 W)
  rw [h0] at H0
  have q0 : 1 ≤ c.wait ∧ c.wait ≤ 1000 := by unfold inB at h0; simpa using h0
  obtain ⟨q1, q2⟩ := q0
  clear h0
  have H1 := Lib.hid (fun W => within_any c.period (2 * c.wait + 1) 4000 W)
  rw [h1] at H1
  clear h1
  have H2 := Lib.hid (fun W => within_any c.indirect 0 4 W)
  rw [h2] at H2
  clear h2
  have hz := db.waitD_pos h3 0
  obtain ⟨z, hzz⟩ : ∃ z, db.waitD c.least c.most c.want 0 = z := ⟨_, rfl⟩
  rw [hzz] at HWt hz
  have e3 : (z != 0) = true := by rw [bne_iff_ne]; exact hz
  clear hz hzz
  clear h3
  have H4 := Lib.hid (fun W => within_any c.mult 1 8 W)
  rw [h4] at H4
  clear h4
  have H5 := Lib.hid (fun W => within_any c.piggy 1 16 W)
  rw [h5] at H5
  clear h5
  go_enter Tryz.func10, Tryz.ntmps10
  go_wp2_with fail
  rw [HW1.out, HX.out]
  refine (H0.out _).mono ?_
  rintro e w' ⟨rfl, rfl⟩
  obtain ⟨c0, c1, c2, c3, c4, c5, c6, c7, c8, c9, c10⟩ := HK.out.cells
  go_wp2_with fail
  refine (H1.out _).mono ?_
  rintro e w' ⟨rfl, rfl⟩
  go_wp2_with fail
  refine (H2.out _).mono ?_
  rintro e w' ⟨rfl, rfl⟩
  go_wp2_with fail
  refine HWt.out.mono ?_
  rintro e w3 ⟨rfl, nq, hq⟩
  have hb3 : Below W1.heap.size W1 w3 := by rw [hq]; exact below_drewN (Below.refl _ _) nq
  clear hq
  obtain ⟨c0, c1, c2, c3, c4, c5, c6, c7, c8, c9, c10⟩ := (HK.out.below hb3).cells
  have HB3 : Hid (Below W0.heap.size W0 w3) := Lib.hid (HB1.out.trans (hb3.mono HB1.out.size))
  clear hb3
  go_wp2_with fail
  refine (H4.out _).mono ?_
  rintro e w' ⟨rfl, rfl⟩
  go_wp2_with fail
  refine (H5.out _).mono ?_
  rintro e w' ⟨rfl, rfl⟩
  go_wp2
  go_ret
  exact ⟨rfl, HB3.out⟩
set_option maxHeartbeats 8000000 in
set_option maxRecDepth 100000 in
theorem right_6 (c : Cf) (W0 : World) (hs : db.ScIs W0) (h0 : inB c.wait 1 1000 = true) (h1 : inB c.period (2 * c.wait + 1) 4000 = true) (h2 : inB c.indirect 0 4 = true) (h3 : db.waitOk c.least c.most c.want = true) (h4 : inB c.mult 1 8 = true) (h5 : inB c.piggy 1 16 = true) (h6 : inB c.gossip 1 1000 = false) : Calls Tryz.prog 10 #[.agg #[.int .i64 c.period, .int .i64 c.wait, .int .i64 c.indirect, .int .i64 c.least, .int .i64 c.most, .int .i64 c.want, .int .i64 c.mult, .int .i64 c.piggy, .int .i64 c.gossip, .int .i64 c.fanout, .int .i64 c.sync]] W0 fun e w' => e = .returned (.bool false) ∧ Below W0.heap.size W0 w' := by
  have b1 := below1 W0 (.cells #[.int .i64 c.period, .int .i64 c.wait, .int .i64 c.indirect, .int .i64 c.least, .int .i64 c.most, .int .i64 c.want, .int .i64 c.mult, .int .i64 c.piggy, .int .i64 c.gossip, .int .i64 c.fanout, .int .i64 c.sync] 23)
  have k1 : CfAt _ _ c := heap_alloc_new W0 (.cells #[.int .i64 c.period, .int .i64 c.wait, .int .i64 c.indirect, .int .i64 c.least, .int .i64 c.most, .int .i64 c.want, .int .i64 c.mult, .int .i64 c.piggy, .int .i64 c.gossip, .int .i64 c.fanout, .int .i64 c.sync] 23)
  obtain ⟨W1, hW1⟩ : ∃ W1, W0.alloc (.cells #[.int .i64 c.period, .int .i64 c.wait, .int .i64 c.indirect, .int .i64 c.least, .int .i64 c.most, .int .i64 c.want, .int .i64 c.mult, .int .i64 c.piggy, .int .i64 c.gossip, .int .i64 c.fanout, .int .i64 c.sync] 23) = W1 := ⟨_, rfl⟩
  obtain ⟨X, hX⟩ : ∃ X, W0.heap.size = X := ⟨_, rfl⟩
  rw [hW1] at b1 k1
  rw [hX] at k1
  have HX := Lib.hid hX
  have HW1 := Lib.hid hW1
  have HB1 := Lib.hid b1
  have HK := Lib.hid k1
  have HWt := Lib.hid (db.wait_any c.least c.most c.want 0 W1 (hs.below b1))
  clear b1 k1 hX hW1 hs
  have H0 := Lib.hid (fun W => within_any c.wait 1 1000 W)
  rw [h0] at H0
  have q0 : 1 ≤ c.wait ∧ c.wait ≤ 1000 := by unfold inB at h0; simpa using h0
  obtain ⟨q1, q2⟩ := q0
  clear h0
  have H1 := Lib.hid (fun W => within_any c.period (2 * c.wait + 1) 4000 W)
  rw [h1] at H1
  clear h1
  have H2 := Lib.hid (fun W => within_any c.indirect 0 4 W)
  rw [h2] at H2
  clear h2
  have hz := db.waitD_pos h3 0
  obtain ⟨z, hzz⟩ : ∃ z, db.waitD c.least c.most c.want 0 = z := ⟨_, rfl⟩
  rw [hzz] at HWt hz
  have e3 : (z != 0) = true := by rw [bne_iff_ne]; exact hz
  clear hz hzz
  clear h3
  have H4 := Lib.hid (fun W => within_any c.mult 1 8 W)
  rw [h4] at H4
  clear h4
  have H5 := Lib.hid (fun W => within_any c.piggy 1 16 W)
  rw [h5] at H5
  clear h5
  have H6 := Lib.hid (fun W => within_any c.gossip 1 1000 W)
  rw [h6] at H6
  clear h6
  go_enter Tryz.func10, Tryz.ntmps10
  go_wp2_with fail
  rw [HW1.out, HX.out]
  refine (H0.out _).mono ?_
  rintro e w' ⟨rfl, rfl⟩
  obtain ⟨c0, c1, c2, c3, c4, c5, c6, c7, c8, c9, c10⟩ := HK.out.cells
  go_wp2_with fail
  refine (H1.out _).mono ?_
  rintro e w' ⟨rfl, rfl⟩
  go_wp2_with fail
  refine (H2.out _).mono ?_
  rintro e w' ⟨rfl, rfl⟩
  go_wp2_with fail
  refine HWt.out.mono ?_
  rintro e w3 ⟨rfl, nq, hq⟩
  have hb3 : Below W1.heap.size W1 w3 := by rw [hq]; exact below_drewN (Below.refl _ _) nq
  clear hq
  obtain ⟨c0, c1, c2, c3, c4, c5, c6, c7, c8, c9, c10⟩ := (HK.out.below hb3).cells
  have HB3 : Hid (Below W0.heap.size W0 w3) := Lib.hid (HB1.out.trans (hb3.mono HB1.out.size))
  clear hb3
  go_wp2_with fail
  refine (H4.out _).mono ?_
  rintro e w' ⟨rfl, rfl⟩
  go_wp2_with fail
  refine (H5.out _).mono ?_
  rintro e w' ⟨rfl, rfl⟩
  go_wp2_with fail
  refine (H6.out _).mono ?_
  rintro e w' ⟨rfl, rfl⟩
  go_wp2
  go_ret
  exact ⟨rfl, HB3.out⟩
set_option maxHeartbeats 8000000 in
set_option maxRecDepth 100000 in
theorem right_7 (c : Cf) (W0 : World) (hs : db.ScIs W0) (h0 : inB c.wait 1 1000 = true) (h1 : inB c.period (2 * c.wait + 1) 4000 = true) (h2 : inB c.indirect 0 4 = true) (h3 : db.waitOk c.least c.most c.want = true) (h4 : inB c.mult 1 8 = true) (h5 : inB c.piggy 1 16 = true) (h6 : inB c.gossip 1 1000 = true) (h7 : inB c.fanout 1 4 = false) : Calls Tryz.prog 10 #[.agg #[.int .i64 c.period, .int .i64 c.wait, .int .i64 c.indirect, .int .i64 c.least, .int .i64 c.most, .int .i64 c.want, .int .i64 c.mult, .int .i64 c.piggy, .int .i64 c.gossip, .int .i64 c.fanout, .int .i64 c.sync]] W0 fun e w' => e = .returned (.bool false) ∧ Below W0.heap.size W0 w' := by
  have b1 := below1 W0 (.cells #[.int .i64 c.period, .int .i64 c.wait, .int .i64 c.indirect, .int .i64 c.least, .int .i64 c.most, .int .i64 c.want, .int .i64 c.mult, .int .i64 c.piggy, .int .i64 c.gossip, .int .i64 c.fanout, .int .i64 c.sync] 23)
  have k1 : CfAt _ _ c := heap_alloc_new W0 (.cells #[.int .i64 c.period, .int .i64 c.wait, .int .i64 c.indirect, .int .i64 c.least, .int .i64 c.most, .int .i64 c.want, .int .i64 c.mult, .int .i64 c.piggy, .int .i64 c.gossip, .int .i64 c.fanout, .int .i64 c.sync] 23)
  obtain ⟨W1, hW1⟩ : ∃ W1, W0.alloc (.cells #[.int .i64 c.period, .int .i64 c.wait, .int .i64 c.indirect, .int .i64 c.least, .int .i64 c.most, .int .i64 c.want, .int .i64 c.mult, .int .i64 c.piggy, .int .i64 c.gossip, .int .i64 c.fanout, .int .i64 c.sync] 23) = W1 := ⟨_, rfl⟩
  obtain ⟨X, hX⟩ : ∃ X, W0.heap.size = X := ⟨_, rfl⟩
  rw [hW1] at b1 k1
  rw [hX] at k1
  have HX := Lib.hid hX
  have HW1 := Lib.hid hW1
  have HB1 := Lib.hid b1
  have HK := Lib.hid k1
  have HWt := Lib.hid (db.wait_any c.least c.most c.want 0 W1 (hs.below b1))
  clear b1 k1 hX hW1 hs
  have H0 := Lib.hid (fun W => within_any c.wait 1 1000 W)
  rw [h0] at H0
  have q0 : 1 ≤ c.wait ∧ c.wait ≤ 1000 := by unfold inB at h0; simpa using h0
  obtain ⟨q1, q2⟩ := q0
  clear h0
  have H1 := Lib.hid (fun W => within_any c.period (2 * c.wait + 1) 4000 W)
  rw [h1] at H1
  clear h1
  have H2 := Lib.hid (fun W => within_any c.indirect 0 4 W)
  rw [h2] at H2
  clear h2
  have hz := db.waitD_pos h3 0
  obtain ⟨z, hzz⟩ : ∃ z, db.waitD c.least c.most c.want 0 = z := ⟨_, rfl⟩
  rw [hzz] at HWt hz
  have e3 : (z != 0) = true := by rw [bne_iff_ne]; exact hz
  clear hz hzz
  clear h3
  have H4 := Lib.hid (fun W => within_any c.mult 1 8 W)
  rw [h4] at H4
  clear h4
  have H5 := Lib.hid (fun W => within_any c.piggy 1 16 W)
  rw [h5] at H5
  clear h5
  have H6 := Lib.hid (fun W => within_any c.gossip 1 1000 W)
  rw [h6] at H6
  clear h6
  have H7 := Lib.hid (fun W => within_any c.fanout 1 4 W)
  rw [h7] at H7
  clear h7
  go_enter Tryz.func10, Tryz.ntmps10
  go_wp2_with fail
  rw [HW1.out, HX.out]
  refine (H0.out _).mono ?_
  rintro e w' ⟨rfl, rfl⟩
  obtain ⟨c0, c1, c2, c3, c4, c5, c6, c7, c8, c9, c10⟩ := HK.out.cells
  go_wp2_with fail
  refine (H1.out _).mono ?_
  rintro e w' ⟨rfl, rfl⟩
  go_wp2_with fail
  refine (H2.out _).mono ?_
  rintro e w' ⟨rfl, rfl⟩
  go_wp2_with fail
  refine HWt.out.mono ?_
  rintro e w3 ⟨rfl, nq, hq⟩
  have hb3 : Below W1.heap.size W1 w3 := by rw [hq]; exact below_drewN (Below.refl _ _) nq
  clear hq
  obtain ⟨c0, c1, c2, c3, c4, c5, c6, c7, c8, c9, c10⟩ := (HK.out.below hb3).cells
  have HB3 : Hid (Below W0.heap.size W0 w3) := Lib.hid (HB1.out.trans (hb3.mono HB1.out.size))
  clear hb3
  go_wp2_with fail
  refine (H4.out _).mono ?_
  rintro e w' ⟨rfl, rfl⟩
  go_wp2_with fail
  refine (H5.out _).mono ?_
  rintro e w' ⟨rfl, rfl⟩
  go_wp2_with fail
  refine (H6.out _).mono ?_
  rintro e w' ⟨rfl, rfl⟩
  go_wp2_with fail
  refine (H7.out _).mono ?_
  rintro e w' ⟨rfl, rfl⟩
  go_wp2
  go_ret
  exact ⟨rfl, HB3.out⟩
set_option maxHeartbeats 8000000 in
set_option maxRecDepth 100000 in
theorem right_8 (c : Cf) (W0 : World) (hs : db.ScIs W0) (h0 : inB c.wait 1 1000 = true) (h1 : inB c.period (2 * c.wait + 1) 4000 = true) (h2 : inB c.indirect 0 4 = true) (h3 : db.waitOk c.least c.most c.want = true) (h4 : inB c.mult 1 8 = true) (h5 : inB c.piggy 1 16 = true) (h6 : inB c.gossip 1 1000 = true) (h7 : inB c.fanout 1 4 = true) (h8 : inB c.sync 1 4000 = false) : Calls Tryz.prog 10 #[.agg #[.int .i64 c.period, .int .i64 c.wait, .int .i64 c.indirect, .int .i64 c.least, .int .i64 c.most, .int .i64 c.want, .int .i64 c.mult, .int .i64 c.piggy, .int .i64 c.gossip, .int .i64 c.fanout, .int .i64 c.sync]] W0 fun e w' => e = .returned (.bool false) ∧ Below W0.heap.size W0 w' := by
  have b1 := below1 W0 (.cells #[.int .i64 c.period, .int .i64 c.wait, .int .i64 c.indirect, .int .i64 c.least, .int .i64 c.most, .int .i64 c.want, .int .i64 c.mult, .int .i64 c.piggy, .int .i64 c.gossip, .int .i64 c.fanout, .int .i64 c.sync] 23)
  have k1 : CfAt _ _ c := heap_alloc_new W0 (.cells #[.int .i64 c.period, .int .i64 c.wait, .int .i64 c.indirect, .int .i64 c.least, .int .i64 c.most, .int .i64 c.want, .int .i64 c.mult, .int .i64 c.piggy, .int .i64 c.gossip, .int .i64 c.fanout, .int .i64 c.sync] 23)
  obtain ⟨W1, hW1⟩ : ∃ W1, W0.alloc (.cells #[.int .i64 c.period, .int .i64 c.wait, .int .i64 c.indirect, .int .i64 c.least, .int .i64 c.most, .int .i64 c.want, .int .i64 c.mult, .int .i64 c.piggy, .int .i64 c.gossip, .int .i64 c.fanout, .int .i64 c.sync] 23) = W1 := ⟨_, rfl⟩
  obtain ⟨X, hX⟩ : ∃ X, W0.heap.size = X := ⟨_, rfl⟩
  rw [hW1] at b1 k1
  rw [hX] at k1
  have HX := Lib.hid hX
  have HW1 := Lib.hid hW1
  have HB1 := Lib.hid b1
  have HK := Lib.hid k1
  have HWt := Lib.hid (db.wait_any c.least c.most c.want 0 W1 (hs.below b1))
  clear b1 k1 hX hW1 hs
  have H0 := Lib.hid (fun W => within_any c.wait 1 1000 W)
  rw [h0] at H0
  have q0 : 1 ≤ c.wait ∧ c.wait ≤ 1000 := by unfold inB at h0; simpa using h0
  obtain ⟨q1, q2⟩ := q0
  clear h0
  have H1 := Lib.hid (fun W => within_any c.period (2 * c.wait + 1) 4000 W)
  rw [h1] at H1
  clear h1
  have H2 := Lib.hid (fun W => within_any c.indirect 0 4 W)
  rw [h2] at H2
  clear h2
  have hz := db.waitD_pos h3 0
  obtain ⟨z, hzz⟩ : ∃ z, db.waitD c.least c.most c.want 0 = z := ⟨_, rfl⟩
  rw [hzz] at HWt hz
  have e3 : (z != 0) = true := by rw [bne_iff_ne]; exact hz
  clear hz hzz
  clear h3
  have H4 := Lib.hid (fun W => within_any c.mult 1 8 W)
  rw [h4] at H4
  clear h4
  have H5 := Lib.hid (fun W => within_any c.piggy 1 16 W)
  rw [h5] at H5
  clear h5
  have H6 := Lib.hid (fun W => within_any c.gossip 1 1000 W)
  rw [h6] at H6
  clear h6
  have H7 := Lib.hid (fun W => within_any c.fanout 1 4 W)
  rw [h7] at H7
  clear h7
  have H8 := Lib.hid (fun W => within_any c.sync 1 4000 W)
  rw [h8] at H8
  clear h8
  go_enter Tryz.func10, Tryz.ntmps10
  go_wp2_with fail
  rw [HW1.out, HX.out]
  refine (H0.out _).mono ?_
  rintro e w' ⟨rfl, rfl⟩
  obtain ⟨c0, c1, c2, c3, c4, c5, c6, c7, c8, c9, c10⟩ := HK.out.cells
  go_wp2_with fail
  refine (H1.out _).mono ?_
  rintro e w' ⟨rfl, rfl⟩
  go_wp2_with fail
  refine (H2.out _).mono ?_
  rintro e w' ⟨rfl, rfl⟩
  go_wp2_with fail
  refine HWt.out.mono ?_
  rintro e w3 ⟨rfl, nq, hq⟩
  have hb3 : Below W1.heap.size W1 w3 := by rw [hq]; exact below_drewN (Below.refl _ _) nq
  clear hq
  obtain ⟨c0, c1, c2, c3, c4, c5, c6, c7, c8, c9, c10⟩ := (HK.out.below hb3).cells
  have HB3 : Hid (Below W0.heap.size W0 w3) := Lib.hid (HB1.out.trans (hb3.mono HB1.out.size))
  clear hb3
  go_wp2_with fail
  refine (H4.out _).mono ?_
  rintro e w' ⟨rfl, rfl⟩
  go_wp2_with fail
  refine (H5.out _).mono ?_
  rintro e w' ⟨rfl, rfl⟩
  go_wp2_with fail
  refine (H6.out _).mono ?_
  rintro e w' ⟨rfl, rfl⟩
  go_wp2_with fail
  refine (H7.out _).mono ?_
  rintro e w' ⟨rfl, rfl⟩
  go_wp2_with fail
  refine (H8.out _).mono ?_
  rintro e w' ⟨rfl, rfl⟩
  go_wp2
  go_ret
  exact ⟨rfl, HB3.out⟩
set_option maxHeartbeats 8000000 in
set_option maxRecDepth 100000 in
theorem right_9 (c : Cf) (W0 : World) (hs : db.ScIs W0) (h0 : inB c.wait 1 1000 = true) (h1 : inB c.period (2 * c.wait + 1) 4000 = true) (h2 : inB c.indirect 0 4 = true) (h3 : db.waitOk c.least c.most c.want = true) (h4 : inB c.mult 1 8 = true) (h5 : inB c.piggy 1 16 = true) (h6 : inB c.gossip 1 1000 = true) (h7 : inB c.fanout 1 4 = true) (h8 : inB c.sync 1 4000 = true) : Calls Tryz.prog 10 #[.agg #[.int .i64 c.period, .int .i64 c.wait, .int .i64 c.indirect, .int .i64 c.least, .int .i64 c.most, .int .i64 c.want, .int .i64 c.mult, .int .i64 c.piggy, .int .i64 c.gossip, .int .i64 c.fanout, .int .i64 c.sync]] W0 fun e w' => e = .returned (.bool true) ∧ Below W0.heap.size W0 w' := by
  have b1 := below1 W0 (.cells #[.int .i64 c.period, .int .i64 c.wait, .int .i64 c.indirect, .int .i64 c.least, .int .i64 c.most, .int .i64 c.want, .int .i64 c.mult, .int .i64 c.piggy, .int .i64 c.gossip, .int .i64 c.fanout, .int .i64 c.sync] 23)
  have k1 : CfAt _ _ c := heap_alloc_new W0 (.cells #[.int .i64 c.period, .int .i64 c.wait, .int .i64 c.indirect, .int .i64 c.least, .int .i64 c.most, .int .i64 c.want, .int .i64 c.mult, .int .i64 c.piggy, .int .i64 c.gossip, .int .i64 c.fanout, .int .i64 c.sync] 23)
  obtain ⟨W1, hW1⟩ : ∃ W1, W0.alloc (.cells #[.int .i64 c.period, .int .i64 c.wait, .int .i64 c.indirect, .int .i64 c.least, .int .i64 c.most, .int .i64 c.want, .int .i64 c.mult, .int .i64 c.piggy, .int .i64 c.gossip, .int .i64 c.fanout, .int .i64 c.sync] 23) = W1 := ⟨_, rfl⟩
  obtain ⟨X, hX⟩ : ∃ X, W0.heap.size = X := ⟨_, rfl⟩
  rw [hW1] at b1 k1
  rw [hX] at k1
  have HX := Lib.hid hX
  have HW1 := Lib.hid hW1
  have HB1 := Lib.hid b1
  have HK := Lib.hid k1
  have HWt := Lib.hid (db.wait_any c.least c.most c.want 0 W1 (hs.below b1))
  clear b1 k1 hX hW1 hs
  have H0 := Lib.hid (fun W => within_any c.wait 1 1000 W)
  rw [h0] at H0
  have q0 : 1 ≤ c.wait ∧ c.wait ≤ 1000 := by unfold inB at h0; simpa using h0
  obtain ⟨q1, q2⟩ := q0
  clear h0
  have H1 := Lib.hid (fun W => within_any c.period (2 * c.wait + 1) 4000 W)
  rw [h1] at H1
  clear h1
  have H2 := Lib.hid (fun W => within_any c.indirect 0 4 W)
  rw [h2] at H2
  clear h2
  have hz := db.waitD_pos h3 0
  obtain ⟨z, hzz⟩ : ∃ z, db.waitD c.least c.most c.want 0 = z := ⟨_, rfl⟩
  rw [hzz] at HWt hz
  have e3 : (z != 0) = true := by rw [bne_iff_ne]; exact hz
  clear hz hzz
  clear h3
  have H4 := Lib.hid (fun W => within_any c.mult 1 8 W)
  rw [h4] at H4
  clear h4
  have H5 := Lib.hid (fun W => within_any c.piggy 1 16 W)
  rw [h5] at H5
  clear h5
  have H6 := Lib.hid (fun W => within_any c.gossip 1 1000 W)
  rw [h6] at H6
  clear h6
  have H7 := Lib.hid (fun W => within_any c.fanout 1 4 W)
  rw [h7] at H7
  clear h7
  have H8 := Lib.hid (fun W => within_any c.sync 1 4000 W)
  rw [h8] at H8
  clear h8
  go_enter Tryz.func10, Tryz.ntmps10
  go_wp2_with fail
  rw [HW1.out, HX.out]
  refine (H0.out _).mono ?_
  rintro e w' ⟨rfl, rfl⟩
  obtain ⟨c0, c1, c2, c3, c4, c5, c6, c7, c8, c9, c10⟩ := HK.out.cells
  go_wp2_with fail
  refine (H1.out _).mono ?_
  rintro e w' ⟨rfl, rfl⟩
  go_wp2_with fail
  refine (H2.out _).mono ?_
  rintro e w' ⟨rfl, rfl⟩
  go_wp2_with fail
  refine HWt.out.mono ?_
  rintro e w3 ⟨rfl, nq, hq⟩
  have hb3 : Below W1.heap.size W1 w3 := by rw [hq]; exact below_drewN (Below.refl _ _) nq
  clear hq
  obtain ⟨c0, c1, c2, c3, c4, c5, c6, c7, c8, c9, c10⟩ := (HK.out.below hb3).cells
  have HB3 : Hid (Below W0.heap.size W0 w3) := Lib.hid (HB1.out.trans (hb3.mono HB1.out.size))
  clear hb3
  go_wp2_with fail
  refine (H4.out _).mono ?_
  rintro e w' ⟨rfl, rfl⟩
  go_wp2_with fail
  refine (H5.out _).mono ?_
  rintro e w' ⟨rfl, rfl⟩
  go_wp2_with fail
  refine (H6.out _).mono ?_
  rintro e w' ⟨rfl, rfl⟩
  go_wp2_with fail
  refine (H7.out _).mono ?_
  rintro e w' ⟨rfl, rfl⟩
  go_wp2_with fail
  refine (H8.out _).mono ?_
  rintro e w' ⟨rfl, rfl⟩
  go_wp2
  go_ret
  exact ⟨rfl, HB3.out⟩
theorem Right_any (c : Cf) (W0 : World) (hs : db.ScIs W0) : Calls Tryz.prog 10 #[.agg #[.int .i64 c.period, .int .i64 c.wait, .int .i64 c.indirect, .int .i64 c.least, .int .i64 c.most, .int .i64 c.want, .int .i64 c.mult, .int .i64 c.piggy, .int .i64 c.gossip, .int .i64 c.fanout, .int .i64 c.sync]] W0 fun e w' => e = .returned (.bool (rightB c)) ∧ Below W0.heap.size W0 w' := by
  cases h0 : inB c.wait 1 1000 with
  | false =>
    have e : rightB c = false := by unfold rightB rightL; simp [h0]
    rw [e]
    exact right_0 c W0 hs h0
  | true =>
    cases h1 : inB c.period (2 * c.wait + 1) 4000 with
    | false =>
      have e : rightB c = false := by unfold rightB rightL; simp [h1]
      rw [e]
      exact right_1 c W0 hs h0 h1
    | true =>
      cases h2 : inB c.indirect 0 4 with
      | false =>
        have e : rightB c = false := by unfold rightB rightL; simp [h2]
        rw [e]
        exact right_2 c W0 hs h0 h1 h2
      | true =>
        cases h3 : db.waitOk c.least c.most c.want with
        | false =>
          have e : rightB c = false := by unfold rightB rightL; simp [h3]
          rw [e]
          exact right_3 c W0 hs h0 h1 h2 h3
        | true =>
          cases h4 : inB c.mult 1 8 with
          | false =>
            have e : rightB c = false := by unfold rightB rightL; simp [h4]
            rw [e]
            exact right_4 c W0 hs h0 h1 h2 h3 h4
          | true =>
            cases h5 : inB c.piggy 1 16 with
            | false =>
              have e : rightB c = false := by unfold rightB rightL; simp [h5]
              rw [e]
              exact right_5 c W0 hs h0 h1 h2 h3 h4 h5
            | true =>
              cases h6 : inB c.gossip 1 1000 with
              | false =>
                have e : rightB c = false := by unfold rightB rightL; simp [h6]
                rw [e]
                exact right_6 c W0 hs h0 h1 h2 h3 h4 h5 h6
              | true =>
                cases h7 : inB c.fanout 1 4 with
                | false =>
                  have e : rightB c = false := by unfold rightB rightL; simp [h7]
                  rw [e]
                  exact right_7 c W0 hs h0 h1 h2 h3 h4 h5 h6 h7
                | true =>
                  cases h8 : inB c.sync 1 4000 with
                  | false =>
                    have e : rightB c = false := by unfold rightB rightL; simp [h8]
                    rw [e]
                    exact right_8 c W0 hs h0 h1 h2 h3 h4 h5 h6 h7 h8
                  | true =>
                    have e : rightB c = true := by unfold rightB rightL; simp [h0, h1, h2, h3, h4, h5, h6, h7, h8]
                    rw [e]
                    exact right_9 c W0 hs h0 h1 h2 h3 h4 h5 h6 h7 h8
end Go.Proofs.YtaicipldjmngaaaGreatDoor.sw

namespace Go.Proofs.YtaicipldjmngaaaGreatDoor.dr
end Go.Proofs.YtaicipldjmngaaaGreatDoor.dr
namespace Go.Proofs.YtaicipldjmngaaaGreatDoor.wh
end Go.Proofs.YtaicipldjmngaaaGreatDoor.wh
namespace Go.Proofs.YtaicipldjmngaaaGreatDoor.ro
end Go.Proofs.YtaicipldjmngaaaGreatDoor.ro
namespace Go.Proofs.YtaicipldjmngaaaGreatDoor.ru
end Go.Proofs.YtaicipldjmngaaaGreatDoor.ru
namespace Go.Proofs.YtaicipldjmngaaaGreatDoor.db
end Go.Proofs.YtaicipldjmngaaaGreatDoor.db
namespace Go.Proofs.YtaicipldjmngaaaGreatDoor.pr
end Go.Proofs.YtaicipldjmngaaaGreatDoor.pr
namespace Go.Proofs.YtaicipldjmngaaaGreatDoor.sp
end Go.Proofs.YtaicipldjmngaaaGreatDoor.sp
namespace Go.Proofs.YtaicipldjmngaaaGreatDoor.sw
open Go.Proofs.YtaicipldjmngaaaGreatDoor.dr Go.Proofs.YtaicipldjmngaaaGreatDoor.wh Go.Proofs.YtaicipldjmngaaaGreatDoor.ro Go.Proofs.YtaicipldjmngaaaGreatDoor.ru Go.Proofs.YtaicipldjmngaaaGreatDoor.db Go.Proofs.YtaicipldjmngaaaGreatDoor.pr Go.Proofs.YtaicipldjmngaaaGreatDoor.sp
open Go.RowKit
set_option linter.unusedVariables false
set_option linter.unusedSimpArgs false
def inZ (n low high : Int) : Int := low + (n % 18446744073709551616) % (high - low + 1)
theorem inZ_in (n : Int) {low high : Int} (h : low ≤ high) : low ≤ inZ n low high ∧ inZ n low high ≤ high := by
  unfold inZ
  have h1 := Int.emod_nonneg (n % 18446744073709551616) (show high - low + 1 ≠ 0 by omega)
  have h2 := Int.emod_lt_of_pos (n % 18446744073709551616) (show 0 < high - low + 1 by omega)
  omega
def fitC (c : Cf) : Cf := ⟨(inZ c.period (2 * (inZ c.wait 1 4) + 1) (2 * (inZ c.wait 1 4) + 6)), (inZ c.wait (1) (4)), (inZ c.indirect (0) (4)), (inZ c.least (1) (9)), (inZ c.most (inZ c.least 1 9) (inZ c.least 1 9 + 20)), (inZ c.want (0) (8)), (inZ c.mult (1) (8)), (inZ c.piggy (1) (16)), (inZ c.gossip (1) (9)), (inZ c.fanout (1) (4)), (inZ c.sync (1) (30))⟩
theorem fitC_ok (c : Cf) : (fitC c).Ok := by
  have h1 := inZ_in c.wait (low := 1) (high := 4) (by omega)
  have h2 := inZ_in c.period (low := 2 * (inZ c.wait 1 4) + 1) (high := 2 * (inZ c.wait 1 4) + 6) (by omega)
  have h3 := inZ_in c.indirect (low := 0) (high := 4) (by omega)
  have h4 := inZ_in c.least (low := 1) (high := 9) (by omega)
  have h5 := inZ_in c.most (low := inZ c.least 1 9) (high := inZ c.least 1 9 + 20) (by omega)
  have h6 := inZ_in c.want (low := 0) (high := 8) (by omega)
  have h7 := inZ_in c.mult (low := 1) (high := 8) (by omega)
  have h8 := inZ_in c.piggy (low := 1) (high := 16) (by omega)
  have h9 := inZ_in c.gossip (low := 1) (high := 9) (by omega)
  have h10 := inZ_in c.fanout (low := 1) (high := 4) (by omega)
  have h11 := inZ_in c.sync (low := 1) (high := 30) (by omega)
  refine ⟨?_, ?_, ?_, ?_, ?_, ?_, ?_, ?_, ?_⟩
  · show 1 ≤ inZ c.wait 1 4 ∧ inZ c.wait 1 4 ≤ 1000; omega
  · show 2 * (inZ c.wait 1 4) + 1 ≤ inZ c.period (2 * (inZ c.wait 1 4) + 1) (2 * (inZ c.wait 1 4) + 6) ∧ inZ c.period (2 * (inZ c.wait 1 4) + 1) (2 * (inZ c.wait 1 4) + 6) ≤ 4000
    omega
  · show 0 ≤ inZ c.indirect 0 4 ∧ inZ c.indirect 0 4 ≤ 4; omega
  · show db.waitOk (inZ c.least 1 9) (inZ c.most (inZ c.least 1 9) (inZ c.least 1 9 + 20)) (inZ c.want 0 8) = true
    unfold db.waitOk
    simp only [decide_eq_true_eq]
    omega
  · show 1 ≤ inZ c.mult 1 8 ∧ inZ c.mult 1 8 ≤ 8; omega
  · show 1 ≤ inZ c.piggy 1 16 ∧ inZ c.piggy 1 16 ≤ 16; omega
  · show 1 ≤ inZ c.gossip 1 9 ∧ inZ c.gossip 1 9 ≤ 1000; omega
  · show 1 ≤ inZ c.fanout 1 4 ∧ inZ c.fanout 1 4 ≤ 4; omega
  · show 1 ≤ inZ c.sync 1 30 ∧ inZ c.sync 1 30 ≤ 4000; omega
theorem in_any (n low high : Int) (hl : 0 ≤ low) (h : low ≤ high) (hh : high ≤ 1000000) (w : World) : Calls Tryz.prog 38 #[.int .i64 n, .int .i64 low, .int .i64 high] w fun e w' => e = .returned (.int .i64 (inZ n low high)) ∧ w = w' := by
  have h1 := inZ_in n h
  have w1 : IntKind.u64.wrap n = n % 18446744073709551616 := by simp [IntKind.wrap, IntKind.signed, IntKind.bits]
  have w2 : IntKind.u64.wrap (high - low + 1) = high - low + 1 := by simp [IntKind.wrap, IntKind.signed, IntKind.bits]; omega
  obtain ⟨m, hm⟩ : ∃ m, n % 18446744073709551616 = m := ⟨_, rfl⟩
  have hm0 : 0 ≤ m := by rw [← hm]; exact Int.emod_nonneg _ (by omega)
  have w3 : m.tmod (high - low + 1) = m % (high - low + 1) := Int.tmod_eq_emod_of_nonneg hm0
  have hr0 := Int.emod_nonneg m (show high - low + 1 ≠ 0 by omega)
  have hr1 := Int.emod_lt_of_pos m (show 0 < high - low + 1 by omega)
  have hz : (high - low + 1 == 0) = false := by rw [beq_eq_false_iff_ne]; omega
  have HE : Hid (inZ n low high = low + m % (high - low + 1)) := Lib.hid (by unfold inZ; rw [hm])
  rw [hm] at w1
  clear h1 hm
  go_enter Tryz.func38, Tryz.ntmps38
  go_wp2
  go_ret
  exact ⟨by rw [HE.out]; rfl, rfl⟩
theorem cf_set (w : World) (R : Nat) (t : TypeId) (h : w.heap[R]? = some (.cells #[.int .i64 0, .int .i64 0, .int .i64 0, .int .i64 0, .int .i64 0, .int .i64 0, .int .i64 0, .int .i64 0, .int .i64 0, .int .i64 0, .int .i64 0] t (0, 0))) (u0 u1 u2 u3 u4 u5 u6 u7 u8 u9 u10 : Value) : (((((((((((w.setCell ⟨R, 0, none⟩ u0).setCell ⟨R, 1, none⟩ u1).setCell ⟨R, 2, none⟩ u2).setCell ⟨R, 3, none⟩ u3).setCell ⟨R, 4, none⟩ u4).setCell ⟨R, 5, none⟩ u5).setCell ⟨R, 6, none⟩ u6).setCell ⟨R, 7, none⟩ u7).setCell ⟨R, 8, none⟩ u8).setCell ⟨R, 9, none⟩ u9).setCell ⟨R, 10, none⟩ u10).heap[R]? = some (.cells #[u0, u1, u2, u3, u4, u5, u6, u7, u8, u9, u10] t (0, 0)) := by
  have h0 : (w.setCell ⟨R, 0, none⟩ u0).heap[R]? = some (.cells #[u0, .int .i64 0, .int .i64 0, .int .i64 0, .int .i64 0, .int .i64 0, .int .i64 0, .int .i64 0, .int .i64 0, .int .i64 0, .int .i64 0] t (0, 0)) := block_set h 0 u0
  have h1 : ((w.setCell ⟨R, 0, none⟩ u0).setCell ⟨R, 1, none⟩ u1).heap[R]? = some (.cells #[u0, u1, .int .i64 0, .int .i64 0, .int .i64 0, .int .i64 0, .int .i64 0, .int .i64 0, .int .i64 0, .int .i64 0, .int .i64 0] t (0, 0)) := block_set h0 1 u1
  have h2 : (((w.setCell ⟨R, 0, none⟩ u0).setCell ⟨R, 1, none⟩ u1).setCell ⟨R, 2, none⟩ u2).heap[R]? = some (.cells #[u0, u1, u2, .int .i64 0, .int .i64 0, .int .i64 0, .int .i64 0, .int .i64 0, .int .i64 0, .int .i64 0, .int .i64 0] t (0, 0)) := block_set h1 2 u2
  have h3 : ((((w.setCell ⟨R, 0, none⟩ u0).setCell ⟨R, 1, none⟩ u1).setCell ⟨R, 2, none⟩ u2).setCell ⟨R, 3, none⟩ u3).heap[R]? = some (.cells #[u0, u1, u2, u3, .int .i64 0, .int .i64 0, .int .i64 0, .int .i64 0, .int .i64 0, .int .i64 0, .int .i64 0] t (0, 0)) := block_set h2 3 u3
  have h4 : (((((w.setCell ⟨R, 0, none⟩ u0).setCell ⟨R, 1, none⟩ u1).setCell ⟨R, 2, none⟩ u2).setCell ⟨R, 3, none⟩ u3).setCell ⟨R, 4, none⟩ u4).heap[R]? = some (.cells #[u0, u1, u2, u3, u4, .int .i64 0, .int .i64 0, .int .i64 0, .int .i64 0, .int .i64 0, .int .i64 0] t (0, 0)) := block_set h3 4 u4
  have h5 : ((((((w.setCell ⟨R, 0, none⟩ u0).setCell ⟨R, 1, none⟩ u1).setCell ⟨R, 2, none⟩ u2).setCell ⟨R, 3, none⟩ u3).setCell ⟨R, 4, none⟩ u4).setCell ⟨R, 5, none⟩ u5).heap[R]? = some (.cells #[u0, u1, u2, u3, u4, u5, .int .i64 0, .int .i64 0, .int .i64 0, .int .i64 0, .int .i64 0] t (0, 0)) := block_set h4 5 u5
  have h6 : (((((((w.setCell ⟨R, 0, none⟩ u0).setCell ⟨R, 1, none⟩ u1).setCell ⟨R, 2, none⟩ u2).setCell ⟨R, 3, none⟩ u3).setCell ⟨R, 4, none⟩ u4).setCell ⟨R, 5, none⟩ u5).setCell ⟨R, 6, none⟩ u6).heap[R]? = some (.cells #[u0, u1, u2, u3, u4, u5, u6, .int .i64 0, .int .i64 0, .int .i64 0, .int .i64 0] t (0, 0)) := block_set h5 6 u6
  have h7 : ((((((((w.setCell ⟨R, 0, none⟩ u0).setCell ⟨R, 1, none⟩ u1).setCell ⟨R, 2, none⟩ u2).setCell ⟨R, 3, none⟩ u3).setCell ⟨R, 4, none⟩ u4).setCell ⟨R, 5, none⟩ u5).setCell ⟨R, 6, none⟩ u6).setCell ⟨R, 7, none⟩ u7).heap[R]? = some (.cells #[u0, u1, u2, u3, u4, u5, u6, u7, .int .i64 0, .int .i64 0, .int .i64 0] t (0, 0)) := block_set h6 7 u7
  have h8 : (((((((((w.setCell ⟨R, 0, none⟩ u0).setCell ⟨R, 1, none⟩ u1).setCell ⟨R, 2, none⟩ u2).setCell ⟨R, 3, none⟩ u3).setCell ⟨R, 4, none⟩ u4).setCell ⟨R, 5, none⟩ u5).setCell ⟨R, 6, none⟩ u6).setCell ⟨R, 7, none⟩ u7).setCell ⟨R, 8, none⟩ u8).heap[R]? = some (.cells #[u0, u1, u2, u3, u4, u5, u6, u7, u8, .int .i64 0, .int .i64 0] t (0, 0)) := block_set h7 8 u8
  have h9 : ((((((((((w.setCell ⟨R, 0, none⟩ u0).setCell ⟨R, 1, none⟩ u1).setCell ⟨R, 2, none⟩ u2).setCell ⟨R, 3, none⟩ u3).setCell ⟨R, 4, none⟩ u4).setCell ⟨R, 5, none⟩ u5).setCell ⟨R, 6, none⟩ u6).setCell ⟨R, 7, none⟩ u7).setCell ⟨R, 8, none⟩ u8).setCell ⟨R, 9, none⟩ u9).heap[R]? = some (.cells #[u0, u1, u2, u3, u4, u5, u6, u7, u8, u9, .int .i64 0] t (0, 0)) := block_set h8 9 u9
  have h10 : (((((((((((w.setCell ⟨R, 0, none⟩ u0).setCell ⟨R, 1, none⟩ u1).setCell ⟨R, 2, none⟩ u2).setCell ⟨R, 3, none⟩ u3).setCell ⟨R, 4, none⟩ u4).setCell ⟨R, 5, none⟩ u5).setCell ⟨R, 6, none⟩ u6).setCell ⟨R, 7, none⟩ u7).setCell ⟨R, 8, none⟩ u8).setCell ⟨R, 9, none⟩ u9).setCell ⟨R, 10, none⟩ u10).heap[R]? = some (.cells #[u0, u1, u2, u3, u4, u5, u6, u7, u8, u9, u10] t (0, 0)) := block_set h9 10 u10
  exact h10
theorem cf_but (w : World) (R : Nat) (u0 u1 u2 u3 u4 u5 u6 u7 u8 u9 u10 : Value) : But (· = R) w (((((((((((w.setCell ⟨R, 0, none⟩ u0).setCell ⟨R, 1, none⟩ u1).setCell ⟨R, 2, none⟩ u2).setCell ⟨R, 3, none⟩ u3).setCell ⟨R, 4, none⟩ u4).setCell ⟨R, 5, none⟩ u5).setCell ⟨R, 6, none⟩ u6).setCell ⟨R, 7, none⟩ u7).setCell ⟨R, 8, none⟩ u8).setCell ⟨R, 9, none⟩ u9).setCell ⟨R, 10, none⟩ u10) := ((((((((((((But.refl _ _).trans (But.set (S := (· = R)) _ (p := ⟨R, 0, none⟩) rfl _)).trans (But.set (S := (· = R)) _ (p := ⟨R, 1, none⟩) rfl _)).trans (But.set (S := (· = R)) _ (p := ⟨R, 2, none⟩) rfl _)).trans (But.set (S := (· = R)) _ (p := ⟨R, 3, none⟩) rfl _)).trans (But.set (S := (· = R)) _ (p := ⟨R, 4, none⟩) rfl _)).trans (But.set (S := (· = R)) _ (p := ⟨R, 5, none⟩) rfl _)).trans (But.set (S := (· = R)) _ (p := ⟨R, 6, none⟩) rfl _)).trans (But.set (S := (· = R)) _ (p := ⟨R, 7, none⟩) rfl _)).trans (But.set (S := (· = R)) _ (p := ⟨R, 8, none⟩) rfl _)).trans (But.set (S := (· = R)) _ (p := ⟨R, 9, none⟩) rfl _)).trans (But.set (S := (· = R)) _ (p := ⟨R, 10, none⟩) rfl _))
set_option maxHeartbeats 8000000 in
set_option maxRecDepth 100000 in
theorem Fitted_any (c : Cf) (W0 : World) : Calls Tryz.prog 12 #[.agg #[.int .i64 c.period, .int .i64 c.wait, .int .i64 c.indirect, .int .i64 c.least, .int .i64 c.most, .int .i64 c.want, .int .i64 c.mult, .int .i64 c.piggy, .int .i64 c.gossip, .int .i64 c.fanout, .int .i64 c.sync]] W0 fun e w' => e = .returned (.agg #[.int .i64 (fitC c).period, .int .i64 (fitC c).wait, .int .i64 (fitC c).indirect, .int .i64 (fitC c).least, .int .i64 (fitC c).most, .int .i64 (fitC c).want, .int .i64 (fitC c).mult, .int .i64 (fitC c).piggy, .int .i64 (fitC c).gossip, .int .i64 (fitC c).fanout, .int .i64 (fitC c).sync]) ∧ Below W0.heap.size W0 w' := by
  have b2 := below2 W0 (.cells #[.int .i64 c.period, .int .i64 c.wait, .int .i64 c.indirect, .int .i64 c.least, .int .i64 c.most, .int .i64 c.want, .int .i64 c.mult, .int .i64 c.piggy, .int .i64 c.gossip, .int .i64 c.fanout, .int .i64 c.sync] 23) (.cells #[.int .i64 0, .int .i64 0, .int .i64 0, .int .i64 0, .int .i64 0, .int .i64 0, .int .i64 0, .int .i64 0, .int .i64 0, .int .i64 0, .int .i64 0] 23)
  have k2 := heap_alloc_new (W0.alloc (.cells #[.int .i64 c.period, .int .i64 c.wait, .int .i64 c.indirect, .int .i64 c.least, .int .i64 c.most, .int .i64 c.want, .int .i64 c.mult, .int .i64 c.piggy, .int .i64 c.gossip, .int .i64 c.fanout, .int .i64 c.sync] 23)) (.cells #[.int .i64 0, .int .i64 0, .int .i64 0, .int .i64 0, .int .i64 0, .int .i64 0, .int .i64 0, .int .i64 0, .int .i64 0, .int .i64 0, .int .i64 0] 23)
  have k1 : ((W0.alloc (.cells #[.int .i64 c.period, .int .i64 c.wait, .int .i64 c.indirect, .int .i64 c.least, .int .i64 c.most, .int .i64 c.want, .int .i64 c.mult, .int .i64 c.piggy, .int .i64 c.gossip, .int .i64 c.fanout, .int .i64 c.sync] 23)).alloc (.cells #[.int .i64 0, .int .i64 0, .int .i64 0, .int .i64 0, .int .i64 0, .int .i64 0, .int .i64 0, .int .i64 0, .int .i64 0, .int .i64 0, .int .i64 0] 23)).heap[W0.heap.size]? = some (.cells #[.int .i64 c.period, .int .i64 c.wait, .int .i64 c.indirect, .int .i64 c.least, .int .i64 c.most, .int .i64 c.want, .int .i64 c.mult, .int .i64 c.piggy, .int .i64 c.gossip, .int .i64 c.fanout, .int .i64 c.sync] 23 (0, 0)) := by
    rw [heap_alloc_old _ _ (by simp)]
    exact heap_alloc_new W0 _
  obtain ⟨V0, hV0⟩ : ∃ V0, (W0.alloc (.cells #[.int .i64 c.period, .int .i64 c.wait, .int .i64 c.indirect, .int .i64 c.least, .int .i64 c.most, .int .i64 c.want, .int .i64 c.mult, .int .i64 c.piggy, .int .i64 c.gossip, .int .i64 c.fanout, .int .i64 c.sync] 23)).alloc (.cells #[.int .i64 0, .int .i64 0, .int .i64 0, .int .i64 0, .int .i64 0, .int .i64 0, .int .i64 0, .int .i64 0, .int .i64 0, .int .i64 0, .int .i64 0] 23) = V0 := ⟨_, rfl⟩
  have e0 : (W0.alloc (.cells #[.int .i64 c.period, .int .i64 c.wait, .int .i64 c.indirect, .int .i64 c.least, .int .i64 c.most, .int .i64 c.want, .int .i64 c.mult, .int .i64 c.piggy, .int .i64 c.gossip, .int .i64 c.fanout, .int .i64 c.sync] 23)).heap.size = W0.heap.size + 1 := by simp
  rw [hV0] at b2 k1 k2
  rw [e0] at k2
  obtain ⟨X, hX⟩ : ∃ X, W0.heap.size = X := ⟨_, rfl⟩
  rw [hX] at k1 k2
  have HX := Lib.hid hX
  have HV0 := Lib.hid hV0
  have HB := Lib.hid b2
  have HR0 := Lib.hid k2
  have HC0 := Lib.hid k1
  have HFit : Hid (fitC c = ⟨inZ c.period (2 * (inZ c.wait 1 4) + 1) (2 * (inZ c.wait 1 4) + 6), inZ c.wait (1) (4), inZ c.indirect (0) (4), inZ c.least (1) (9), inZ c.most (inZ c.least 1 9) (inZ c.least 1 9 + 20), inZ c.want (0) (8), inZ c.mult (1) (8), inZ c.piggy (1) (16), inZ c.gossip (1) (9), inZ c.fanout (1) (4), inZ c.sync (1) (30)⟩) := Lib.hid rfl
  have g0 := inZ_in c.wait (low := 1) (high := 4) (by omega)
  have H0 := Lib.hid (fun w => in_any c.wait (1) (4) (by omega) (by omega) (by omega) w)
  obtain ⟨z0, hz0⟩ : ∃ z, inZ c.wait (1) (4) = z := ⟨_, rfl⟩
  rw [hz0] at H0 HFit g0
  have g1 := inZ_in c.period (low := 2 * z0 + 1) (high := 2 * z0 + 6) (by omega)
  have H1 := Lib.hid (fun w => in_any c.period (2 * z0 + 1) (2 * z0 + 6) (by omega) (by omega) (by omega) w)
  obtain ⟨z1, hz1⟩ : ∃ z, inZ c.period (2 * z0 + 1) (2 * z0 + 6) = z := ⟨_, rfl⟩
  rw [hz1] at H1 HFit g1
  have g2 := inZ_in c.indirect (low := 0) (high := 4) (by omega)
  have H2 := Lib.hid (fun w => in_any c.indirect (0) (4) (by omega) (by omega) (by omega) w)
  obtain ⟨z2, hz2⟩ : ∃ z, inZ c.indirect (0) (4) = z := ⟨_, rfl⟩
  rw [hz2] at H2 HFit g2
  have g3 := inZ_in c.least (low := 1) (high := 9) (by omega)
  have H3 := Lib.hid (fun w => in_any c.least (1) (9) (by omega) (by omega) (by omega) w)
  obtain ⟨z3, hz3⟩ : ∃ z, inZ c.least (1) (9) = z := ⟨_, rfl⟩
  rw [hz3] at H3 HFit g3
  have g4 := inZ_in c.most (low := z3) (high := z3 + 20) (by omega)
  have H4 := Lib.hid (fun w => in_any c.most (z3) (z3 + 20) (by omega) (by omega) (by omega) w)
  obtain ⟨z4, hz4⟩ : ∃ z, inZ c.most (z3) (z3 + 20) = z := ⟨_, rfl⟩
  rw [hz4] at H4 HFit g4
  have g5 := inZ_in c.want (low := 0) (high := 8) (by omega)
  have H5 := Lib.hid (fun w => in_any c.want (0) (8) (by omega) (by omega) (by omega) w)
  obtain ⟨z5, hz5⟩ : ∃ z, inZ c.want (0) (8) = z := ⟨_, rfl⟩
  rw [hz5] at H5 HFit g5
  have g6 := inZ_in c.mult (low := 1) (high := 8) (by omega)
  have H6 := Lib.hid (fun w => in_any c.mult (1) (8) (by omega) (by omega) (by omega) w)
  obtain ⟨z6, hz6⟩ : ∃ z, inZ c.mult (1) (8) = z := ⟨_, rfl⟩
  rw [hz6] at H6 HFit g6
  have g7 := inZ_in c.piggy (low := 1) (high := 16) (by omega)
  have H7 := Lib.hid (fun w => in_any c.piggy (1) (16) (by omega) (by omega) (by omega) w)
  obtain ⟨z7, hz7⟩ : ∃ z, inZ c.piggy (1) (16) = z := ⟨_, rfl⟩
  rw [hz7] at H7 HFit g7
  have g8 := inZ_in c.gossip (low := 1) (high := 9) (by omega)
  have H8 := Lib.hid (fun w => in_any c.gossip (1) (9) (by omega) (by omega) (by omega) w)
  obtain ⟨z8, hz8⟩ : ∃ z, inZ c.gossip (1) (9) = z := ⟨_, rfl⟩
  rw [hz8] at H8 HFit g8
  have g9 := inZ_in c.fanout (low := 1) (high := 4) (by omega)
  have H9 := Lib.hid (fun w => in_any c.fanout (1) (4) (by omega) (by omega) (by omega) w)
  obtain ⟨z9, hz9⟩ : ∃ z, inZ c.fanout (1) (4) = z := ⟨_, rfl⟩
  rw [hz9] at H9 HFit g9
  have g10 := inZ_in c.sync (low := 1) (high := 30) (by omega)
  have H10 := Lib.hid (fun w => in_any c.sync (1) (30) (by omega) (by omega) (by omega) w)
  obtain ⟨z10, hz10⟩ : ∃ z, inZ c.sync (1) (30) = z := ⟨_, rfl⟩
  rw [hz10] at H10 HFit g10
  have hC1 := block_set HC0.out 1 (.int .i64 z0)
  have hR1 := ((But.set (S := (· = X)) V0 (p := ⟨X, 1, none⟩) rfl (.int .i64 z0)).block (X + 1) (block_lt HR0.out) (Nat.succ_ne_self X)).trans HR0.out
  obtain ⟨V1, hV1⟩ : ∃ V, V0.setCell ⟨X, 1, none⟩ (.int .i64 z0) = V := ⟨_, rfl⟩
  rw [hV1] at hC1 hR1
  have HV1 := Lib.hid hV1
  have HR1 := Lib.hid hR1
  have HC1 : Hid (CfAt V1 X ⟨c.period, z0, c.indirect, c.least, c.most, c.want, c.mult, c.piggy, c.gossip, c.fanout, c.sync⟩) := Lib.hid hC1
  clear hV1 hC1 hR1
  have hC2 := block_set HC1.out 0 (.int .i64 z1)
  have hR2 := ((But.set (S := (· = X)) V1 (p := ⟨X, 0, none⟩) rfl (.int .i64 z1)).block (X + 1) (block_lt HR1.out) (Nat.succ_ne_self X)).trans HR1.out
  obtain ⟨V2, hV2⟩ : ∃ V, V1.setCell ⟨X, 0, none⟩ (.int .i64 z1) = V := ⟨_, rfl⟩
  rw [hV2] at hC2 hR2
  have HV2 := Lib.hid hV2
  have HR2 := Lib.hid hR2
  have HC2 : Hid (CfAt V2 X ⟨z1, z0, c.indirect, c.least, c.most, c.want, c.mult, c.piggy, c.gossip, c.fanout, c.sync⟩) := Lib.hid hC2
  clear hV2 hC2 hR2
  have hC3 := block_set HC2.out 2 (.int .i64 z2)
  have hR3 := ((But.set (S := (· = X)) V2 (p := ⟨X, 2, none⟩) rfl (.int .i64 z2)).block (X + 1) (block_lt HR2.out) (Nat.succ_ne_self X)).trans HR2.out
  obtain ⟨V3, hV3⟩ : ∃ V, V2.setCell ⟨X, 2, none⟩ (.int .i64 z2) = V := ⟨_, rfl⟩
  rw [hV3] at hC3 hR3
  have HV3 := Lib.hid hV3
  have HR3 := Lib.hid hR3
  have HC3 : Hid (CfAt V3 X ⟨z1, z0, z2, c.least, c.most, c.want, c.mult, c.piggy, c.gossip, c.fanout, c.sync⟩) := Lib.hid hC3
  clear hV3 hC3 hR3
  have hC4 := block_set HC3.out 3 (.int .i64 z3)
  have hR4 := ((But.set (S := (· = X)) V3 (p := ⟨X, 3, none⟩) rfl (.int .i64 z3)).block (X + 1) (block_lt HR3.out) (Nat.succ_ne_self X)).trans HR3.out
  obtain ⟨V4, hV4⟩ : ∃ V, V3.setCell ⟨X, 3, none⟩ (.int .i64 z3) = V := ⟨_, rfl⟩
  rw [hV4] at hC4 hR4
  have HV4 := Lib.hid hV4
  have HR4 := Lib.hid hR4
  have HC4 : Hid (CfAt V4 X ⟨z1, z0, z2, z3, c.most, c.want, c.mult, c.piggy, c.gossip, c.fanout, c.sync⟩) := Lib.hid hC4
  clear hV4 hC4 hR4
  have hC5 := block_set HC4.out 4 (.int .i64 z4)
  have hR5 := ((But.set (S := (· = X)) V4 (p := ⟨X, 4, none⟩) rfl (.int .i64 z4)).block (X + 1) (block_lt HR4.out) (Nat.succ_ne_self X)).trans HR4.out
  obtain ⟨V5, hV5⟩ : ∃ V, V4.setCell ⟨X, 4, none⟩ (.int .i64 z4) = V := ⟨_, rfl⟩
  rw [hV5] at hC5 hR5
  have HV5 := Lib.hid hV5
  have HR5 := Lib.hid hR5
  have HC5 : Hid (CfAt V5 X ⟨z1, z0, z2, z3, z4, c.want, c.mult, c.piggy, c.gossip, c.fanout, c.sync⟩) := Lib.hid hC5
  clear hV5 hC5 hR5
  have hC6 := block_set HC5.out 5 (.int .i64 z5)
  have hR6 := ((But.set (S := (· = X)) V5 (p := ⟨X, 5, none⟩) rfl (.int .i64 z5)).block (X + 1) (block_lt HR5.out) (Nat.succ_ne_self X)).trans HR5.out
  obtain ⟨V6, hV6⟩ : ∃ V, V5.setCell ⟨X, 5, none⟩ (.int .i64 z5) = V := ⟨_, rfl⟩
  rw [hV6] at hC6 hR6
  have HV6 := Lib.hid hV6
  have HR6 := Lib.hid hR6
  have HC6 : Hid (CfAt V6 X ⟨z1, z0, z2, z3, z4, z5, c.mult, c.piggy, c.gossip, c.fanout, c.sync⟩) := Lib.hid hC6
  clear hV6 hC6 hR6
  have hC7 := block_set HC6.out 6 (.int .i64 z6)
  have hR7 := ((But.set (S := (· = X)) V6 (p := ⟨X, 6, none⟩) rfl (.int .i64 z6)).block (X + 1) (block_lt HR6.out) (Nat.succ_ne_self X)).trans HR6.out
  obtain ⟨V7, hV7⟩ : ∃ V, V6.setCell ⟨X, 6, none⟩ (.int .i64 z6) = V := ⟨_, rfl⟩
  rw [hV7] at hC7 hR7
  have HV7 := Lib.hid hV7
  have HR7 := Lib.hid hR7
  have HC7 : Hid (CfAt V7 X ⟨z1, z0, z2, z3, z4, z5, z6, c.piggy, c.gossip, c.fanout, c.sync⟩) := Lib.hid hC7
  clear hV7 hC7 hR7
  have hC8 := block_set HC7.out 7 (.int .i64 z7)
  have hR8 := ((But.set (S := (· = X)) V7 (p := ⟨X, 7, none⟩) rfl (.int .i64 z7)).block (X + 1) (block_lt HR7.out) (Nat.succ_ne_self X)).trans HR7.out
  obtain ⟨V8, hV8⟩ : ∃ V, V7.setCell ⟨X, 7, none⟩ (.int .i64 z7) = V := ⟨_, rfl⟩
  rw [hV8] at hC8 hR8
  have HV8 := Lib.hid hV8
  have HR8 := Lib.hid hR8
  have HC8 : Hid (CfAt V8 X ⟨z1, z0, z2, z3, z4, z5, z6, z7, c.gossip, c.fanout, c.sync⟩) := Lib.hid hC8
  clear hV8 hC8 hR8
  have hC9 := block_set HC8.out 8 (.int .i64 z8)
  have hR9 := ((But.set (S := (· = X)) V8 (p := ⟨X, 8, none⟩) rfl (.int .i64 z8)).block (X + 1) (block_lt HR8.out) (Nat.succ_ne_self X)).trans HR8.out
  obtain ⟨V9, hV9⟩ : ∃ V, V8.setCell ⟨X, 8, none⟩ (.int .i64 z8) = V := ⟨_, rfl⟩
  rw [hV9] at hC9 hR9
  have HV9 := Lib.hid hV9
  have HR9 := Lib.hid hR9
  have HC9 : Hid (CfAt V9 X ⟨z1, z0, z2, z3, z4, z5, z6, z7, z8, c.fanout, c.sync⟩) := Lib.hid hC9
  clear hV9 hC9 hR9
  have hC10 := block_set HC9.out 9 (.int .i64 z9)
  have hR10 := ((But.set (S := (· = X)) V9 (p := ⟨X, 9, none⟩) rfl (.int .i64 z9)).block (X + 1) (block_lt HR9.out) (Nat.succ_ne_self X)).trans HR9.out
  obtain ⟨V10, hV10⟩ : ∃ V, V9.setCell ⟨X, 9, none⟩ (.int .i64 z9) = V := ⟨_, rfl⟩
  rw [hV10] at hC10 hR10
  have HV10 := Lib.hid hV10
  have HR10 := Lib.hid hR10
  have HC10 : Hid (CfAt V10 X ⟨z1, z0, z2, z3, z4, z5, z6, z7, z8, z9, c.sync⟩) := Lib.hid hC10
  clear hV10 hC10 hR10
  have hC11 := block_set HC10.out 10 (.int .i64 z10)
  have hR11 := ((But.set (S := (· = X)) V10 (p := ⟨X, 10, none⟩) rfl (.int .i64 z10)).block (X + 1) (block_lt HR10.out) (Nat.succ_ne_self X)).trans HR10.out
  obtain ⟨V11, hV11⟩ : ∃ V, V10.setCell ⟨X, 10, none⟩ (.int .i64 z10) = V := ⟨_, rfl⟩
  rw [hV11] at hC11 hR11
  have HV11 := Lib.hid hV11
  have HR11 := Lib.hid hR11
  have HC11 : Hid (CfAt V11 X ⟨z1, z0, z2, z3, z4, z5, z6, z7, z8, z9, z10⟩) := Lib.hid hC11
  clear hV11 hC11 hR11
  have HBut : Hid (Below W0.heap.size W0 V11) := Lib.hid (by
    have h : But (· = X) V0 V11 := by
      refine But.trans (b := V10) ?_ (by rw [← HV11.out]; exact But.set (S := (· = X)) _ (p := ⟨X, 10, none⟩) rfl _)
      refine But.trans (b := V9) ?_ (by rw [← HV10.out]; exact But.set (S := (· = X)) _ (p := ⟨X, 9, none⟩) rfl _)
      refine But.trans (b := V8) ?_ (by rw [← HV9.out]; exact But.set (S := (· = X)) _ (p := ⟨X, 8, none⟩) rfl _)
      refine But.trans (b := V7) ?_ (by rw [← HV8.out]; exact But.set (S := (· = X)) _ (p := ⟨X, 7, none⟩) rfl _)
      refine But.trans (b := V6) ?_ (by rw [← HV7.out]; exact But.set (S := (· = X)) _ (p := ⟨X, 6, none⟩) rfl _)
      refine But.trans (b := V5) ?_ (by rw [← HV6.out]; exact But.set (S := (· = X)) _ (p := ⟨X, 5, none⟩) rfl _)
      refine But.trans (b := V4) ?_ (by rw [← HV5.out]; exact But.set (S := (· = X)) _ (p := ⟨X, 4, none⟩) rfl _)
      refine But.trans (b := V3) ?_ (by rw [← HV4.out]; exact But.set (S := (· = X)) _ (p := ⟨X, 3, none⟩) rfl _)
      refine But.trans (b := V2) ?_ (by rw [← HV3.out]; exact But.set (S := (· = X)) _ (p := ⟨X, 2, none⟩) rfl _)
      refine But.trans (b := V1) ?_ (by rw [← HV2.out]; exact But.set (S := (· = X)) _ (p := ⟨X, 0, none⟩) rfl _)
      refine But.trans (b := V0) ?_ (by rw [← HV1.out]; exact But.set (S := (· = X)) _ (p := ⟨X, 1, none⟩) rfl _)
      exact But.refl _ _
    exact HB.out.trans (h.below HB.out.size (fun k hk e => by have := HX.out; omega)))
  rw [HFit.out]
  clear k1 k2 b2 hX hV0 e0 HFit hz0 hz1 hz2 hz3 hz4 hz5 hz6 hz7 hz8 hz9 hz10
  go_enter Tryz.func12, Tryz.ntmps12
  go_wp2_with fail
  rw [HV0.out, HX.out]
  refine (H0.out _).mono ?_
  rintro e w' ⟨rfl, rfl⟩
  obtain ⟨c0, c1, c2, c3, c4, c5, c6, c7, c8, c9, c10⟩ := CfAt.cells (c := ⟨c.period, c.wait, c.indirect, c.least, c.most, c.want, c.mult, c.piggy, c.gossip, c.fanout, c.sync⟩) HC0.out
  have f0 : V0.frozen? ⟨X, 1, none⟩ = false := blk_froz HC0.out 1
  go_wp2_with fail
  rw [HV1.out]
  clear c0 c1 c2 c3 c4 c5 c6 c7 c8 c9 c10 f0
  refine (H1.out _).mono ?_
  rintro e w' ⟨rfl, rfl⟩
  obtain ⟨c0, c1, c2, c3, c4, c5, c6, c7, c8, c9, c10⟩ := CfAt.cells (c := ⟨c.period, z0, c.indirect, c.least, c.most, c.want, c.mult, c.piggy, c.gossip, c.fanout, c.sync⟩) HC1.out
  have f1 : V1.frozen? ⟨X, 0, none⟩ = false := blk_froz HC1.out 0
  go_wp2_with fail
  rw [HV2.out]
  clear c0 c1 c2 c3 c4 c5 c6 c7 c8 c9 c10 f1
  refine (H2.out _).mono ?_
  rintro e w' ⟨rfl, rfl⟩
  obtain ⟨c0, c1, c2, c3, c4, c5, c6, c7, c8, c9, c10⟩ := CfAt.cells (c := ⟨z1, z0, c.indirect, c.least, c.most, c.want, c.mult, c.piggy, c.gossip, c.fanout, c.sync⟩) HC2.out
  have f2 : V2.frozen? ⟨X, 2, none⟩ = false := blk_froz HC2.out 2
  go_wp2_with fail
  rw [HV3.out]
  clear c0 c1 c2 c3 c4 c5 c6 c7 c8 c9 c10 f2
  refine (H3.out _).mono ?_
  rintro e w' ⟨rfl, rfl⟩
  obtain ⟨c0, c1, c2, c3, c4, c5, c6, c7, c8, c9, c10⟩ := CfAt.cells (c := ⟨z1, z0, z2, c.least, c.most, c.want, c.mult, c.piggy, c.gossip, c.fanout, c.sync⟩) HC3.out
  have f3 : V3.frozen? ⟨X, 3, none⟩ = false := blk_froz HC3.out 3
  go_wp2_with fail
  rw [HV4.out]
  clear c0 c1 c2 c3 c4 c5 c6 c7 c8 c9 c10 f3
  refine (H4.out _).mono ?_
  rintro e w' ⟨rfl, rfl⟩
  obtain ⟨c0, c1, c2, c3, c4, c5, c6, c7, c8, c9, c10⟩ := CfAt.cells (c := ⟨z1, z0, z2, z3, c.most, c.want, c.mult, c.piggy, c.gossip, c.fanout, c.sync⟩) HC4.out
  have f4 : V4.frozen? ⟨X, 4, none⟩ = false := blk_froz HC4.out 4
  go_wp2_with fail
  rw [HV5.out]
  clear c0 c1 c2 c3 c4 c5 c6 c7 c8 c9 c10 f4
  refine (H5.out _).mono ?_
  rintro e w' ⟨rfl, rfl⟩
  obtain ⟨c0, c1, c2, c3, c4, c5, c6, c7, c8, c9, c10⟩ := CfAt.cells (c := ⟨z1, z0, z2, z3, z4, c.want, c.mult, c.piggy, c.gossip, c.fanout, c.sync⟩) HC5.out
  have f5 : V5.frozen? ⟨X, 5, none⟩ = false := blk_froz HC5.out 5
  go_wp2_with fail
  rw [HV6.out]
  clear c0 c1 c2 c3 c4 c5 c6 c7 c8 c9 c10 f5
  refine (H6.out _).mono ?_
  rintro e w' ⟨rfl, rfl⟩
  obtain ⟨c0, c1, c2, c3, c4, c5, c6, c7, c8, c9, c10⟩ := CfAt.cells (c := ⟨z1, z0, z2, z3, z4, z5, c.mult, c.piggy, c.gossip, c.fanout, c.sync⟩) HC6.out
  have f6 : V6.frozen? ⟨X, 6, none⟩ = false := blk_froz HC6.out 6
  go_wp2_with fail
  rw [HV7.out]
  clear c0 c1 c2 c3 c4 c5 c6 c7 c8 c9 c10 f6
  refine (H7.out _).mono ?_
  rintro e w' ⟨rfl, rfl⟩
  obtain ⟨c0, c1, c2, c3, c4, c5, c6, c7, c8, c9, c10⟩ := CfAt.cells (c := ⟨z1, z0, z2, z3, z4, z5, z6, c.piggy, c.gossip, c.fanout, c.sync⟩) HC7.out
  have f7 : V7.frozen? ⟨X, 7, none⟩ = false := blk_froz HC7.out 7
  go_wp2_with fail
  rw [HV8.out]
  clear c0 c1 c2 c3 c4 c5 c6 c7 c8 c9 c10 f7
  refine (H8.out _).mono ?_
  rintro e w' ⟨rfl, rfl⟩
  obtain ⟨c0, c1, c2, c3, c4, c5, c6, c7, c8, c9, c10⟩ := CfAt.cells (c := ⟨z1, z0, z2, z3, z4, z5, z6, z7, c.gossip, c.fanout, c.sync⟩) HC8.out
  have f8 : V8.frozen? ⟨X, 8, none⟩ = false := blk_froz HC8.out 8
  go_wp2_with fail
  rw [HV9.out]
  clear c0 c1 c2 c3 c4 c5 c6 c7 c8 c9 c10 f8
  refine (H9.out _).mono ?_
  rintro e w' ⟨rfl, rfl⟩
  obtain ⟨c0, c1, c2, c3, c4, c5, c6, c7, c8, c9, c10⟩ := CfAt.cells (c := ⟨z1, z0, z2, z3, z4, z5, z6, z7, z8, c.fanout, c.sync⟩) HC9.out
  have f9 : V9.frozen? ⟨X, 9, none⟩ = false := blk_froz HC9.out 9
  go_wp2_with fail
  rw [HV10.out]
  clear c0 c1 c2 c3 c4 c5 c6 c7 c8 c9 c10 f9
  refine (H10.out _).mono ?_
  rintro e w' ⟨rfl, rfl⟩
  obtain ⟨c0, c1, c2, c3, c4, c5, c6, c7, c8, c9, c10⟩ := CfAt.cells (c := ⟨z1, z0, z2, z3, z4, z5, z6, z7, z8, z9, c.sync⟩) HC10.out
  have f10 : V10.frozen? ⟨X, 10, none⟩ = false := blk_froz HC10.out 10
  have hr : CfAt V10 (X + 1) ⟨0, 0, 0, 0, 0, 0, 0, 0, 0, 0, 0⟩ := HR10.out
  obtain ⟨q0, q1, q2, q3, q4, q5, q6, q7, q8, q9, q10⟩ := hr.cells
  have r0 := blk_froz hr 0
  have r1 := blk_froz hr 1
  have r2 := blk_froz hr 2
  have r3 := blk_froz hr 3
  have r4 := blk_froz hr 4
  have r5 := blk_froz hr 5
  have r6 := blk_froz hr 6
  have r7 := blk_froz hr 7
  have r8 := blk_froz hr 8
  have r9 := blk_froz hr 9
  have r10 := blk_froz hr 10
  clear hr
  go_wp2
  rw [HV11.out]
  have hd : CfAt _ (X + 1) ⟨z1, z0, z2, z3, z4, z5, z6, z7, z8, z9, z10⟩ := cf_set V11 (X + 1) 23 HR11.out (.int .i64 z1) (.int .i64 z0) (.int .i64 z2) (.int .i64 z3) (.int .i64 z4) (.int .i64 z5) (.int .i64 z6) (.int .i64 z7) (.int .i64 z8) (.int .i64 z9) (.int .i64 z10)
  obtain ⟨d0, d1, d2, d3, d4, d5, d6, d7, d8, d9, d10⟩ := hd.cells
  simp only at d0 d1 d2 d3 d4 d5 d6 d7 d8 d9 d10
  refine bodyPost_ret (v := .agg #[.int .i64 z1, .int .i64 z0, .int .i64 z2, .int .i64 z3, .int .i64 z4, .int .i64 z5, .int .i64 z6, .int .i64 z7, .int .i64 z8, .int .i64 z9, .int .i64 z10]) (by simp [results, Tryz.results12, go_sem, d0, d1, d2, d3, d4, d5, d6, d7, d8, d9, d10]) rfl ⟨rfl, ?_⟩
  exact HBut.out.trans ((cf_but V11 (X + 1) _ _ _ _ _ _ _ _ _ _ _).below HBut.out.size (fun k hk e => by have := HX.out; omega))
end Go.Proofs.YtaicipldjmngaaaGreatDoor.sw
