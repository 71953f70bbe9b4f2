import Derived.Test.YtaicipldjmngaaaGreatDoorZj19
namespace Go.Proofs.YtaicipldjmngaaaGreatDoor.dr
end Go.Proofs.YtaicipldjmngaaaGreatDoor.dr
namespace Go.Proofs.YtaicipldjmngaaaGreatDoor.wh
end Go.Proofs.YtaicipldjmngaaaGreatDoor.wh
namespace Go.Proofs.YtaicipldjmngaaaGreatDoor.ro
end Go.Proofs.YtaicipldjmngaaaGreatDoor.ro
namespace Go.Proofs.YtaicipldjmngaaaGreatDoor.ru
end Go.Proofs.YtaicipldjmngaaaGreatDoor.ru
namespace Go.Proofs.YtaicipldjmngaaaGreatDoor.db
end Go.Proofs.YtaicipldjmngaaaGreatDoor.db
namespace Go.Proofs.YtaicipldjmngaaaGreatDoor.pr
end Go.Proofs.YtaicipldjmngaaaGreatDoor.pr
namespace Go.Proofs.YtaicipldjmngaaaGreatDoor.sp
end Go.Proofs.YtaicipldjmngaaaGreatDoor.sp
namespace Go.Proofs.YtaicipldjmngaaaGreatDoor.sw
open Go.Proofs.YtaicipldjmngaaaGreatDoor.dr Go.Proofs.YtaicipldjmngaaaGreatDoor.wh Go.Proofs.YtaicipldjmngaaaGreatDoor.ro Go.Proofs.YtaicipldjmngaaaGreatDoor.ru Go.Proofs.YtaicipldjmngaaaGreatDoor.db Go.Proofs.YtaicipldjmngaaaGreatDoor.pr Go.Proofs.YtaicipldjmngaaaGreatDoor.sp
set_option linter.unusedVariables false
theorem upd_same {α : Type} (f : Int → Option α) (n : Int) (x : Option α) : upd f n x n = x := if_pos rfl
theorem upd_other {α : Type} (f : Int → Option α) {n k : Int} (x : Option α) (h : k ≠ n) : upd f n x k = f k := if_neg h
structure Learnt (r : ro.Ro) (u v : Up) (r' : ro.Ro) : Prop where
  eq : r' = ⟨r.own, ro.put r.T v⟩
  right : v.right = true
  node : v.node = u.node
  above : ∀ old, r.T v.node = some old → v.above old = true
theorem apply_learn {r : ro.Ro} (h : r.ok) (u : Up) (hk : (r.apply u).1 = 1 ∨ (r.apply u).1 = 2) : Learnt r u u (r.apply u).2.2.2 ∧ u.node ≠ r.own := by
  unfold ro.Ro.apply at *
  split at hk
  · simp at hk
  · rename_i hr
    rw [if_neg hr]
    have hr : u.right = true := by simpa using hr
    split at hk
    · split at hk
      · simp at hk
      · split at hk <;> simp at hk
    · rename_i ho
      rw [if_neg ho]
      refine ⟨?_, ho⟩
      cases hT : r.T u.node with
      | none => exact ⟨rfl, hr, rfl, fun old e => by rw [hT] at e; cases e⟩
      | some old =>
        rw [hT] at hk
        simp only at hk ⊢
        split at hk
        · rename_i ha
          rw [if_pos ha]
          exact ⟨rfl, hr, rfl, fun o e => by rw [hT] at e; cases e; exact ha⟩
        · simp at hk
theorem apply_mine {r : ro.Ro} (h : r.ok) (u : Up) (hk : (r.apply u).1 = 3) :
    Learnt r u (r.apply u).2.2.1 (r.apply u).2.2.2 ∧ u.node = r.own ∧ (r.apply u).2.2.1.st = 0 ∧ (r.apply u).2.2.1.above u = true ∧ (r.apply u).2.2.1.inc = max r.selfU.inc u.inc + 1 ∧ max r.selfU.inc u.inc + 1 ≤ 4294967295 ∧ r.selfU.st ≠ 3 ∧ u.above r.selfU = true := by
  obtain ⟨h1, h2, h3⟩ := h.selfAt
  unfold ro.Ro.apply at *
  split at hk
  · simp at hk
  · rename_i hr
    rw [if_neg hr]
    split at hk
    · rename_i ho
      rw [if_pos ho]
      split at hk
      · simp at hk
      · rename_i hs
        rw [if_neg hs]
        split at hk
        · simp at hk
        · rename_i hf
          rw [if_neg hf]
          have hf' : (refuteN r.selfU.inc u.inc).2 = 0 := by simpa using hf
          have hm : max r.selfU.inc u.inc + 1 ≤ 4294967295 := by
            unfold refuteN at hf'
            split at hf'
            · simp at hf'
            · omega
          have hv : (refuteN r.selfU.inc u.inc).1 = max r.selfU.inc u.inc + 1 := by
            unfold refuteN
            rw [if_neg (by omega)]
          refine ⟨⟨rfl, (ro.right_of _ _ _).2 ⟨h.ownR.1, h.ownR.2, .inl rfl⟩, ho.symm, fun old e => ?_⟩, ho, rfl, ?_, hv, hm, fun e => hs (.inl e), ?_⟩
          · simp only at e
            rw [h1] at e
            cases e
            rw [Up.above_iff]
            refine ⟨h3.symm, .inl ?_⟩
            show r.selfU.inc < (refuteN r.selfU.inc u.inc).1
            rw [hv]
            omega
          · rw [Up.above_iff]
            refine ⟨ho.symm, .inl ?_⟩
            show u.inc < (refuteN r.selfU.inc u.inc).1
            rw [hv]
            omega
          · cases ha : u.above r.selfU with
            | true => rfl
            | false => exact absurd (.inr ha) hs
    · split at hk
      · simp at hk
      · split at hk <;> simp at hk
theorem Qu_push_mem {q : ru.Qu} {u : Up} {r : ru.Ru} (h : r ∈ (q.push u).L) : (r ∈ q.L ∧ (q.takes u = true → r.u.node ≠ u.node)) ∨ r = ⟨u, 0, q.clock + 1⟩ := by
  unfold ru.Qu.push at h
  split at h
  · rcases List.mem_cons.mp h with e | e
    · exact .inr e
    · have := List.mem_filter.mp e
      exact .inl ⟨this.1, fun _ => by simpa using this.2⟩
  · rename_i ht
    exact .inl ⟨h, fun e => absurd e ht⟩
theorem Sw.Base.pushes {s : Sw} (h : s.Base) {u v : Up} {r : ro.Ro} (hl : Learnt s.ro u v r) : s.q.takes v = true := by
  unfold ru.Qu.takes
  rw [hl.right]
  cases e : s.q.at_ v.node with
  | none => rfl
  | some x =>
    obtain ⟨hx, hn⟩ := ru.Qu.at_mem e
    obtain ⟨w, hw, ha⟩ := h.qT x hx
    rw [hn] at hw
    have h1 := hl.above w hw
    show (true && v.above x.u) = true
    rw [Bool.true_and]
    have hwn := (h.ro.at_ _ _ hw).2
    rw [Up.above_iff] at h1 ⊢
    rw [Up.above_false] at ha
    omega
structure Sw.Most (s : Sw) : Prop where
  c : s.c.Ok
  ro : s.ro.ok
  wide : ∀ n u, s.ro.T n = some u → u.wide
  q : s.q.ok
  qT : ∀ r ∈ s.q.L, ∃ v, s.ro.T r.u.node = some v ∧ r.u.above v = false
  qw : ∀ r ∈ s.q.L, r.u.wide ∧ r.sent ≤ 128
  rg : s.rg.ok
  d : dr.okDr s.d
  wh : s.wh.ok
  ids : ∀ x ∈ s.wh.L, (1 ≤ x.1 ∧ x.1 ≤ 5) ∨ (16 ≤ x.1 ∧ x.1 < 24)
  self : ∃ i, s.ro.T s.own = some ⟨s.own, i, if s.gone then 3 else 0⟩
  cur : ∀ p, s.cur = some p → p.seq < 4294967296 ∧ isNode p.tgt
  rel : ∀ k r, s.rel k = some r → k < 8 ∧ r.Ok
  seq : s.seq < 4294967296
  last : -1 ≤ s.last ∧ s.last ≤ 7
  out : ∀ p ∈ s.out, p.Ok
  ev : ∀ u ∈ s.events, u.right = true ∧ u.wide
theorem Sw.Base.most {s : Sw} (h : s.Base) : s.Most := ⟨h.c, h.ro, h.wide, h.q, h.qT, h.qw, h.rg, h.d, h.wh, h.ids, h.self, h.cur, h.rel, h.seq, h.last, h.out, h.ev⟩
theorem Sw.Most.base {s : Sw} (h : s.Most) (h1 : ∀ n p, s.db n = some p → n ≠ s.own ∧ s.ro.T n = some ⟨n, p.1, 1⟩ ∧ p.2.ok ∧ p.2.least = s.c.least ∧ p.2.most = s.c.most)
    (h2 : ∀ n u, s.ro.T n = some u → u.st = 1 → n ≠ s.own → (s.db n).isSome = true) : s.Base :=
  ⟨h.c, h.ro, h.wide, h.q, h.qT, h.qw, h.rg, h.d, h.wh, h.ids, h1, h2, h.self, h.cur, h.rel, h.seq, h.last, h.out, h.ev⟩
theorem Sw.Base.learn {s : Sw} (h : s.Base) {u v : Up} {r : ro.Ro} (hl : Learnt s.ro u v r) (hw : v.wide) (hv : v.node = s.own → v.st = 0 ∧ s.gone = false) : (s.learn r v).Most := by
  have hr : r.ok := by rw [hl.eq]; exact h.ro.put hl.right
  have hT : r.T = ro.put s.ro.T v := by rw [hl.eq]
  have ho : r.own = s.own := by rw [hl.eq]; rfl
  refine ⟨h.c, hr, ?_, ru.Qu.push_ok h.q v, ?_, ?_, h.rg, h.d, h.wh, h.ids, ?_, h.cur, h.rel, h.seq, h.last, h.out, ?_⟩
  · intro n x hx
    have hx : r.T n = some x := hx
    rw [hT] at hx
    by_cases e : n = v.node
    · subst e
      rw [ro.put_same] at hx
      cases hx
      exact hw
    · rw [ro.put_other _ _ e] at hx
      exact h.wide n x hx
  · intro x hx
    show ∃ w, r.T x.u.node = some w ∧ x.u.above w = false
    rw [hT]
    rcases Qu_push_mem hx with ⟨hx, hne⟩ | e
    · rw [ro.put_other _ _ (hne (h.pushes hl))]
      exact h.qT x hx
    · rw [e]
      exact ⟨v, ro.put_same _ _, Up.irrefl v⟩
  · intro x hx
    rcases Qu_push_mem hx with ⟨hx, _⟩ | e
    · exact h.qw x hx
    · rw [e]; exact ⟨hw, Nat.zero_le _⟩
  · show ∃ i, r.T r.own = some ⟨r.own, i, if s.gone then 3 else 0⟩
    rw [ho, hT]
    by_cases e : s.own = v.node
    · obtain ⟨h0, hg⟩ := hv e.symm
      refine ⟨v.inc, ?_⟩
      rw [e, ro.put_same, hg]
      obtain ⟨n, i, st⟩ := v
      simp only at h0
      subst h0
      rfl
    · rw [ro.put_other _ _ e]
      exact h.self
  · intro x hx
    rcases List.mem_append.1 hx with hx | hx
    · exact h.ev x hx
    · rw [List.mem_singleton.1 hx]; exact ⟨hl.right, hw⟩
theorem wants_in {s : Sw} (hc : s.c.Ok) : 0 ≤ s.wants ∧ s.wants ≤ s.c.want := by
  have := (db.waitOk_iff _ _ _).1 hc.doubt
  unfold Sw.wants
  split
  · omega
  · split <;> omega
theorem wants_ok {s : Sw} (hc : s.c.Ok) : db.waitOk s.c.least s.c.most s.wants = true := by
  have h1 := (db.waitOk_iff _ _ _).1 hc.doubt
  have h2 := wants_in hc
  rw [db.waitOk_iff]
  omega
theorem Sw.Most.redoubt {s : Sw} (h : s.Most) {u : Up} {f : Int} (hu : u.node ≠ s.own) (hT : s.ro.T u.node = some u)
    (h1 : ∀ n p, n ≠ u.node → s.db n = some p → n ≠ s.own ∧ s.ro.T n = some ⟨n, p.1, 1⟩ ∧ p.2.ok ∧ p.2.least = s.c.least ∧ p.2.most = s.c.most)
    (h2 : ∀ n x, n ≠ u.node → s.ro.T n = some x → x.st = 1 → n ≠ s.own → (s.db n).isSome = true) : (s.redoubt u f).Base := by
  have hm : (s.redoubt u f).Most := ⟨h.c, h.ro, h.wide, h.q, h.qT, h.qw, h.rg, h.d, h.wh, h.ids, h.self, h.cur, h.rel, h.seq, h.last, h.out, h.ev⟩
  refine hm.base ?_ ?_
  · intro n p hp
    have hp : upd s.db u.node _ n = some p := hp
    by_cases e : n = u.node
    · subst e
      rw [upd_same] at hp
      split at hp
      · rename_i h0
        cases hp
        refine ⟨hu, ?_, db.Db.new_ok (wants_ok h.c), rfl, rfl⟩
        show s.ro.T u.node = some ⟨u.node, u.inc, 1⟩
        rw [hT]
        obtain ⟨n, i, st⟩ := u
        simp only at h0
        subst h0
        rfl
      · cases hp
    · rw [upd_other _ _ e] at hp
      exact h1 n p e hp
  · intro n x hx hst hn
    show (upd s.db u.node _ n).isSome = true
    by_cases e : n = u.node
    · subst e
      have hx : s.ro.T u.node = some x := hx
      rw [hT] at hx
      cases hx
      rw [upd_same, if_pos hst]
      rfl
    · rw [upd_other _ _ e]
      exact h2 n x e hx hst hn
theorem Sw.Base.rering {s : Sw} (h : s.Base) (u : Up) : (s.rering u).Base := by
  unfold Sw.rering
  split
  · split
    · rename_i ht
      exact ⟨h.c, h.ro, h.wide, h.q, h.qT, h.qw, pr.Rg.add_ok h.rg ht _, h.d.next _, h.wh, h.ids, h.db, h.dn, h.self, h.cur, h.rel, h.seq, h.last, h.out, h.ev⟩
    · exact h
  · exact ⟨h.c, h.ro, h.wide, h.q, h.qT, h.qw, pr.Rg.remove_ok h.rg _, h.d, h.wh, h.ids, h.db, h.dn, h.self, h.cur, h.rel, h.seq, h.last, h.out, h.ev⟩
theorem Sw.Base.confirm {s : Sw} (h : s.Base) (n f : Int) : (s.confirm n f).Base := by
  refine ⟨h.c, h.ro, h.wide, h.q, h.qT, h.qw, h.rg, h.d, h.wh, h.ids, ?_, ?_, h.self, h.cur, h.rel, h.seq, h.last, h.out, h.ev⟩
  · intro k p hp
    have hp : upd s.db n _ k = some p := hp
    by_cases e : k = n
    · subst e
      rw [upd_same] at hp
      obtain ⟨p0, h0, rfl⟩ := Option.map_eq_some_iff.1 hp
      obtain ⟨a1, a2, a3, a4, a5⟩ := h.db k p0 h0
      obtain ⟨b1, b2, b3, b4⟩ := db.Db.confirm_same p0.2 f
      exact ⟨a1, a2, db.Db.confirm_ok a3 f, b1.trans a4, b2.trans a5⟩
    · rw [upd_other _ _ e] at hp
      exact h.db k p hp
  · intro k x hx hst hk
    show (upd s.db n _ k).isSome = true
    by_cases e : k = n
    · subst e
      rw [upd_same, Option.isSome_map]
      exact h.dn k x hx hst hk
    · rw [upd_other _ _ e]
      exact h.dn k x hx hst hk
theorem Sw.Base.selfU {s : Sw} (h : s.Base) : ∃ i, s.ro.selfU = ⟨s.own, i, if s.gone then 3 else 0⟩ ∧ s.ro.T s.own = some ⟨s.own, i, if s.gone then 3 else 0⟩ ∧ i < 4294967296 := by
  obtain ⟨i, hi⟩ := h.self
  exact ⟨i, ro.Ro.selfU_eq hi, hi, h.wide _ _ hi⟩
theorem Sw.Base.accept {s : Sw} (h : s.Base) (u : Up) (hw : u.wide) (f : Int) : (s.accept u f).Base := by
  unfold Sw.accept
  split
  · exact h.confirm _ _
  · split
    · rename_i hk
      obtain ⟨hl, hn⟩ := apply_learn h.ro u hk
      have hm := h.learn hl hw (fun e => absurd e hn)
      have hT : (s.ro.apply u).2.2.2.T = ro.put s.ro.T u := by rw [hl.eq]
      have ho : (s.ro.apply u).2.2.2.own = s.own := by rw [hl.eq]; rfl
      refine Sw.Base.rering (hm.redoubt (by show u.node ≠ (s.ro.apply u).2.2.2.own; rw [ho]; exact hn) (by show (s.ro.apply u).2.2.2.T u.node = some u; rw [hT, ro.put_same]) ?_ ?_) u
      · intro n p e hp
        have := h.db n p hp
        show n ≠ (s.ro.apply u).2.2.2.own ∧ (s.ro.apply u).2.2.2.T n = _ ∧ _
        rw [ho, hT, ro.put_other _ _ e]
        exact this
      · intro n x e hx hst hn
        have hx : (s.ro.apply u).2.2.2.T n = some x := hx
        have hn : n ≠ (s.ro.apply u).2.2.2.own := hn
        rw [hT, ro.put_other _ _ e] at hx
        rw [ho] at hn
        exact h.dn n x hx hst hn
    · split
      · rename_i hk
        obtain ⟨hl, hn, h0, ha, hi, hm, hg, _⟩ := apply_mine h.ro u hk
        have hown : (s.ro.apply u).2.2.1.node = s.own := hl.node.trans hn
        have hgone : s.gone = false := by
          obtain ⟨i, e, _, _⟩ := h.selfU
          rw [e] at hg
          cases hc : s.gone with
          | false => rfl
          | true => rw [hc] at hg; exact absurd rfl hg
        have hwv : (s.ro.apply u).2.2.1.wide := by unfold Up.wide; omega
        have hM := h.learn hl hwv (fun _ => ⟨h0, hgone⟩)
        have hT : (s.ro.apply u).2.2.2.T = ro.put s.ro.T (s.ro.apply u).2.2.1 := by rw [hl.eq]
        have ho : (s.ro.apply u).2.2.2.own = s.own := by rw [hl.eq]; rfl
        refine Sw.Base.shout (hM.base ?_ ?_) ⟨hl.right, hwv⟩
        · intro n p hp
          have := h.db n p hp
          show n ≠ (s.ro.apply u).2.2.2.own ∧ (s.ro.apply u).2.2.2.T n = _ ∧ _
          rw [ho, hT, ro.put_other _ _ (by rw [hown]; exact this.1)]
          exact this
        · intro n x hx hst hn
          have hx : (s.ro.apply u).2.2.2.T n = some x := hx
          have hn : n ≠ (s.ro.apply u).2.2.2.own := hn
          rw [ho] at hn
          rw [hT, ro.put_other _ _ (by rw [hown]; exact hn)] at hx
          exact h.dn n x hx hst hn
      · split
        · exact ⟨h.c, h.ro, h.wide, h.q, h.qT, h.qw, h.rg, h.d, h.wh, h.ids, h.db, h.dn, h.self, h.cur, h.rel, h.seq, h.last, h.out, h.ev⟩
        · exact h
end Go.Proofs.YtaicipldjmngaaaGreatDoor.sw

namespace Go.Proofs.YtaicipldjmngaaaGreatDoor.dr
end Go.Proofs.YtaicipldjmngaaaGreatDoor.dr
namespace Go.Proofs.YtaicipldjmngaaaGreatDoor.wh
end Go.Proofs.YtaicipldjmngaaaGreatDoor.wh
namespace Go.Proofs.YtaicipldjmngaaaGreatDoor.ro
end Go.Proofs.YtaicipldjmngaaaGreatDoor.ro
namespace Go.Proofs.YtaicipldjmngaaaGreatDoor.ru
end Go.Proofs.YtaicipldjmngaaaGreatDoor.ru
namespace Go.Proofs.YtaicipldjmngaaaGreatDoor.db
end Go.Proofs.YtaicipldjmngaaaGreatDoor.db
namespace Go.Proofs.YtaicipldjmngaaaGreatDoor.pr
end Go.Proofs.YtaicipldjmngaaaGreatDoor.pr
namespace Go.Proofs.YtaicipldjmngaaaGreatDoor.sp
end Go.Proofs.YtaicipldjmngaaaGreatDoor.sp
namespace Go.Proofs.YtaicipldjmngaaaGreatDoor.sw
open Go.Proofs.YtaicipldjmngaaaGreatDoor.dr Go.Proofs.YtaicipldjmngaaaGreatDoor.wh Go.Proofs.YtaicipldjmngaaaGreatDoor.ro Go.Proofs.YtaicipldjmngaaaGreatDoor.ru Go.Proofs.YtaicipldjmngaaaGreatDoor.db Go.Proofs.YtaicipldjmngaaaGreatDoor.pr Go.Proofs.YtaicipldjmngaaaGreatDoor.sp
set_option linter.unusedVariables false
abbrev okM (m : sp.Ms) : Prop := m.Ok ∧ m.wide ∧ m.us.length ≤ 8
def Pb.Ok (p : Pb) : Prop := p.seq < 4294967296 ∧ isNode p.tgt
def okCur (o : Option Pb) : Prop := ∀ p, o = some p → p.Ok
def okRel (f : Nat → Option Rl) : Prop := ∀ k r, f k = some r → k < 8 ∧ r.Ok
structure PartsD (P : Sw → Prop) : Prop where
  send : ∀ s to m, s.Base → P s → isNode to → okM m → P (s.send to m)
  whisper : ∀ s to, s.Base → P s → isNode to → P (s.whisper to)
  fail : ∀ s n i, s.Base → P s → s.ro.T n = some ⟨n, i, 0⟩ → P (s.accept ⟨n, i, 1⟩ s.own)
  set : ∀ s id n, s.Base → P s → ((1 ≤ id ∧ id ≤ 5) ∨ (16 ≤ id ∧ id < 24)) → P (s.set id n)
  asks : ∀ s, s.Base → P s → P s.asks
  drawn : ∀ s x, s.Base → P s → P (s.drawn x)
  probe : ∀ s q o, s.Base → P s → q < 4294967296 → okCur o → P { s with seq := q, cur := o }
  rels : ∀ s q f, s.Base → P s → q < 4294967296 → okRel f → P { s with seq := q, rel := f }
  last : ∀ s x, s.Base → P s → isNode x → P { s with last := x }
structure PartsT (P : Sw → Prop) : Prop extends PartsD P where
  dtick : ∀ s n p, s.Base → P s → s.db n = some p → P { s with db := upd s.db n (some (p.1, p.2.tick)) }
  dead : ∀ s n p, s.Base → P s → s.db n = some p → p.2.due = true → P (s.accept ⟨n, p.1, 2⟩ s.own)
  wtick : ∀ s, s.Base → P s → P { s with wh := s.wh.tick }
structure PartsR (P : Sw → Prop) : Prop where
  send : ∀ s to m, s.Base → P s → isNode to → okM m → P (s.send to m)
  accept : ∀ s u f, s.Base → P s → u.right = true → u.wide → isNode f → f ≠ s.own → P (s.accept u f)
  set : ∀ s id n, s.Base → P s → ((1 ≤ id ∧ id ≤ 5) ∨ (16 ≤ id ∧ id < 24)) → P (s.set id n)
  stop : ∀ s id, s.Base → P s → P (s.stop id)
  probe : ∀ s q o, s.Base → P s → q < 4294967296 → okCur o → P { s with seq := q, cur := o }
  rels : ∀ s q f, s.Base → P s → q < 4294967296 → okRel f → P { s with seq := q, rel := f }
  nack : ∀ s, s.Base → P s → P { s with nacks := s.nacks + 1 }
  wrong : ∀ s, s.Base → P s → P { s with wrong := s.wrong + 1 }
theorem nextSeq_lt (n : Nat) : nextSeq n < 4294967296 := Nat.mod_lt _ (by omega)
theorem afterO_ok {d : dr.Dr} (h : dr.okDr d) (n : Int) : dr.okDr (d.afterO n) := dr.ordGo_ok _ _ _ h
theorem Sw.Base.dtick {s : Sw} (h : s.Base) {n : Int} {p : Nat × db.Db} (hp : s.db n = some p) : ({ s with db := upd s.db n (some (p.1, p.2.tick)) } : Sw).Base := by
  refine ⟨h.c, h.ro, h.wide, h.q, h.qT, h.qw, h.rg, h.d, h.wh, h.ids, ?_, ?_, h.self, h.cur, h.rel, h.seq, h.last, h.out, h.ev⟩
  · intro k x hx
    have hx : upd s.db n _ k = some x := hx
    by_cases e : k = n
    · subst e
      rw [upd_same] at hx
      cases hx
      obtain ⟨a1, a2, a3, a4, a5⟩ := h.db k p hp
      exact ⟨a1, a2, db.Db.tick_ok a3, a4, a5⟩
    · rw [upd_other _ _ e] at hx
      exact h.db k x hx
  · intro k x hx hst hk
    show (upd s.db n _ k).isSome = true
    by_cases e : k = n
    · subst e
      rw [upd_same]
      rfl
    · rw [upd_other _ _ e]
      exact h.dn k x hx hst hk
theorem Sw.Base.wtick {s : Sw} (h : s.Base) : ({ s with wh := s.wh.tick } : Sw).Base :=
  ⟨h.c, h.ro, h.wide, h.q, h.qT, h.qw, h.rg, h.d, h.wh.tick, fun x hx => h.ids x (List.mem_filter.1 hx).1, h.db, h.dn, h.self, h.cur, h.rel, h.seq, h.last, h.out, h.ev⟩
theorem Sw.Base.set {s : Sw} (h : s.Base) (id n : Int) (hi : (1 ≤ id ∧ id ≤ 5) ∨ (16 ≤ id ∧ id < 24)) : (s.set id n).Base := by
  refine ⟨h.c, h.ro, h.wide, h.q, h.qT, h.qw, h.rg, h.d, h.wh.set (by omega), ?_, h.db, h.dn, h.self, h.cur, h.rel, h.seq, h.last, h.out, h.ev⟩
  intro x hx
  have hx : x ∈ (s.wh.set id n).L := hx
  unfold wh.St.set at hx
  split at hx
  · rcases wh.mem_insL.1 hx with rfl | hx
    · exact hi
    · exact h.ids x (wh.mem_delL.1 hx).1
  · exact h.ids x hx
theorem Sw.Base.stop {s : Sw} (h : s.Base) (id : Int) : (s.stop id).Base :=
  ⟨h.c, h.ro, h.wide, h.q, h.qT, h.qw, h.rg, h.d, h.wh.stop id, fun x hx => h.ids x (wh.mem_delL.1 hx).1, h.db, h.dn, h.self, h.cur, h.rel, h.seq, h.last, h.out, h.ev⟩
theorem Sw.Base.asks {s : Sw} (h : s.Base) : s.asks.Base := by
  refine ⟨h.c, h.ro, h.wide, h.q, h.qT, h.qw, pr.Rg.asked_ok h.rg _ h.d, ?_, h.wh, h.ids, h.db, h.dn, h.self, h.cur, h.rel, h.seq, h.last, h.out, h.ev⟩
  show dr.okDr (s.d.asked s.rg s.peers)
  unfold dr.Dr.asked
  split
  · exact h.d
  · exact afterO_ok h.d _
theorem Sw.Base.drawn {s : Sw} (h : s.Base) (x : Int) : (s.drawn x).Base :=
  ⟨h.c, h.ro, h.wide, h.q, h.qT, h.qw, h.rg, afterO_ok h.d _, h.wh, h.ids, h.db, h.dn, h.self, h.cur, h.rel, h.seq, h.last, h.out, h.ev⟩
theorem Sw.Base.probed {s : Sw} (h : s.Base) {q : Nat} {o : Option Pb} (hq : q < 4294967296) (ho : okCur o) : ({ s with seq := q, cur := o } : Sw).Base :=
  ⟨h.c, h.ro, h.wide, h.q, h.qT, h.qw, h.rg, h.d, h.wh, h.ids, h.db, h.dn, h.self, ho, h.rel, hq, h.last, h.out, h.ev⟩
theorem Sw.Base.rels {s : Sw} (h : s.Base) {q : Nat} {f : Nat → Option Rl} (hq : q < 4294967296) (hf : okRel f) : ({ s with seq := q, rel := f } : Sw).Base :=
  ⟨h.c, h.ro, h.wide, h.q, h.qT, h.qw, h.rg, h.d, h.wh, h.ids, h.db, h.dn, h.self, h.cur, hf, hq, h.last, h.out, h.ev⟩
theorem Sw.Base.lasts {s : Sw} (h : s.Base) {x : Int} (hx : isNode x) : ({ s with last := x } : Sw).Base :=
  ⟨h.c, h.ro, h.wide, h.q, h.qT, h.qw, h.rg, h.d, h.wh, h.ids, h.db, h.dn, h.self, h.cur, h.rel, h.seq, by unfold isNode at hx; show -1 ≤ x ∧ x ≤ 7; omega, h.out, h.ev⟩
theorem Sw.Base.flush {s : Sw} (h : s.Base) : s.flush.Base :=
  ⟨h.c, h.ro, h.wide, h.q, h.qT, h.qw, h.rg, h.d, h.wh, h.ids, h.db, h.dn, h.self, h.cur, h.rel, h.seq, h.last, (fun _ hp => by cases hp), h.ev⟩
theorem Sw.Base.nack {s : Sw} (h : s.Base) : ({ s with nacks := s.nacks + 1 } : Sw).Base :=
  ⟨h.c, h.ro, h.wide, h.q, h.qT, h.qw, h.rg, h.d, h.wh, h.ids, h.db, h.dn, h.self, h.cur, h.rel, h.seq, h.last, h.out, h.ev⟩
theorem Sw.Base.wrongs {s : Sw} (h : s.Base) : ({ s with wrong := s.wrong + 1 } : Sw).Base :=
  ⟨h.c, h.ro, h.wide, h.q, h.qT, h.qw, h.rg, h.d, h.wh, h.ids, h.db, h.dn, h.self, h.cur, h.rel, h.seq, h.last, h.out, h.ev⟩
theorem Sw.Base.inc {s : Sw} (h : s.Base) {n : Int} {p : Nat × db.Db} (hp : s.db n = some p) : p.1 < 4294967296 := h.wide n _ (h.db n p hp).2.1
section
variable {P : Sw → Prop} (hP : PartsD P)
include hP
theorem PartsD.sends (l : List Int) (m : Sw → sp.Ms) (hm : ∀ s : Sw, s.Base → okM (m s)) : ∀ {s : Sw}, s.Base → P s → (∀ x ∈ l, isNode x) → (l.foldl (fun s x => s.send x (m s)) s).Base ∧ P (l.foldl (fun s x => s.send x (m s)) s) := by
  induction l with
  | nil => intro s h p _; exact ⟨h, p⟩
  | cons x l ih =>
    intro s h p hl
    rw [List.foldl_cons]
    exact ih (h.send (hl x (by simp)) (hm s h)) (hP.send _ _ _ h p (hl x (by simp)) (hm s h)) (fun y hy => hl y (by simp [hy]))
theorem PartsD.whispers (l : List Int) : ∀ {s : Sw}, s.Base → P s → (∀ x ∈ l, isNode x) → (l.foldl Sw.whisper s).Base ∧ P (l.foldl Sw.whisper s) := by
  induction l with
  | nil => intro s h p _; exact ⟨h, p⟩
  | cons x l ih =>
    intro s h p hl
    rw [List.foldl_cons]
    exact ih (h.whisper (hl x (by simp))) (hP.whisper _ _ h p (hl x (by simp))) (fun y hy => hl y (by simp [hy]))
omit hP in
theorem asked_node {s : Sw} (h : s.Base) (hy : (s.rg.asked s.peers s.d).2.1 = true) : isNode (s.rg.asked s.peers s.d).1 ∧ (s.rg.asked s.peers s.d).1 ∈ s.peers := by
  have := (pr.Rg.next_live (live := s.peers) (pr.Rg.asked_perm h.rg h.d)).1 hy
  exact ⟨(h.mem_peers this.2).1, this.2⟩
theorem PartsD.ping {s : Sw} (h : s.Base) (p : P s) {t : Int} (ht : isNode t) : (s.ping t).Base ∧ P (s.ping t) := by
  unfold Sw.ping
  have hc : okCur (some ⟨nextSeq s.seq, t⟩) := fun p e => by cases e; exact ⟨nextSeq_lt _, ht⟩
  have h1 := h.probed (q := nextSeq s.seq) (nextSeq_lt _) hc
  have p1 := hP.probe s _ _ h p (nextSeq_lt s.seq) hc
  have h2 := h1.set 4 s.c.wait (by omega)
  have p2 := hP.set _ 4 s.c.wait h1 p1 (by omega)
  have hm : okM (pingM s.own (nextSeq s.seq) t) := pingM_ok h.ownN ht (nextSeq_lt _)
  exact ⟨h2.send ht hm, hP.send _ _ _ h2 p2 ht hm⟩
theorem PartsD.probes {s : Sw} (h : s.Base) (p : P s) : s.probe.Base ∧ P s.probe := by
  unfold Sw.probe
  have h1 := h.set 1 s.c.period (by omega)
  have p1 := hP.set _ 1 s.c.period h p (by omega)
  simp only
  split
  · rename_i hy
    exact hP.ping h1.asks (hP.asks _ h1 p1) (asked_node h1 hy).1
  · exact ⟨h1.asks, hP.asks _ h1 p1⟩
omit hP in
theorem others_node {s : Sw} (h : s.Base) (x many : Int) : ∀ y ∈ s.others x many, isNode y ∧ y ∈ s.peers := by
  intro y hy
  unfold Sw.others pr.pickL at hy
  obtain ⟨i, hi, rfl⟩ := List.mem_map.1 hy
  have hlen : (butP s.peers x).length ≤ 64 := by
    have h1 : (butP s.peers x).length ≤ s.peers.length := List.length_filter_le _ _
    have h2 : s.peers.length ≤ s.live.length := List.length_filter_le _ _
    have h3 : s.live.length ≤ s.view.length := by
      unfold Sw.live livesOf Sw.view
      rw [List.length_map]
      exact List.length_filter_le _ _
    have := view_len s
    omega
  have hin := (pr.some_in h.d (butP s.peers x).length many hlen).2 i hi
  have hm : (butP s.peers x).getD i 0 ∈ butP s.peers x := by
    simp only [List.getD, List.getElem?_eq_getElem hin, Option.getD_some]
    exact List.getElem_mem hin
  have hp := (List.mem_filter.1 hm).1
  exact ⟨(h.mem_peers hp).1, hp⟩
theorem PartsD.gossips {s : Sw} (h : s.Base) (p : P s) : s.gossip.Base ∧ P s.gossip := by
  unfold Sw.gossip
  have h1 := h.set 2 s.c.gossip (by omega)
  have p1 := hP.set _ 2 s.c.gossip h p (by omega)
  exact hP.whispers _ (h1.drawn _) (hP.drawn _ _ h1 p1) (fun x hx => (others_node h1 _ _ x hx).1)
omit hP in
theorem partner_node {s : Sw} (h : s.Base) {x : Int} (hx : s.partner = some x) : isNode x ∧ x ∈ s.mates := by
  have key : ∀ y ∈ s.mates, isNode y := by
    intro y hy
    unfold Sw.mates at hy
    obtain ⟨u, hu, rfl⟩ := List.mem_map.1 hy
    exact right_node (h.mem_view (List.mem_filter.1 hu).1).1
  have hm : x ∈ s.mates := by
    unfold Sw.partner at hx
    split at hx
    · rename_i y hy
      cases hx
      exact List.mem_of_find?_eq_some hy
    · exact List.mem_of_head? hx
  exact ⟨key x hm, hm⟩
theorem PartsD.syncs {s : Sw} (h : s.Base) (p : P s) : s.sync.Base ∧ P s.sync := by
  unfold Sw.sync
  have h1 := h.set 3 s.c.sync (by omega)
  have p1 := hP.set _ 3 s.c.sync h p (by omega)
  simp only
  split
  · exact ⟨h1, p1⟩
  · rename_i x hx
    have hn := (partner_node h1 hx).1
    have h2 := h1.lasts hn
    have p2 := hP.last _ x h1 p1 hn
    have hm : okM ((s.set 3 s.c.sync).tables false) := h1.tables_ok false
    exact ⟨h2.send hn hm, hP.send _ _ _ h2 p2 hn hm⟩
theorem PartsD.asksOn {s : Sw} (h : s.Base) (p : P s) : s.ask.Base ∧ P s.ask := by
  unfold Sw.ask
  cases e : s.cur with
  | none => exact ⟨h, p⟩
  | some b =>
    simp only
    obtain ⟨hb1, hb2⟩ := h.cur b e
    have hx := hP.sends (s.others b.tgt s.c.indirect) (fun s => askM s.own b.seq b.tgt) (fun s hs => askM_ok hs.ownN hb2 hb1) (h.drawn b.tgt) (hP.drawn _ _ h p) (fun x hx => (others_node h _ _ x hx).1)
    exact ⟨hx.1.set _ _ (by omega), hP.set _ _ _ hx.1 hx.2 (by omega)⟩
theorem PartsD.fails {s : Sw} (h : s.Base) (p : P s) : s.fail.Base ∧ P s.fail := by
  unfold Sw.fail
  cases e : s.cur with
  | none => exact ⟨h, p⟩
  | some b =>
    simp only
    have hc : okCur none := fun _ e => by cases e
    have h1 := h.probed (q := s.seq) h.seq hc
    have p1 := hP.probe s _ _ h p h.seq hc
    cases eT : s.ro.T b.tgt with
    | none => exact ⟨h1, p1⟩
    | some u =>
      simp only
      split
      · rename_i h0
        obtain ⟨hr, hn⟩ := h.ro.at_ _ _ eT
        have eu : s.ro.T u.node = some ⟨u.node, u.inc, 0⟩ := by
          rw [hn, eT]
          obtain ⟨n, i, st⟩ := u
          simp only at h0 hn
          subst h0
          rw [hn]
        exact ⟨h1.accept ⟨u.node, u.inc, 1⟩ (show u.inc < 4294967296 from h.wide _ _ eT) _, hP.fail _ u.node u.inc h1 p1 eu⟩
      · exact ⟨h1, p1⟩
omit hP in
theorem okRel.upd_none {f : Nat → Option Rl} (h : okRel f) (k : Nat) : okRel (updR f k none) := fun j r e => by
  unfold updR at e
  split at e
  · cases e
  · exact h j r e
theorem PartsD.lates {s : Sw} (h : s.Base) (p : P s) (k : Nat) : (s.late k).Base ∧ P (s.late k) := by
  unfold Sw.late
  cases e : s.rel k with
  | none => exact ⟨h, p⟩
  | some r =>
    simp only
    obtain ⟨_, hr⟩ := h.rel k r e
    have hf := okRel.upd_none h.rel k
    have h1 := h.rels (q := s.seq) h.seq hf
    have p1 := hP.rels s _ _ h p h.seq hf
    have hm : okM (nackM s.own r.oseq) := nackM_ok h.ownN hr.oseq
    exact ⟨h1.send hr.org hm, hP.send _ _ _ h1 p1 hr.org hm⟩
theorem PartsD.dueOn {s : Sw} (h : s.Base) (p : P s) (id : Int) : (s.due id).Base ∧ P (s.due id) := by
  unfold Sw.due
  split
  · exact hP.probes h p
  · split
    · exact hP.gossips h p
    · split
      · exact hP.syncs h p
      · split
        · exact hP.asksOn h p
        · split
          · exact hP.fails h p
          · split
            · exact hP.lates h p _
            · exact ⟨h, p⟩
theorem PartsD.duesOn (l : List Int) : ∀ {s : Sw}, s.Base → P s → (s.dues l).Base ∧ P (s.dues l) := by
  induction l with
  | nil => intro s h p; exact ⟨h, p⟩
  | cons x l ih =>
    intro s h p
    obtain ⟨h1, p1⟩ := hP.dueOn h p x
    exact ih h1 p1
end
section
variable {P : Sw → Prop} (hP : PartsT P)
include hP
theorem PartsT.doubtTick {s : Sw} (h : s.Base) (p : P s) (n : Int) : (s.doubtTick n).Base ∧ P (s.doubtTick n) := by
  unfold Sw.doubtTick
  cases e : s.db n with
  | none => exact ⟨h, p⟩
  | some x =>
    simp only
    have h1 := h.dtick e
    have p1 := hP.dtick s n x h p e
    split
    · rename_i hd
      exact ⟨h1.accept ⟨n, x.1, 2⟩ (h.inc e) _, hP.dead _ n (x.1, x.2.tick) h1 p1 (upd_same _ _ _) hd⟩
    · exact ⟨h1, p1⟩
theorem PartsT.doubtsTo {s : Sw} (h : s.Base) (p : P s) : ∀ k, (s.doubtsTo k).Base ∧ P (s.doubtsTo k)
  | 0 => ⟨h, p⟩
  | k + 1 => by
    obtain ⟨h1, p1⟩ := PartsT.doubtsTo h p k
    exact hP.doubtTick h1 p1 _
theorem PartsT.ticked {s : Sw} (h : s.Base) (p : P s) : s.ticked.Base ∧ P s.ticked := by
  unfold Sw.ticked
  obtain ⟨h1, p1⟩ := hP.doubtsTo h p 8
  exact hP.toPartsD.duesOn _ h1.wtick (hP.wtick _ h1 p1)
theorem PartsT.tick (hF : ∀ s : Sw, s.Base → P s → P s.flush) {s : Sw} (h : s.Base) (p : P s) : s.tick.1.Base ∧ P s.tick.1 := by
  unfold Sw.tick
  split
  · exact ⟨h, p⟩
  · obtain ⟨h1, p1⟩ := hP.ticked h p
    exact ⟨h1.flush, hF _ h1 p1⟩
end
theorem freeTo_spec (f : Nat → Option Rl) : ∀ {m k : Nat}, freeTo f m = some k → k < m ∧ f k = none
  | 0, k, h => by cases h
  | m + 1, k, h => by
    unfold freeTo at h
    cases e : freeTo f m with
    | some j =>
      rw [e] at h
      simp only at h
      cases h
      have := freeTo_spec f e
      exact ⟨by omega, this.2⟩
    | none =>
      rw [e] at h
      simp only at h
      split at h
      · rename_i hn
        cases h
        exact ⟨by omega, by simpa using hn⟩
      · cases h
section
variable {P : Sw → Prop} (hP : PartsR P)
include hP
theorem PartsR.relay {s : Sw} (h : s.Base) (p : P s) {m : sp.Ms} (hm : m.Ok ∧ m.wide) : (s.relay m).Base ∧ P (s.relay m) := by
  unfold Sw.relay
  cases e : freeTo s.rel 8 with
  | none => exact ⟨h, p⟩
  | some k =>
    simp only
    obtain ⟨hk, _⟩ := freeTo_spec _ e
    have hf : okRel (updR s.rel k (some ⟨nextSeq s.seq, m.seq, m.tgt, m.src⟩)) := fun j r ej => by
      unfold updR at ej
      split at ej
      · rename_i e2
        cases ej
        exact ⟨by omega, ⟨nextSeq_lt _, hm.2.1, hm.1.tgt, hm.1.src⟩⟩
      · exact h.rel j r ej
    have h1 := h.rels (q := nextSeq s.seq) (nextSeq_lt _) hf
    have p1 := hP.rels s _ _ h p (nextSeq_lt s.seq) hf
    have h2 := h1.set (16 + (k : Int)) s.c.wait (by omega)
    have p2 := hP.set _ (16 + (k : Int)) s.c.wait h1 p1 (by omega)
    have hp : okM (pingM s.own (nextSeq s.seq) m.tgt) := pingM_ok h.ownN hm.1.tgt (nextSeq_lt _)
    exact ⟨h2.send hm.1.tgt hp, hP.send _ _ _ h2 p2 hm.1.tgt hp⟩
theorem PartsR.pinged {s : Sw} (h : s.Base) (p : P s) {m : sp.Ms} (hm : m.Ok ∧ m.wide) : (s.pinged m).Base ∧ P (s.pinged m) := by
  unfold Sw.pinged
  split
  · have ha : okM (ackM s.own m.seq) := ackM_ok h.ownN hm.2.1
    exact ⟨h.send hm.1.src ha, hP.send _ _ _ h p hm.1.src ha⟩
  · split
    · exact hP.relay h p hm
    · exact ⟨h, p⟩
theorem PartsR.acked {s : Sw} (h : s.Base) (p : P s) {m : sp.Ms} (hm : m.Ok ∧ m.wide) : (s.acked m).Base ∧ P (s.acked m) := by
  unfold Sw.acked
  split
  · have hc : okCur none := fun _ e => by cases e
    have h1 := h.probed (q := s.seq) h.seq hc
    have p1 := hP.probe s _ _ h p h.seq hc
    exact ⟨(h1.stop 4).stop 5, hP.stop _ _ (h1.stop 4) (hP.stop _ _ h1 p1)⟩
  · cases e : meantTo s.rel m 8 with
    | none => exact ⟨h, p⟩
    | some k =>
      simp only
      cases er : s.rel k with
      | none => exact ⟨h, p⟩
      | some r =>
        simp only
        obtain ⟨_, hr⟩ := h.rel k r er
        have hf := okRel.upd_none h.rel k
        have h1 := h.rels (q := s.seq) h.seq hf
        have p1 := hP.rels s _ _ h p h.seq hf
        have h2 := h1.stop (16 + (k : Int))
        have p2 := hP.stop _ (16 + (k : Int)) h1 p1
        have ha : okM (ackM r.tgt r.oseq) := ackM_ok hr.tgt hr.oseq
        exact ⟨h2.send hr.org ha, hP.send _ _ _ h2 p2 hr.org ha⟩
theorem PartsR.accepts (l : List Up) (f : Int) (hf : isNode f) : ∀ {s : Sw}, s.Base → P s → f ≠ s.own → (∀ u ∈ l, u.right = true ∧ u.wide) → (s.accepts l f).Base ∧ P (s.accepts l f) ∧ (s.accepts l f).own = s.own := by
  induction l with
  | nil => intro s h p _ _; exact ⟨h, p, rfl⟩
  | cons u l ih =>
    intro s h p ho hl
    have h1 := h.accept u (hl u (by simp)).2 f
    have p1 := hP.accept s u f h p (hl u (by simp)).1 (hl u (by simp)).2 hf ho
    have e : (s.accept u f).own = s.own := by
      unfold Sw.accept
      split
      · rfl
      · split
        · unfold Sw.rering
          have e1 : (s.ro.apply u).2.2.2.own = s.ro.own := ro.Ro.apply_own s.ro u
          split
          · split
            · exact e1
            · exact e1
          · exact e1
        · split
          · exact ro.Ro.apply_own s.ro u
          · split <;> rfl
    obtain ⟨a, b, c⟩ := ih h1 p1 (by rw [e]; exact ho) (fun x hx => hl x (by simp [hx]))
    exact ⟨a, b, c.trans e⟩
theorem PartsR.told {s : Sw} (h : s.Base) (p : P s) {m : sp.Ms} (hm : m.Ok ∧ m.wide) (ho : m.src ≠ s.own) : (s.told m).Base ∧ P (s.told m) := by
  unfold Sw.told
  have hf : isNode m.src := hm.1.src
  obtain ⟨h1, p1, _⟩ := hP.accepts m.us m.src hf h p ho (fun u hu => ⟨hm.1.each u hu, hm.2.2 u hu⟩)
  simp only
  split
  · exact ⟨h1.send hf (h1.tables_ok true), hP.send _ _ _ h1 p1 hf (h1.tables_ok true)⟩
  · exact ⟨h1, p1⟩
theorem PartsR.hear {s : Sw} (h : s.Base) (p : P s) {m : sp.Ms} (hm : m.Ok ∧ m.wide) : (s.hear m).Base ∧ P (s.hear m) := by
  unfold Sw.hear
  split
  · exact ⟨h, p⟩
  · rename_i ho
    split
    · exact hP.pinged h p hm
    · split
      · exact hP.acked h p hm
      · split
        · exact ⟨h.nack, hP.nack _ h p⟩
        · split
          · exact hP.told h p hm ho
          · exact ⟨h, p⟩
theorem PartsR.hears (l : List sp.Ms) : ∀ {s : Sw}, s.Base → P s → (∀ m ∈ l, m.Ok ∧ m.wide) → (s.hears l).Base ∧ P (s.hears l) := by
  induction l with
  | nil => intro s h p _; exact ⟨h, p⟩
  | cons m l ih =>
    intro s h p hl
    obtain ⟨h1, p1⟩ := hP.hear h p (hl m (by simp))
    exact ih h1 p1 (fun x hx => hl x (by simp [hx]))
theorem PartsR.receive (hF : ∀ s : Sw, s.Base → P s → P s.flush) {s : Sw} (h : s.Base) (p : P s) (to : Int) (o : Option (List sp.Ms)) (ho : ∀ l, o = some l → ∀ m ∈ l, m.Ok ∧ m.wide) : (s.receive to o).1.Base ∧ P (s.receive to o).1 := by
  unfold Sw.receive
  split
  · exact ⟨h, p⟩
  · cases o with
    | none => exact ⟨h.wrongs, hP.wrong _ h p⟩
    | some l =>
      obtain ⟨h1, p1⟩ := hP.hears l h p (ho l rfl)
      exact ⟨h1.flush, hF _ h1 p1⟩
theorem PartsR.join (hF : ∀ s : Sw, s.Base → P s → P s.flush) {s : Sw} (h : s.Base) (p : P s) (peer : Int) : (s.join peer).1.Base ∧ P (s.join peer).1 := by
  unfold Sw.join
  split
  · exact ⟨h, p⟩
  · rename_i hc
    have hn : isNode peer := by unfold isNode; omega
    have h1 := h.send hn (h.tables_ok false)
    exact ⟨h1.flush, hF _ h1 (hP.send _ _ _ h p hn (h.tables_ok false))⟩
end
theorem Sw.Base.new {c : Cf} (hc : c.Ok) {self : Int} (hs : isNode self) {inc : Nat} (hi : inc < 4294967296) {draws : List Nat} (hd : ∀ x ∈ draws, x < 4294967296) : (Sw.new c self inc draws).Base := by
  have hs' := hs
  unfold isNode at hs'
  have hro : (ro.Ro.new self inc).ok := ro.Ro.ok.new (by omega)
  have hT : ∀ n u, (ro.Ro.new self inc).T n = some u → n = self ∧ u = ⟨self, inc, 0⟩ := by
    intro n u hu
    unfold ro.Ro.new at hu
    simp only at hu
    split at hu
    · rename_i e
      cases hu
      exact ⟨e, rfl⟩
    · cases hu
  have hk : ∀ id n : Int, ((1 ≤ id ∧ id ≤ 5) ∨ (16 ≤ id ∧ id < 24)) → ∀ S : wh.St, S.ok ∧ (∀ x ∈ S.L, (1 ≤ x.1 ∧ x.1 ≤ 5) ∨ (16 ≤ x.1 ∧ x.1 < 24)) → (S.set id n).ok ∧ (∀ x ∈ (S.set id n).L, (1 ≤ x.1 ∧ x.1 ≤ 5) ∨ (16 ≤ x.1 ∧ x.1 < 24)) := by
    intro id n hid S hS
    refine ⟨hS.1.set (by omega), ?_⟩
    intro x hx
    unfold wh.St.set at hx
    split at hx
    · rcases wh.mem_insL.1 hx with rfl | hx
      · exact hid
      · exact hS.2 x (wh.mem_delL.1 hx).1
    · exact hS.2 x hx
  have h3 := hk 3 c.sync (by omega) _ (hk 2 c.gossip (by omega) _ (hk 1 c.period (by omega) wh.St.new ⟨wh.St.ok.new, fun _ h => by cases h⟩))
  refine ⟨hc, hro, ?_, ru.Qu.new_ok _, (fun r hr => by cases hr), (fun r hr => by cases hr), pr.Rg.new_ok, hd, h3.1, h3.2, (fun n p hp => by cases hp), ?_, ?_, (fun p hp => by cases hp), (fun k r hr => by cases hr), by show (0 : Nat) < 4294967296; omega, by show (-1 : Int) ≤ -1 ∧ (-1 : Int) ≤ 7; omega, (fun p hp => by cases hp), (fun u hu => by cases hu)⟩
  · intro n u hu
    rw [(hT n u hu).2]
    exact hi
  · intro n u hu hst hn
    rw [(hT n u hu).2] at hst
    simp at hst
  · refine ⟨inc, ?_⟩
    show (ro.Ro.new self inc).T self = _
    unfold ro.Ro.new
    simp only [if_true]
    rfl
end Go.Proofs.YtaicipldjmngaaaGreatDoor.sw

namespace Go.Proofs.YtaicipldjmngaaaGreatDoor.dr
end Go.Proofs.YtaicipldjmngaaaGreatDoor.dr
namespace Go.Proofs.YtaicipldjmngaaaGreatDoor.wh
end Go.Proofs.YtaicipldjmngaaaGreatDoor.wh
namespace Go.Proofs.YtaicipldjmngaaaGreatDoor.ro
end Go.Proofs.YtaicipldjmngaaaGreatDoor.ro
namespace Go.Proofs.YtaicipldjmngaaaGreatDoor.ru
end Go.Proofs.YtaicipldjmngaaaGreatDoor.ru
namespace Go.Proofs.YtaicipldjmngaaaGreatDoor.db
end Go.Proofs.YtaicipldjmngaaaGreatDoor.db
namespace Go.Proofs.YtaicipldjmngaaaGreatDoor.pr
end Go.Proofs.YtaicipldjmngaaaGreatDoor.pr
namespace Go.Proofs.YtaicipldjmngaaaGreatDoor.sp
end Go.Proofs.YtaicipldjmngaaaGreatDoor.sp
namespace Go.Proofs.YtaicipldjmngaaaGreatDoor.sw
open Go.Proofs.YtaicipldjmngaaaGreatDoor.dr Go.Proofs.YtaicipldjmngaaaGreatDoor.wh Go.Proofs.YtaicipldjmngaaaGreatDoor.ro Go.Proofs.YtaicipldjmngaaaGreatDoor.ru Go.Proofs.YtaicipldjmngaaaGreatDoor.db Go.Proofs.YtaicipldjmngaaaGreatDoor.pr Go.Proofs.YtaicipldjmngaaaGreatDoor.sp
set_option linter.unusedVariables false
theorem Sw.Base.hT {s : Sw} (h : s.Base) : ∀ n v, s.ro.T n = some v → v.node = n := fun n v hv => (h.ro.at_ n v hv).2
theorem answers {s : Sw} (hg : s.gone = false) (ho : s.out = []) {q : Nat} {f : Int} (hf : f ≠ s.own) :
    (s.receive s.own (some [pingM f q s.own])).2 = [⟨f, ackM s.own q :: tellL s.own s.takes.1⟩] := by
  unfold Sw.receive
  rw [if_neg (by rw [hg]; simp)]
  simp only [Sw.hears, List.foldl_cons, List.foldl_nil]
  unfold Sw.hear
  rw [if_neg (show ¬ (pingM f q s.own).src = s.own from hf), if_pos (show (pingM f q s.own).kind = 1 ∨ _ from .inl rfl)]
  unfold Sw.pinged
  rw [if_pos (show (pingM f q s.own).tgt = s.own from rfl)]
  show s.out ++ _ = _
  rw [ho]
  rfl
structure Kp (s0 s : Sw) : Prop where
  gone : s.gone = s0.gone
  c : s.c = s0.c
  own : s.own = s0.own
theorem Kp.accept {s0 s : Sw} (h : Kp s0 s) (u : Up) (f : Int) : Kp s0 (s.accept u f) := by
  have ho : (s.ro.apply u).2.2.2.own = s.own := ro.Ro.apply_own s.ro u
  have k : ∀ (r : ro.Ro) (v : Up), r.own = s.own → Kp s0 (s.learn r v) := fun r v e => ⟨h.gone, h.c, by show r.own = _; rw [e]; exact h.own⟩
  unfold Sw.accept
  split
  · exact ⟨h.gone, h.c, h.own⟩
  · split
    · have k1 := k _ u ho
      unfold Sw.rering
      split
      · split
        · exact ⟨k1.gone, k1.c, k1.own⟩
        · exact ⟨k1.gone, k1.c, k1.own⟩
      · exact ⟨k1.gone, k1.c, k1.own⟩
    · split
      · have k1 := k _ (s.ro.apply u).2.2.1 ho
        exact ⟨k1.gone, k1.c, k1.own⟩
      · split
        · exact ⟨h.gone, h.c, h.own⟩
        · exact h
theorem Kp.same {s0 s s' : Sw} (h : Kp s0 s) (h1 : s'.gone = s.gone) (h2 : s'.c = s.c) (h3 : s'.ro = s.ro) : Kp s0 s' := ⟨h1.trans h.gone, h2.trans h.c, by unfold Sw.own; rw [h3]; exact h.own⟩
theorem Kp.refl (s : Sw) : Kp s s := ⟨rfl, rfl, rfl⟩
end Go.Proofs.YtaicipldjmngaaaGreatDoor.sw

namespace Go.Proofs.YtaicipldjmngaaaGreatDoor.dr
end Go.Proofs.YtaicipldjmngaaaGreatDoor.dr
namespace Go.Proofs.YtaicipldjmngaaaGreatDoor.wh
end Go.Proofs.YtaicipldjmngaaaGreatDoor.wh
namespace Go.Proofs.YtaicipldjmngaaaGreatDoor.ro
end Go.Proofs.YtaicipldjmngaaaGreatDoor.ro
namespace Go.Proofs.YtaicipldjmngaaaGreatDoor.ru
end Go.Proofs.YtaicipldjmngaaaGreatDoor.ru
namespace Go.Proofs.YtaicipldjmngaaaGreatDoor.db
end Go.Proofs.YtaicipldjmngaaaGreatDoor.db
namespace Go.Proofs.YtaicipldjmngaaaGreatDoor.pr
end Go.Proofs.YtaicipldjmngaaaGreatDoor.pr
namespace Go.Proofs.YtaicipldjmngaaaGreatDoor.sp
end Go.Proofs.YtaicipldjmngaaaGreatDoor.sp
namespace Go.Proofs.YtaicipldjmngaaaGreatDoor.sw
open Go.Proofs.YtaicipldjmngaaaGreatDoor.dr Go.Proofs.YtaicipldjmngaaaGreatDoor.wh Go.Proofs.YtaicipldjmngaaaGreatDoor.ro Go.Proofs.YtaicipldjmngaaaGreatDoor.ru Go.Proofs.YtaicipldjmngaaaGreatDoor.db Go.Proofs.YtaicipldjmngaaaGreatDoor.pr Go.Proofs.YtaicipldjmngaaaGreatDoor.sp
set_option linter.unusedVariables false
def up0 (i : Nat) : Up := ⟨0, i, 0⟩
def up1 (j : Nat) : Up := ⟨1, j, 0⟩
def twoT (i j : Nat) : Int → Option Up := fun n => if n = 0 then some (up0 i) else if n = 1 then some (up1 j) else none
def Duo (o r : Int) : Prop := (o = 0 ∧ r = 1) ∨ (o = 1 ∧ r = 0)
def isTwo (i j : Nat) (u : Up) : Prop := u = up0 i ∨ u = up1 j
structure Still (i j : Nat) (o r : Int) (s : Sw) : Prop where
  base : s.Base
  gone : s.gone = false
  own : s.own = o
  T : s.ro.T = twoT i j
  q : ∀ x ∈ s.q.L, isTwo i j x.u
  rel : ∀ k, s.rel k = none
  cur : ∀ p, s.cur = some p → p.tgt = r
  wh : ∀ e ∈ s.wh.L, e.1 = 1 ∨ e.1 = 2 ∨ e.1 = 3 ∨ (e.1 = 4 ∧ s.cur ≠ none)
  clock : s.q.clock ≤ 1
  ev : s.events.length ≤ 1
theorem listTo_two (i j : Nat) : ro.listTo (twoT i j) 8 = [up0 i, up1 j] := by
  unfold ro.listTo
  rfl
theorem Still.view {i j : Nat} {o r : Int} {s : Sw} (h : Still i j o r s) : s.view = [up0 i, up1 j] := by unfold Sw.view; rw [h.T, listTo_two]
theorem Still.live {i j : Nat} {o r : Int} {s : Sw} (h : Still i j o r s) : s.live = [0, 1] := by
  unfold Sw.live livesOf
  rw [h.T, listTo_two]
  rfl
theorem Still.peers {i j : Nat} {o r : Int} {s : Sw} (hd : Duo o r) (h : Still i j o r s) : s.peers = [r] := by
  unfold Sw.peers
  rw [h.live, h.own]
  rcases hd with ⟨rfl, rfl⟩ | ⟨rfl, rfl⟩ <;> rfl
theorem Still.no_db {i j : Nat} {o r : Int} {s : Sw} (h : Still i j o r s) (n : Int) : s.db n = none := by
  cases e : s.db n with
  | none => rfl
  | some p =>
    have := (h.base.db n p e).2.1
    rw [h.T] at this
    unfold twoT at this
    split at this
    · cases this
    · split at this
      · cases this
      · cases this
theorem twoT_at {i j : Nat} {u : Up} (h : isTwo i j u) : twoT i j u.node = some u ∧ u.st = 0 := by
  rcases h with rfl | rfl
  · exact ⟨rfl, rfl⟩
  · exact ⟨rfl, rfl⟩
theorem Still.accept {i j : Nat} {o r : Int} {s : Sw} (h : Still i j o r s) {u : Up} (hu : isTwo i j u) (f : Int) : s.accept u f = s := by
  obtain ⟨h1, h2⟩ := twoT_at hu
  have hd : s.doubted u = false := by
    unfold Sw.doubted
    rw [h2]
    simp
  have hT : s.ro.T u.node = some u := by rw [h.T]; exact h1
  have hk : (s.ro.apply u).1 = 0 := by
    unfold ro.Ro.apply
    split
    · rfl
    · split
      · rename_i ho
        have hs : s.ro.selfU = u := ro.Ro.selfU_eq (by rw [← ho]; exact hT)
        rw [if_pos (.inr (by rw [hs]; exact Up.irrefl u))]
      · rw [hT]
        simp only
        rw [if_neg (by rw [Up.irrefl]; simp)]
  unfold Sw.accept
  rw [if_neg (by rw [hd]; simp), hk]
  simp
theorem Still.accepts {i j : Nat} {o r : Int} {s : Sw} (h : Still i j o r s) (f : Int) : ∀ {l : List Up}, (∀ u ∈ l, isTwo i j u) → s.accepts l f = s
  | [], _ => rfl
  | u :: l, hl => by
    unfold Sw.accepts
    rw [List.foldl_cons, h.accept (hl u (by simp))]
    exact h.accepts f (fun v hv => hl v (by simp [hv]))
structure CalmM (i j : Nat) (o r : Int) (m : sp.Ms) : Prop where
  src : m.src = o
  what : (m.kind = 1 ∧ m.tgt = r) ∨ m.kind = 2 ∨ ((m.kind = 5 ∨ m.kind = 6) ∧ ∀ u ∈ m.us, isTwo i j u)
def asksB (m : sp.Ms) : Bool := decide (m.kind = 1) || (decide (m.kind = 6) && !m.rep)
def weight (l : List sp.Ms) : Nat := (l.filter asksB).length
structure CalmP (i j : Nat) (o r : Int) (p : Pkt) : Prop where
  to : p.to = r
  each : ∀ m ∈ p.ms, CalmM i j o r m
theorem Still.tellC {i j : Nat} {o r : Int} {s : Sw} (h : Still i j o r s) : (∀ m ∈ tellL s.own s.takes.1, CalmM i j o r m) ∧ weight (tellL s.own s.takes.1) = 0 ∧ ∀ u ∈ s.takes.1, isTwo i j u := by
  have ht : ∀ u ∈ s.takes.1, isTwo i j u := fun u hu => by
    obtain ⟨_, _, x, hx, rfl⟩ := h.base.takes.2.1 u hu
    exact h.q x hx
  unfold tellL
  split
  · exact ⟨(fun m hm => by cases hm), rfl, ht⟩
  · refine ⟨fun m hm => ?_, rfl, ht⟩
    rw [List.mem_singleton.1 hm]
    exact ⟨h.own, .inr (.inr ⟨.inl rfl, ht⟩)⟩
theorem Still.takenQ {i j : Nat} {o r : Int} {s : Sw} (h : Still i j o r s) (l : List Pkt) (hb : ({ s with q := s.takes.2, out := s.out ++ l } : Sw).Base) : Still i j o r { s with q := s.takes.2, out := s.out ++ l } :=
  ⟨hb, h.gone, h.own, h.T, fun x hx => by
    obtain ⟨⟨t, ht, e⟩, _⟩ := h.base.takes.2.2.2 x hx
    rw [e]; exact h.q t ht, h.rel, h.cur, h.wh, h.clock, h.ev⟩
theorem Duo.nodes {o r : Int} (hd : Duo o r) : isNode o ∧ isNode r ∧ o ≠ r := by
  unfold Duo at hd
  unfold isNode
  omega
theorem Duo.swap {o r : Int} (hd : Duo o r) : Duo r o := by unfold Duo at *; omega
structure Sent (i j : Nat) (o r : Int) (s s' : Sw) (l : List Pkt) : Prop where
  still : Still i j o r s'
  out : s'.out = s.out ++ l
  calm : ∀ p ∈ l, CalmP i j o r p
theorem Still.send {i j : Nat} {o r : Int} {s : Sw} (hd : Duo o r) (h : Still i j o r s) {m : sp.Ms} (hm : okM m) (hc : CalmM i j o r m) :
    Sent i j o r s (s.send r m) [⟨r, m :: tellL s.own s.takes.1⟩] ∧ weight (m :: tellL s.own s.takes.1) = (if asksB m then 1 else 0) := by
  obtain ⟨k1, k2, _⟩ := h.tellC
  refine ⟨⟨h.takenQ _ (h.base.send hd.nodes.2.1 hm), rfl, fun p hp => ?_⟩, ?_⟩
  · rw [List.mem_singleton.1 hp]
    exact ⟨rfl, fun x hx => by
      rcases List.mem_cons.1 hx with rfl | hx
      · exact hc
      · exact k1 x hx⟩
  · unfold weight at k2 ⊢
    rw [List.filter_cons]
    split
    · rw [List.length_cons, k2]
    · exact k2
theorem Still.ackC {i j : Nat} {o r : Int} {s : Sw} (hd : Duo o r) (h : Still i j o r s) {q : Nat} (hq : q < 4294967296) : okM (ackM s.own q) ∧ CalmM i j o r (ackM s.own q) ∧ asksB (ackM s.own q) = false :=
  ⟨ackM_ok h.base.ownN hq, ⟨h.own, .inr (.inl rfl)⟩, rfl⟩
theorem Still.tablesM {i j : Nat} {o r : Int} {s : Sw} (h : Still i j o r s) (b : Bool) : okM (s.tables b) ∧ CalmM i j o r (s.tables b) ∧ asksB (s.tables b) = !b :=
  ⟨h.base.tables_ok b, ⟨h.own, .inr (.inr ⟨.inr rfl, fun u hu => by
    have hu : u ∈ s.view := hu
    rw [h.view] at hu
    rcases List.mem_cons.1 hu with e | hu
    · exact .inl e
    · exact .inr (List.mem_singleton.1 hu)⟩)⟩, by unfold asksB Sw.tables; simp⟩
structure Heard (i j : Nat) (o r : Int) (l : List sp.Ms) (s s' : Sw) : Prop where
  still : Still i j o r s'
  sent : ∃ R, s'.out = s.out ++ R ∧ R.length = weight l ∧ (∀ p ∈ R, CalmP i j o r p ∧ weight p.ms = 0) ∧ ∀ m ∈ l, m.kind = 1 → ∃ p ∈ R, ∃ x ∈ p.ms, x.kind = 2 ∧ x.seq = m.seq ∧ x.src = o
  cur : s'.cur = s.cur ∨ s'.cur = none
  seen : ∀ m ∈ l, m.kind = 2 → ∀ p, s.cur = some p → p.seq = m.seq → s'.cur = none
  clock : s'.q.clock = s.q.clock
  seq : s'.seq = s.seq
  now : s'.wh.now = s.wh.now
theorem Still.cleared {i j : Nat} {o r : Int} {s : Sw} (h : Still i j o r s) : Still i j o r ((({ s with cur := none } : Sw).stop 4).stop 5) := by
  have hc : okCur none := fun _ e => by cases e
  have hb := ((h.base.probed (q := s.seq) h.base.seq hc).stop 4).stop 5
  refine ⟨hb, h.gone, h.own, h.T, h.q, h.rel, (fun p e => by cases e), ?_, h.clock, h.ev⟩
  intro e he
  have he : e ∈ (s.wh.stop 4).L.filter _ := he
  have h1 := (List.mem_filter.1 he).1
  have h2 := wh.mem_delL.1 h1
  rcases h.wh e h2.1 with k | k | k | ⟨k, _⟩
  · exact .inl k
  · exact .inr (.inl k)
  · exact .inr (.inr (.inl k))
  · exact absurd k h2.2
theorem no_meant {f : Nat → Option Rl} (h : ∀ k, f k = none) (m : sp.Ms) : ∀ n, meantTo f m n = none
  | 0 => rfl
  | n + 1 => by
    unfold meantTo
    rw [no_meant h m n]
    simp only
    rw [h n]
    rfl
theorem Still.hear {i j : Nat} {o r : Int} {s : Sw} (hd : Duo o r) (h : Still i j o r s) {m : sp.Ms} (hm : m.Ok ∧ m.wide) (hc : CalmM i j r o m) : Heard i j o r [m] s (s.hear m) := by
  have hso : ¬ m.src = s.own := by rw [hc.src, h.own]; exact fun e => hd.nodes.2.2 e.symm
  have keep : ∀ (e : s.hear m = s), asksB m = false → m.kind ≠ 2 → m.kind ≠ 1 → Heard i j o r [m] s (s.hear m) := fun e ha h2 h1 => by
    rw [e]
    refine ⟨h, ⟨[], by simp, by simp [weight, ha], (fun p hp => by cases hp), fun x hx hk => ?_⟩, .inl rfl, fun x hx hk => ?_, rfl, rfl, rfl⟩
    · rw [List.mem_singleton.1 hx] at hk; exact absurd hk h1
    · rw [List.mem_singleton.1 hx] at hk; exact absurd hk h2
  have sent : ∀ (x : sp.Ms), okM x → CalmM i j o r x → asksB x = false → s.hear m = s.send r x → asksB m = true → (m.kind = 1 → x.kind = 2 ∧ x.seq = m.seq ∧ x.src = o) → m.kind ≠ 2 → Heard i j o r [m] s (s.hear m) := fun x hx hcx hax e ha hk h2 => by
    obtain ⟨⟨k1, k2, k3⟩, k4⟩ := h.send hd hx hcx
    rw [e]
    refine ⟨k1, ⟨_, k2, by simp [weight, ha], fun p hp => ⟨k3 p hp, ?_⟩, fun y hy hky => ?_⟩, .inl rfl, fun y hy hky => ?_, rfl, rfl, rfl⟩
    · rw [List.mem_singleton.1 hp, k4, hax]
      rfl
    · rw [List.mem_singleton.1 hy] at hky ⊢
      exact ⟨_, List.mem_singleton.2 rfl, x, List.mem_cons_self .., hk hky⟩
    · rw [List.mem_singleton.1 hy] at hky; exact absurd hky h2
  rcases hc.what with ⟨hk, ht⟩ | hk | ⟨hk, hu⟩
  · have e : s.hear m = s.send r (ackM s.own m.seq) := by
      unfold Sw.hear
      rw [if_neg hso, if_pos (.inl hk)]
      unfold Sw.pinged
      rw [if_pos (by rw [ht, h.own]), hc.src]
    obtain ⟨a1, a2, a3⟩ := h.ackC hd hm.2.1
    exact sent _ a1 a2 a3 e (by unfold asksB; rw [hk]; rfl) (fun _ => ⟨rfl, rfl, h.own⟩) (by rw [hk]; decide)
  · have ha : asksB m = false := by unfold asksB; rw [hk]; rfl
    have e : s.hear m = s.acked m := by
      unfold Sw.hear
      rw [if_neg hso, if_neg (by rw [hk]; decide), if_pos hk]
    have hns : ∀ p, s.cur = some p → s.answers m = decide (p.seq = m.seq) := fun p hp => by
      unfold Sw.answers
      rw [hp]
      simp only
      have := h.cur p hp
      rw [hc.src, this]
      simp
    by_cases hans : s.answers m = true
    · have e2 : s.hear m = (({ s with cur := none } : Sw).stop 4).stop 5 := by
        rw [e]
        unfold Sw.acked
        rw [if_pos hans]
      rw [e2]
      refine ⟨h.cleared, ⟨[], by rw [List.append_nil]; rfl, by simp [weight, ha], (fun p hp => by cases hp), fun x hx hkx => ?_⟩, .inr rfl, (fun _ _ _ _ _ _ => rfl), rfl, rfl, rfl⟩
      rw [List.mem_singleton.1 hx, hk] at hkx
      simp at hkx
    · have e2 : s.hear m = s := by
        rw [e]
        unfold Sw.acked
        rw [if_neg hans, no_meant h.rel]
      rw [e2]
      refine ⟨h, ⟨[], by simp, by simp [weight, ha], (fun p hp => by cases hp), fun x hx hkx => ?_⟩, .inl rfl, fun x hx hkx p hp hps => ?_, rfl, rfl, rfl⟩
      · rw [List.mem_singleton.1 hx, hk] at hkx
        simp at hkx
      · exfalso
        apply hans
        rw [hns p hp, hps, List.mem_singleton.1 hx]
        simp
  · have hk' : ¬ (m.kind = 1 ∨ m.kind = 3) ∧ ¬ m.kind = 2 ∧ ¬ m.kind = 4 := by omega
    have e : s.hear m = if m.kind = 6 ∧ m.rep = false then s.send m.src (s.tables true) else s := by
      unfold Sw.hear
      rw [if_neg hso, if_neg hk'.1, if_neg hk'.2.1, if_neg hk'.2.2, if_pos hk]
      unfold Sw.told
      simp only
      rw [h.accepts m.src hu]
    by_cases h6 : m.kind = 6 ∧ m.rep = false
    · rw [if_pos h6, hc.src] at e
      obtain ⟨a1, a2, a3⟩ := h.tablesM true
      exact sent _ a1 a2 a3 e (by unfold asksB; rw [h6.1, h6.2]; rfl) (fun k => by omega) hk'.2.1
    · rw [if_neg h6] at e
      refine keep e ?_ hk'.2.1 (fun k => hk'.1 (.inl k))
      unfold asksB
      have h1 : decide (m.kind = 1) = false := decide_eq_false (fun k => hk'.1 (.inl k))
      rw [h1]
      cases hr : m.rep with
      | true => simp
      | false =>
        have : ¬ m.kind = 6 := fun k => h6 ⟨k, hr⟩
        simp [this]
theorem Still.hears {i j : Nat} {o r : Int} (hd : Duo o r) : ∀ (l : List sp.Ms) {s : Sw}, Still i j o r s → (∀ m ∈ l, (m.Ok ∧ m.wide) ∧ CalmM i j r o m) → Heard i j o r l s (s.hears l)
  | [], s, h, _ => ⟨h, ⟨[], by simp [Sw.hears], rfl, (fun p hp => by cases hp), (fun m hm => by cases hm)⟩, .inl rfl, (fun m hm => by cases hm), rfl, rfl, rfl⟩
  | m :: l, s, h, hl => by
    have h1 := h.hear hd (hl m (by simp)).1 (hl m (by simp)).2
    have h2 := Still.hears hd l h1.still (fun x hx => hl x (by simp [hx]))
    have e : s.hears (m :: l) = (s.hear m).hears l := rfl
    rw [e]
    obtain ⟨R1, a1, a2, a3, a4⟩ := h1.sent
    obtain ⟨R2, b1, b2, b3, b4⟩ := h2.sent
    have hw : weight (m :: l) = weight [m] + weight l := by
      unfold weight
      rw [List.filter_cons, List.filter_cons]
      split <;> simp <;> omega
    refine ⟨h2.still, ⟨R1 ++ R2, by rw [b1, a1, List.append_assoc], by rw [List.length_append, a2, b2, hw], fun p hp => ?_, fun x hx hk => ?_⟩, ?_, fun x hx hk p hp hs => ?_, h2.clock.trans h1.clock, h2.seq.trans h1.seq, h2.now.trans h1.now⟩
    · rcases List.mem_append.1 hp with hp | hp
      · exact a3 p hp
      · exact b3 p hp
    · rcases List.mem_cons.1 hx with rfl | hx
      · obtain ⟨p, hp, y⟩ := a4 _ (List.mem_singleton.2 rfl) hk
        exact ⟨p, List.mem_append.2 (.inl hp), y⟩
      · obtain ⟨p, hp, y⟩ := b4 x hx hk
        exact ⟨p, List.mem_append.2 (.inr hp), y⟩
    · rcases h2.cur with c | c
      · rcases h1.cur with d | d
        · exact .inl (c.trans d)
        · exact .inr (c.trans d)
      · exact .inr c
    · rcases List.mem_cons.1 hx with rfl | hx
      · have := h1.seen _ (List.mem_singleton.2 rfl) hk p hp hs
        rcases h2.cur with c | c
        · exact c.trans this
        · exact c
      · rcases h1.cur with d | d
        · exact h2.seen x hx hk p (d.trans hp) hs
        · rcases h2.cur with c | c
          · exact c.trans d
          · exact c
structure Calm (i j : Nat) (o r : Int) (s : Sw) : Prop where
  still : Still i j o r s
  out : s.out = []
theorem Still.flush {i j : Nat} {o r : Int} {s : Sw} (h : Still i j o r s) : Calm i j o r s.flush :=
  ⟨⟨h.base.flush, h.gone, h.own, h.T, h.q, h.rel, h.cur, h.wh, h.clock, h.ev⟩, rfl⟩
structure Came2 (i j : Nat) (o r : Int) (p : Pkt) (s s' : Sw) (R : List Pkt) : Prop where
  calm : Calm i j o r s'
  len : R.length = weight p.ms
  each : ∀ x ∈ R, CalmP i j o r x ∧ weight x.ms = 0
  ok : ∀ x ∈ R, x.Ok
  answer : ∀ m ∈ p.ms, m.kind = 1 → ∃ x ∈ R, ∃ y ∈ x.ms, y.kind = 2 ∧ y.seq = m.seq ∧ y.src = o
  cur : s'.cur = s.cur ∨ s'.cur = none
  seen : ∀ m ∈ p.ms, m.kind = 2 → ∀ c, s.cur = some c → c.seq = m.seq → s'.cur = none
  clock : s'.q.clock = s.q.clock
  seq : s'.seq = s.seq
  now : s'.wh.now = s.wh.now
theorem Calm.receive {i j : Nat} {o r : Int} {s : Sw} (hd : Duo o r) (h : Calm i j o r s) {p : Pkt} (hp : p.Ok) (hc : CalmP i j r o p) :
    Came2 i j o r p s (s.receive o (some p.ms)).1 (s.receive o (some p.ms)).2 := by
  have hx := h.still.hears hd p.ms (fun m hm => ⟨hp.each m hm, hc.each m hm⟩)
  have e : s.receive o (some p.ms) = (s.hears p.ms).done := by
    unfold Sw.receive
    rw [if_neg (by rw [h.still.gone, h.still.own]; simp)]
  rw [e]
  obtain ⟨R, a1, a2, a3, a4⟩ := hx.sent
  have eR : (s.hears p.ms).done.2 = R := by
    show (s.hears p.ms).out = R
    rw [a1, h.out, List.nil_append]
  rw [eR]
  exact ⟨hx.still.flush, a2, a3, (fun x hxR => hx.still.base.out x (by rw [a1]; exact List.mem_append.2 (.inr hxR))), a4, hx.cur, hx.seen, hx.clock, hx.seq, hx.now⟩
theorem Still.set {i j : Nat} {o r : Int} {s : Sw} (h : Still i j o r s) {id n : Int} (hi : id = 1 ∨ id = 2 ∨ id = 3 ∨ (id = 4 ∧ s.cur ≠ none)) : Still i j o r (s.set id n) := by
  refine ⟨h.base.set id n (by omega), h.gone, h.own, h.T, h.q, h.rel, h.cur, ?_, h.clock, h.ev⟩
  intro e he
  have he : e ∈ (s.wh.set id n).L := he
  unfold wh.St.set at he
  split at he
  · rcases wh.mem_insL.1 he with rfl | he
    · exact hi
    · exact h.wh e (wh.mem_delL.1 he).1
  · exact h.wh e he
theorem Still.doubtsTo {i j : Nat} {o r : Int} {s : Sw} (h : Still i j o r s) : ∀ k, s.doubtsTo k = s
  | 0 => rfl
  | k + 1 => by
    unfold Sw.doubtsTo
    rw [h.doubtsTo k]
    unfold Sw.doubtTick
    rw [h.no_db]
theorem Still.wtick {i j : Nat} {o r : Int} {s : Sw} (h : Still i j o r s) : Still i j o r { s with wh := s.wh.tick } :=
  ⟨h.base.wtick, h.gone, h.own, h.T, h.q, h.rel, h.cur, fun e he => h.wh e (List.mem_filter.1 he).1, h.clock, h.ev⟩
def Waits (o r : Int) (c : Option Pb) (l : List Pkt) : Prop := ∀ p, c = some p → ∃ x ∈ l, (x.to = r ∧ ∃ m ∈ x.ms, m.kind = 1 ∧ m.seq = p.seq) ∨ (x.to = o ∧ ∃ m ∈ x.ms, m.kind = 2 ∧ m.seq = p.seq)
def weights (l : List Pkt) : Nat := (l.map fun p => 1 + weight p.ms).sum
theorem weights_append (l m : List Pkt) : weights (l ++ m) = weights l + weights m := by unfold weights; simp
structure Due (i j : Nat) (o r : Int) (k : Nat) (s : Sw) : Prop where
  still : Still i j o r s
  out : ∀ p ∈ s.out, CalmP i j o r p
  wait : Waits o r s.cur s.out
  few : weights s.out ≤ 2 * k
theorem Due.sent {i j : Nat} {o r : Int} {k : Nat} {s : Sw} (hd : Duo o r) (h : Due i j o r k s) {m : sp.Ms} (hm : okM m) (hc : CalmM i j o r m) : Due i j o r (k + 1) (s.send r m) := by
  obtain ⟨⟨k1, k2, k3⟩, k4⟩ := h.still.send hd hm hc
  refine ⟨k1, fun p hp => ?_, fun p hp => ?_, ?_⟩
  · rw [k2] at hp
    rcases List.mem_append.1 hp with hp | hp
    · exact h.out p hp
    · exact k3 p hp
  · obtain ⟨x, hx, y⟩ := h.wait p hp
    exact ⟨x, by rw [k2]; exact List.mem_append.2 (.inl hx), y⟩
  · rw [k2, weights_append]
    have : weights [⟨r, m :: tellL s.own s.takes.1⟩] ≤ 2 := by
      unfold weights
      simp only [List.map_cons, List.map_nil, List.sum_cons, List.sum_nil]
      rw [k4]
      split <;> omega
    have := h.few
    omega
theorem Due.next {i j : Nat} {o r : Int} {k k' : Nat} {s : Sw} (h : Due i j o r k s) (hk : k ≤ k') : Due i j o r k' s := ⟨h.still, h.out, h.wait, by have := h.few; omega⟩
theorem Still.asks {i j : Nat} {o r : Int} {s : Sw} (h : Still i j o r s) : Still i j o r s.asks := ⟨h.base.asks, h.gone, h.own, h.T, h.q, h.rel, h.cur, h.wh, h.clock, h.ev⟩
theorem Still.drawn {i j : Nat} {o r : Int} {s : Sw} (h : Still i j o r s) (x : Int) : Still i j o r (s.drawn x) := ⟨h.base.drawn x, h.gone, h.own, h.T, h.q, h.rel, h.cur, h.wh, h.clock, h.ev⟩
theorem Still.lasts {i j : Nat} {o r : Int} {s : Sw} (h : Still i j o r s) {x : Int} (hx : isNode x) : Still i j o r { s with last := x } := ⟨h.base.lasts hx, h.gone, h.own, h.T, h.q, h.rel, h.cur, h.wh, h.clock, h.ev⟩
theorem Due.whispers {i j : Nat} {o r : Int} (hd : Duo o r) : ∀ (l : List Int) {k : Nat} {s : Sw}, Due i j o r k s → (∀ x ∈ l, x = r) → Due i j o r (k + l.length) (l.foldl Sw.whisper s)
  | [], k, s, h, _ => h
  | x :: l, k, s, h, hl => by
    obtain rfl := hl x (by simp)
    rw [List.foldl_cons]
    obtain ⟨_, _, k3⟩ := h.still.tellC
    have hw : Due i j o x (k + 1) (s.whisper x) := by
      have hb := h.still.base.whisper (to := x) hd.nodes.2.1
      refine ⟨h.still.takenQ _ hb, fun p hp => ?_, fun p hp => ?_, ?_⟩
      · rcases List.mem_append.1 hp with hp | hp
        · exact h.out p hp
        · split at hp
          · cases hp
          · rw [List.mem_singleton.1 hp]
            exact ⟨rfl, fun m hm => by
              rw [List.mem_singleton.1 hm]
              exact ⟨h.still.own, .inr (.inr ⟨.inl rfl, k3⟩)⟩⟩
      · obtain ⟨y, hy, z⟩ := h.wait p hp
        exact ⟨y, List.mem_append.2 (.inl hy), z⟩
      · show weights (s.out ++ _) ≤ _
        rw [weights_append]
        have := h.few
        split
        · have e : weights ([] : List Pkt) = 0 := rfl
          omega
        · have e : weights [(⟨x, [tellM s.own s.takes.1]⟩ : Pkt)] = 1 := rfl
          omega
    have := Due.whispers hd l hw (fun y hy => hl y (by simp [hy]))
    refine this.next ?_
    rw [List.length_cons]
    omega
theorem Still.mates {i j : Nat} {o r : Int} {s : Sw} (hd : Duo o r) (h : Still i j o r s) : s.mates = [r] := by
  unfold Sw.mates
  rw [h.view, h.own]
  rcases hd with ⟨rfl, rfl⟩ | ⟨rfl, rfl⟩ <;> rfl
theorem Still.partner {i j : Nat} {o r : Int} {s : Sw} (hd : Duo o r) (h : Still i j o r s) : s.partner = some r := by
  unfold Sw.partner
  rw [h.mates hd]
  simp only [List.find?_cons, List.find?_nil]
  split
  · rename_i x hx
    split at hx
    · cases hx; rfl
    · cases hx
  · rfl
theorem Due.due {i j : Nat} {o r : Int} (hd : Duo o r) {k : Nat} {s : Sw} (h : Due i j o r k s) {id : Int} (hi : id = 1 ∨ id = 2 ∨ id = 3) : Due i j o r (k + 1) (s.due id) := by
  have hp := fun (s : Sw) (h : Still i j o r s) => h.peers hd
  unfold Sw.due
  by_cases h1 : id = 1
  · rw [if_pos h1]
    unfold Sw.probe
    simp only
    have s1 : Still i j o r (s.set 1 s.c.period) := h.still.set (.inl rfl)
    split
    · rename_i hy
      have hx := asked_node s1.base hy
      rw [hp _ s1] at hx
      have hx2 := List.mem_singleton.1 hx.2
      rw [hp _ s1] at hy ⊢
      rw [hx2]
      have s2 : Still i j o r (s.set 1 s.c.period).asks := s1.asks
      unfold Sw.ping
      have hq := nextSeq_lt (s.set 1 s.c.period).asks.seq
      have hc : okCur (some ⟨nextSeq (s.set 1 s.c.period).asks.seq, r⟩) := fun p e => by cases e; exact ⟨hq, hd.nodes.2.1⟩
      have s3 : Still i j o r ({ (s.set 1 s.c.period).asks with seq := nextSeq (s.set 1 s.c.period).asks.seq, cur := some ⟨nextSeq (s.set 1 s.c.period).asks.seq, r⟩ } : Sw) := by
        refine ⟨s2.base.probed hq hc, s2.gone, s2.own, s2.T, s2.q, s2.rel, (fun p e => by cases e; rfl), fun e he => ?_, s2.clock, s2.ev⟩
        rcases s2.wh e he with a | a | a | ⟨a, _⟩
        · exact .inl a
        · exact .inr (.inl a)
        · exact .inr (.inr (.inl a))
        · exact .inr (.inr (.inr ⟨a, by simp⟩))
      have s4 := s3.set (id := 4) (n := (s.set 1 s.c.period).asks.c.wait) (.inr (.inr (.inr ⟨rfl, by simp⟩)))
      have hm : okM (pingM (s.set 1 s.c.period).asks.own (nextSeq (s.set 1 s.c.period).asks.seq) r) := pingM_ok s2.base.ownN hd.nodes.2.1 hq
      have hcm : CalmM i j o r (pingM (s.set 1 s.c.period).asks.own (nextSeq (s.set 1 s.c.period).asks.seq) r) := ⟨s2.own, .inl ⟨rfl, rfl⟩⟩
      obtain ⟨⟨k1, k2, k3⟩, k4⟩ := s4.send hd hm hcm
      refine ⟨k1, fun p hp => ?_, fun p hp => ?_, ?_⟩
      · rw [k2] at hp
        rcases List.mem_append.1 hp with hp | hp
        · exact h.out p hp
        · exact k3 p hp
      · have hp : some (⟨nextSeq (s.set 1 s.c.period).asks.seq, r⟩ : Pb) = some p := hp
        cases hp
        refine ⟨_, by rw [k2]; exact List.mem_append.2 (.inr (List.mem_singleton.2 rfl)), .inl ⟨rfl, _, List.mem_cons_self .., rfl, rfl⟩⟩
      · rw [k2, weights_append]
        have e1 : weights [(⟨r, (pingM (s.set 1 s.c.period).asks.own (nextSeq (s.set 1 s.c.period).asks.seq) r) :: tellL (({ (s.set 1 s.c.period).asks with seq := nextSeq (s.set 1 s.c.period).asks.seq, cur := some ⟨nextSeq (s.set 1 s.c.period).asks.seq, r⟩ } : Sw).set 4 (s.set 1 s.c.period).asks.c.wait).own (({ (s.set 1 s.c.period).asks with seq := nextSeq (s.set 1 s.c.period).asks.seq, cur := some ⟨nextSeq (s.set 1 s.c.period).asks.seq, r⟩ } : Sw).set 4 (s.set 1 s.c.period).asks.c.wait).takes.1⟩ : Pkt)] ≤ 2 := by
          unfold weights
          simp only [List.map_cons, List.map_nil, List.sum_cons, List.sum_nil]
          rw [k4]
          split <;> omega
        have := h.few
        have e2 : weights s.out ≤ 2 * k := h.few
        show weights s.out + _ ≤ _
        omega
    · exact Due.next (k := k) ⟨s1.asks, h.out, h.wait, h.few⟩ (by omega)
  · rw [if_neg h1]
    by_cases h2 : id = 2
    · rw [if_pos h2]
      unfold Sw.gossip
      simp only
      have s1 : Still i j o r (s.set 2 s.c.gossip) := h.still.set (.inr (.inl rfl))
      have s2 : Due i j o r k ((s.set 2 s.c.gossip).drawn (-1)) := ⟨s1.drawn _, h.out, h.wait, h.few⟩
      have hl : ∀ x ∈ (s.set 2 s.c.gossip).others (-1) (s.set 2 s.c.gossip).c.fanout, x = r := fun x hx => by
        have := (others_node s1.base _ _ x hx).2
        rw [hp _ s1] at this
        exact List.mem_singleton.1 this
      have hlen : ((s.set 2 s.c.gossip).others (-1) (s.set 2 s.c.gossip).c.fanout).length ≤ 1 := by
        unfold Sw.others
        rw [pr.pickL_length, hp _ s1]
        have hb : (butP [r] (-1)).length ≤ 1 := List.length_filter_le _ _
        have h3 := pr.some_in s1.base.d (butP [r] (-1)).length (s.set 2 s.c.gossip).c.fanout (by omega)
        have h4 : ((s.set 2 s.c.gossip).d.some_ ((butP [r] (-1)).length : Nat) (s.set 2 s.c.gossip).c.fanout).length ≤ (List.range (butP [r] (-1)).length).length := by
          refine List.Nodup.length_le_of_subset h3.1 ?_
          intro x hx
          exact List.mem_range.2 (h3.2 x hx)
        rw [List.length_range] at h4
        omega
      exact (Due.whispers hd _ s2 hl).next (by omega)
    · rw [if_neg h2]
      have h3 : id = 3 := by omega
      rw [if_pos h3]
      unfold Sw.sync
      simp only
      have s1 : Still i j o r (s.set 3 s.c.sync) := h.still.set (.inr (.inr (.inl rfl)))
      rw [s1.partner hd]
      simp only
      have s2 : Due i j o r k ({ s.set 3 s.c.sync with last := r } : Sw) := ⟨s1.lasts hd.nodes.2.1, h.out, h.wait, h.few⟩
      obtain ⟨a1, a2, a3⟩ := s1.tablesM false
      exact s2.sent hd a1 a2
theorem Due.dues {i j : Nat} {o r : Int} (hd : Duo o r) : ∀ (l : List Int) {k : Nat} {s : Sw}, Due i j o r k s → (∀ x ∈ l, x = 1 ∨ x = 2 ∨ x = 3) → Due i j o r (k + l.length) (s.dues l)
  | [], k, s, h, _ => h
  | x :: l, k, s, h, hl => by
    have h1 := h.due hd (hl x (by simp))
    have h2 := Due.dues hd l h1 (fun y hy => hl y (by simp [hy]))
    have e : s.dues (x :: l) = (s.due x).dues l := rfl
    rw [e]
    exact h2.next (by rw [List.length_cons]; omega)
theorem due_now (s : Sw) (id : Int) : (s.due id).wh.now = s.wh.now := by
  have hset : ∀ (s : Sw) (id n : Int), (s.set id n).wh.now = s.wh.now := fun s id n => by
    show (s.wh.set id n).now = _
    unfold wh.St.set
    split <;> rfl
  have hacc : ∀ (s : Sw) (u : Up) (f : Int), (s.accept u f).wh = s.wh := fun s u f => by
    unfold Sw.accept
    split
    · rfl
    · split
      · unfold Sw.rering
        split
        · split <;> rfl
        · rfl
      · split
        · rfl
        · split <;> rfl
  have hwh : ∀ (l : List Int) (s : Sw), (l.foldl Sw.whisper s).wh = s.wh := by
    intro l
    induction l with
    | nil => intro s; rfl
    | cons x l ih => intro s; rw [List.foldl_cons, ih]; rfl
  have hss : ∀ (l : List Int) (m : Sw → sp.Ms) (s : Sw), (l.foldl (fun s x => s.send x (m s)) s).wh = s.wh := by
    intro l m
    induction l with
    | nil => intro s; rfl
    | cons x l ih => intro s; rw [List.foldl_cons, ih]; rfl
  unfold Sw.due
  split
  · unfold Sw.probe
    simp only
    split
    · show (Sw.set _ 4 _).wh.now = _
      rw [hset]
      exact hset s 1 s.c.period
    · exact hset s 1 s.c.period
  · split
    · unfold Sw.gossip
      simp only
      rw [hwh]
      exact hset s 2 s.c.gossip
    · split
      · unfold Sw.sync
        simp only
        split
        · exact hset s 3 s.c.sync
        · exact hset s 3 s.c.sync
      · split
        · unfold Sw.ask
          split
          · rfl
          · rename_i p hp
            rw [hset, hss (s.others p.tgt s.c.indirect) (fun s => askM s.own p.seq p.tgt) (s.drawn p.tgt)]
            rfl
        · split
          · unfold Sw.fail
            split
            · rfl
            · split
              · rfl
              · split
                · rw [hacc]
                · rfl
          · split
            · unfold Sw.late
              split <;> rfl
            · rfl
theorem dues_now : ∀ (l : List Int) (s : Sw), (s.dues l).wh.now = s.wh.now
  | [], s => rfl
  | x :: l, s => by
    have e : s.dues (x :: l) = (s.due x).dues l := rfl
    rw [e, dues_now l, due_now]
structure Ticked2 (i j : Nat) (o r : Int) (s s' : Sw) (l : List Pkt) : Prop where
  calm : Calm i j o r s'
  out : ∀ p ∈ l, CalmP i j o r p ∧ p.Ok
  wait : Waits o r s'.cur l
  few : weights l ≤ 6
  now : s'.wh.now = s.wh.now + 1
theorem Calm.tick {i j : Nat} {o r : Int} (hd : Duo o r) {s : Sw} (h : Calm i j o r s) (hc : s.cur = none) : Ticked2 i j o r s s.tick.1 s.tick.2 := by
  have et : s.tick = s.ticked.done := by unfold Sw.tick; rw [if_neg (by rw [h.still.gone]; simp)]
  have es : s.ticked = ({ s with wh := s.wh.tick } : Sw).dues s.wh.due := by
    unfold Sw.ticked
    simp only
    rw [h.still.doubtsTo]
  have h0 : Due i j o r 0 ({ s with wh := s.wh.tick } : Sw) := ⟨h.still.wtick, (fun p hp => by
    have hp : p ∈ s.out := hp
    rw [h.out] at hp
    cases hp), (fun p hp => by
    have hp : s.cur = some p := hp
    rw [hc] at hp
    cases hp), by show weights s.out ≤ _; rw [h.out]; exact Nat.zero_le _⟩
  have hin : ∀ x ∈ s.wh.due, x = 1 ∨ x = 2 ∨ x = 3 := fun x hx => by
    have hm := wh.mem_dueL.1 hx
    rcases h.still.wh _ hm with k | k | k | ⟨_, k⟩
    · exact .inl k
    · exact .inr (.inl k)
    · exact .inr (.inr k)
    · exact absurd hc k
  have hlen : s.wh.due.length ≤ 3 := by
    have hn : s.wh.due.Nodup := (wh.sorted_dueL h.still.base.wh.rise _).imp (fun hlt e => by subst e; exact absurd hlt (Int.lt_irrefl _))
    have := List.Nodup.length_le_of_subset hn (l₂ := [1, 2, 3]) (fun x hx => by
      rcases hin x hx with rfl | rfl | rfl <;> simp)
    simpa using this
  have hx := Due.dues hd s.wh.due h0 hin
  rw [← es] at hx
  rw [et]
  refine ⟨hx.still.flush, fun p hp => ⟨hx.out p hp, hx.still.base.out p hp⟩, hx.wait, ?_, ?_⟩
  · have := hx.few
    show weights s.ticked.out ≤ 6
    omega
  · show s.ticked.wh.now = _
    rw [es, dues_now]
    rfl
end Go.Proofs.YtaicipldjmngaaaGreatDoor.sw

namespace Go.Proofs.YtaicipldjmngaaaGreatDoor.dr
end Go.Proofs.YtaicipldjmngaaaGreatDoor.dr
namespace Go.Proofs.YtaicipldjmngaaaGreatDoor.wh
end Go.Proofs.YtaicipldjmngaaaGreatDoor.wh
namespace Go.Proofs.YtaicipldjmngaaaGreatDoor.ro
end Go.Proofs.YtaicipldjmngaaaGreatDoor.ro
namespace Go.Proofs.YtaicipldjmngaaaGreatDoor.ru
end Go.Proofs.YtaicipldjmngaaaGreatDoor.ru
namespace Go.Proofs.YtaicipldjmngaaaGreatDoor.db
end Go.Proofs.YtaicipldjmngaaaGreatDoor.db
namespace Go.Proofs.YtaicipldjmngaaaGreatDoor.pr
end Go.Proofs.YtaicipldjmngaaaGreatDoor.pr
namespace Go.Proofs.YtaicipldjmngaaaGreatDoor.sp
end Go.Proofs.YtaicipldjmngaaaGreatDoor.sp
namespace Go.Proofs.YtaicipldjmngaaaGreatDoor.sw
open Go.Proofs.YtaicipldjmngaaaGreatDoor.dr Go.Proofs.YtaicipldjmngaaaGreatDoor.wh Go.Proofs.YtaicipldjmngaaaGreatDoor.ro Go.Proofs.YtaicipldjmngaaaGreatDoor.ru Go.Proofs.YtaicipldjmngaaaGreatDoor.db Go.Proofs.YtaicipldjmngaaaGreatDoor.pr Go.Proofs.YtaicipldjmngaaaGreatDoor.sp
set_option linter.unusedVariables false
def stepC (t : Sw × Sw × List Pkt) : Sw × Sw × List Pkt := match t.2.2 with
  | [] => t
  | p :: Q => if p.to = 0 then ((t.1.receive p.to (some p.ms)).1, t.2.1, Q ++ (t.1.receive p.to (some p.ms)).2)
    else (t.1, (t.2.1.receive p.to (some p.ms)).1, Q ++ (t.2.1.receive p.to (some p.ms)).2)
structure Pair2 (i j : Nat) (k : Nat) (t : Sw × Sw × List Pkt) : Prop where
  a : Calm i j 0 1 t.1
  b : Calm i j 1 0 t.2.1
  q : ∀ p ∈ t.2.2, p.Ok ∧ (CalmP i j 0 1 p ∨ CalmP i j 1 0 p)
  wa : Waits 0 1 t.1.cur t.2.2
  wb : Waits 1 0 t.2.1.cur t.2.2
  few : weights t.2.2 ≤ k
theorem duo01 : Duo 0 1 := .inl ⟨rfl, rfl⟩
theorem duo10 : Duo 1 0 := .inr ⟨rfl, rfl⟩
theorem Waits.none_ {o r : Int} {c : Option Pb} (h : Waits o r c []) : c = none := by
  cases c with
  | none => rfl
  | some p =>
    obtain ⟨x, hx, _⟩ := h p rfl
    cases hx
theorem weights_cons (p : Pkt) (Q : List Pkt) : weights (p :: Q) = 1 + weight p.ms + weights Q := by unfold weights; simp
theorem weights_plain : ∀ {R : List Pkt}, (∀ x ∈ R, weight x.ms = 0) → weights R = R.length
  | [], _ => rfl
  | p :: R, h => by
    rw [weights_cons, weights_plain (fun x hx => h x (by simp [hx])), h p (by simp), List.length_cons]
    omega
theorem waits_other {i j : Nat} {o r : Int} {p : Pkt} {Q R : List Pkt} {s s' : Sw} (hd : Duo o r) (hp : p.to = o) (h : Came2 i j o r p s s' R) {c : Option Pb} (hw : Waits r o c (p :: Q)) : Waits r o c (Q ++ R) := by
  intro b hb
  obtain ⟨x, hx, y⟩ := hw b hb
  rcases List.mem_cons.1 hx with rfl | hx
  · rcases y with ⟨_, m, hm, hk, hs⟩ | ⟨e, _⟩
    · obtain ⟨z, hz, y, hy, h1, h2, _⟩ := h.answer m hm hk
      exact ⟨z, List.mem_append.2 (.inr hz), .inr ⟨(h.each z hz).1.to, y, hy, h1, h2.trans hs⟩⟩
    · exact absurd (hp.symm.trans e) hd.nodes.2.2
  · exact ⟨x, List.mem_append.2 (.inl hx), y⟩
theorem waits_own {i j : Nat} {o r : Int} {p : Pkt} {Q R : List Pkt} {s s' : Sw} (hd : Duo o r) (hp : p.to = o) (h : Came2 i j o r p s s' R) (hw : Waits o r s.cur (p :: Q)) : Waits o r s'.cur (Q ++ R) := by
  intro b hb
  rcases h.cur with e | e
  · obtain ⟨x, hx, y⟩ := hw b (e ▸ hb)
    rcases List.mem_cons.1 hx with rfl | hx
    · rcases y with ⟨e2, _⟩ | ⟨_, m, hm, hk, hs⟩
      · exact absurd (hp.symm.trans e2) hd.nodes.2.2
      · have := h.seen m hm hk b (e ▸ hb) hs.symm
        rw [this] at hb
        cases hb
    · exact ⟨x, List.mem_append.2 (.inl hx), y⟩
  · rw [e] at hb
    cases hb
theorem Pair2.step {i j k : Nat} {t : Sw × Sw × List Pkt} (h : Pair2 i j k t) : Pair2 i j (k - 1) (stepC t) ∧ (k = 0 → t.2.2 = []) := by
  obtain ⟨a, b, Q⟩ := t
  cases Q with
  | nil =>
    refine ⟨⟨h.a, h.b, h.q, h.wa, h.wb, ?_⟩, fun _ => rfl⟩
    exact Nat.zero_le _
  | cons p Q =>
    have hfew := h.few
    simp only [weights_cons] at hfew
    refine ⟨?_, fun e => by omega⟩
    obtain ⟨hok, hc⟩ := h.q p (by simp)
    unfold stepC
    simp only
    by_cases hp : p.to = 0
    · have hc' : CalmP i j 1 0 p := by
        rcases hc with k | k
        · have := k.to; omega
        · exact k
      have hx := h.a.receive duo01 hok hc'
      rw [if_pos hp, hp]
      refine ⟨hx.calm, h.b, fun x hx' => ?_, waits_own duo01 hp hx h.wa, waits_other duo01 hp hx h.wb, ?_⟩
      · rcases List.mem_append.1 hx' with y | y
        · exact h.q x (by simp [y])
        · exact ⟨hx.ok x y, .inl (hx.each x y).1⟩
      · show weights (Q ++ _) ≤ _
        rw [weights_append, weights_plain (fun x hxR => (hx.each x hxR).2), hx.len]
        omega
    · have hc' : CalmP i j 0 1 p := by
        rcases hc with k | k
        · exact k
        · exact absurd k.to hp
      have hp1 : p.to = 1 := hc'.to
      have hx := h.b.receive duo10 hok hc'
      rw [if_neg hp, hp1]
      refine ⟨h.a, hx.calm, fun x hx' => ?_, waits_other duo10 hp1 hx h.wa, waits_own duo10 hp1 hx h.wb, ?_⟩
      · rcases List.mem_append.1 hx' with y | y
        · exact h.q x (by simp [y])
        · exact ⟨hx.ok x y, .inr (hx.each x y).1⟩
      · show weights (Q ++ _) ≤ _
        rw [weights_append, weights_plain (fun x hxR => (hx.each x hxR).2), hx.len]
        omega
theorem Pair2.ended {i j : Nat} {t : Sw × Sw × List Pkt} (h : Pair2 i j 0 t) : t.2.2 = [] ∧ t.1.cur = none ∧ t.2.1.cur = none := by
  have e := h.step.2 rfl
  refine ⟨e, ?_, ?_⟩
  · have := h.wa; rw [e] at this; exact this.none_
  · have := h.wb; rw [e] at this; exact this.none_
def upOf (i j : Nat) (o : Int) : Up := if o = 0 then up0 i else up1 j
structure Alone (i j : Nat) (o r : Int) (s : Sw) : Prop where
  base : s.Base
  gone : s.gone = false
  own : s.own = o
  T : s.ro.T = fun n => if n = o then some (upOf i j o) else none
  q : s.q.L = []
  rel : ∀ k, s.rel k = none
  cur : s.cur = none
  wh : ∀ e ∈ s.wh.L, e.1 = 1 ∨ e.1 = 2 ∨ e.1 = 3
  clock : s.q.clock = 0
  ev : s.events = []
theorem upOf_node {i j : Nat} {o r : Int} (hd : Duo o r) : (upOf i j o).node = o ∧ (upOf i j o).st = 0 ∧ isTwo i j (upOf i j o) := by
  unfold upOf isTwo
  rcases hd with ⟨rfl, rfl⟩ | ⟨rfl, rfl⟩
  · exact ⟨rfl, rfl, .inl rfl⟩
  · exact ⟨rfl, rfl, .inr rfl⟩
theorem Alone.new {i j : Nat} {o r : Int} (hd : Duo o r) {c : Cf} (hc : c.Ok) (hw : (upOf i j o).inc < 4294967296) {draws : List Nat} (hdr : ∀ x ∈ draws, x < 4294967296) : Alone i j o r (Sw.new c o (upOf i j o).inc draws) ∧ (Sw.new c o (upOf i j o).inc draws).out = [] := by
  refine ⟨⟨Sw.Base.new hc hd.nodes.1 hw hdr, rfl, rfl, ?_, rfl, fun _ => rfl, rfl, ?_, rfl, rfl⟩, rfl⟩
  · obtain ⟨h1, h2, _⟩ := upOf_node (i := i) (j := j) hd
    funext n
    show (if n = o then some (⟨o, (upOf i j o).inc, 0⟩ : Up) else none) = if n = o then some (upOf i j o) else none
    have : upOf i j o = ⟨o, (upOf i j o).inc, 0⟩ := by rcases hd with ⟨rfl, rfl⟩ | ⟨rfl, rfl⟩ <;> rfl
    rw [← this]
  · have hk : ∀ (id n : Int) (S : wh.St), (id = 1 ∨ id = 2 ∨ id = 3) → (∀ x ∈ S.L, x.1 = 1 ∨ x.1 = 2 ∨ x.1 = 3) → ∀ x ∈ (S.set id n).L, x.1 = 1 ∨ x.1 = 2 ∨ x.1 = 3 := by
      intro id n S hi hS x hx
      unfold wh.St.set at hx
      split at hx
      · rcases wh.mem_insL.1 hx with rfl | hx
        · exact hi
        · exact hS x (wh.mem_delL.1 hx).1
      · exact hS x hx
    exact hk 3 c.sync _ (by omega) (hk 2 c.gossip _ (by omega) (hk 1 c.period wh.St.new (by omega) (fun x hx => by cases hx)))
theorem Alone.takes {i j : Nat} {o r : Int} {s : Sw} (h : Alone i j o r s) : s.takes = ([], s.q) := by
  unfold Sw.takes ru.Qu.take
  rw [h.q]
  simp only [List.take_nil, List.map_nil]
  have : s.q = ⟨s.q.mult, [], s.q.clock⟩ := by rw [← h.q]
  conv => rhs; rw [this]
  have e : ru.left s.c.piggy.toNat (ru.limitQ s.q.mult (s.live.length : Nat)) [] = [] := by simp [ru.left]
  rw [e]
  rfl
theorem Alone.view {i j : Nat} {o r : Int} {s : Sw} (hd : Duo o r) (h : Alone i j o r s) : s.view = [upOf i j o] := by
  unfold Sw.view ro.listTo
  rw [h.T]
  rcases hd with ⟨rfl, rfl⟩ | ⟨rfl, rfl⟩ <;> rfl
end Go.Proofs.YtaicipldjmngaaaGreatDoor.sw
