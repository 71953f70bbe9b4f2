/-
  A number as a key of sixteen digits; how a table by such keys and the document's sessions hang together, whatever the rows' value (layer 18). Nothing of any program stands here.
-/
import Derived.Test.YtnobpbbedclbkaaZj8
namespace Go.Proofs.Ytnobpbbedclbkaa
open Go Go.RowKit
set_option linter.unusedSimpArgs false
set_option linter.unusedVariables false

/-! ### Keys -/
/-- The n lowest digits of a number, the greatest first. -/
def digsS (d : Nat → UInt8) : Nat → Nat → List UInt8
  | 0, _ => []
  | n + 1, i => digsS d n (i / 16) ++ [d (i % 16)]
def keyS (d : Nat → UInt8) (i : Nat) : ByteArray := ⟨(digsS d 16 i).toArray⟩
theorem digs_len (d : Nat → UInt8) : ∀ n i, (digsS d n i).length = n
  | 0, _ => rfl
  | n + 1, i => by
    unfold digsS
    rw [List.length_append, digs_len d n]
    rfl
theorem lex_left : ∀ {a b x y : List UInt8}, a.length = b.length → a < b → a ++ x < b ++ y
  | [], [], _, _, _, h => absurd h (List.lt_irrefl _)
  | [], _ :: _, _, _, h, _ => by simp at h
  | _ :: _, [], _, _, h, _ => by simp at h
  | p :: a, q :: b, x, y, h, k => by
    rw [List.cons_lt_cons_iff] at k
    rw [List.cons_append, List.cons_append, List.cons_lt_cons_iff]
    rcases k with k | ⟨k1, k2⟩
    · exact .inl k
    · exact .inr ⟨k1, lex_left (by simpa using h) k2⟩
theorem lex_right : ∀ (a : List UInt8) {x y : List UInt8}, x < y → a ++ x < a ++ y
  | [], _, _, h => h
  | p :: a, x, y, h => by
    rw [List.cons_append, List.cons_append, List.cons_lt_cons_iff]
    exact .inr ⟨rfl, lex_right a h⟩
theorem digs_lt {d : Nat → UInt8} (hd : ∀ a b, a < b → b < 16 → d a < d b) : ∀ n i j, i < j → j < 16 ^ n → digsS d n i < digsS d n j
  | 0, i, j, h, k => by simp at k; omega
  | n + 1, i, j, h, k => by
    unfold digsS
    rw [Nat.pow_succ] at k
    by_cases e : i / 16 = j / 16
    · rw [e]
      refine lex_right _ ?_
      rw [List.cons_lt_cons_iff]
      exact .inl (hd _ _ (by omega) (Nat.mod_lt _ (by decide)))
    · exact lex_left (by rw [digs_len, digs_len]) (digs_lt hd n _ _ (by omega) (by omega))
theorem keyS_lt {d : Nat → UInt8} (hd : ∀ a b, a < b → b < 16 → d a < d b) {i j : Nat} (h : i < j) (hj : j < 18446744073709551616) : ltT (keyS d i) (keyS d j) = true :=
  (ltT_iff _ _).2 (by
    have := digs_lt hd 16 i j h (by omega)
    simpa [keyS] using this)
theorem keyS_inj {d : Nat → UInt8} (hd : ∀ a b, a < b → b < 16 → d a < d b) {i j : Nat} (hi : i < 18446744073709551616) (hj : j < 18446744073709551616) (h : keyS d i = keyS d j) : i = j := by
  rcases Nat.lt_trichotomy i j with q | q | q
  · exact absurd h (ltT_ne (keyS_lt hd q hj))
  · exact q
  · exact absurd h.symm (ltT_ne (keyS_lt hd q hi))
theorem keyS_ord {d : Nat → UInt8} (hd : ∀ a b, a < b → b < 16 → d a < d b) {i j : Nat} (hi : i < 18446744073709551616) (hj : j < 18446744073709551616) (h : ltT (keyS d i) (keyS d j) = true) : i < j := by
  rcases Nat.lt_trichotomy i j with q | q | q
  · exact q
  · subst q; rw [ltT_irr] at h; cases h
  · rw [ltT_asymm (keyS_lt hd q hi)] at h; cases h
theorem keyS_size (d : Nat → UInt8) (i : Nat) : (keyS d i).size = 16 := by
  unfold keyS
  show (digsS d 16 i).toArray.size = 16
  rw [List.size_toArray, digs_len]
/-! ### The table and the sessions -/
section
variable {α : Type} {d : Nat → UInt8} {nd : α → Int}
/-- What a row says. -/
def snOf (nd : α → Int) (r : Rw α) : Sn := ⟨r.made, nd r.val, r.made, r.ix⟩
structure SsRel (d : Nat → UInt8) (nd : α → Int) (T : Tb α) (t : Sm) : Prop where
  ok : SmOk t
  tok : T.Ok
  most : T.most = t.most
  last : T.last = t.last
  key : ∀ r ∈ T.l, r.key = keyS d r.made
  rows : T.l.map (snOf nd) = t.l
variable {T : Tb α} {t : Sm}
theorem SsRel.new (m : Int) : SsRel d nd ⟨mostT m, [], 0⟩ ⟨mostT m, [], 0⟩ :=
  ⟨SmOk.new _ (mostT_le m), Tb.Ok.new m, rfl, rfl, by simp, rfl⟩
theorem SsRel.len (h : SsRel d nd T t) : T.l.length = t.l.length := by rw [← h.rows, List.length_map]
theorem SsRel.mem (h : SsRel d nd T t) {r : Rw α} (hr : r ∈ T.l) : snOf nd r ∈ t.l := by rw [← h.rows]; exact List.mem_map_of_mem hr
theorem SsRel.get (h : SsRel d nd T t) (hd : ∀ a b, a < b → b < 16 → d a < d b) {id : Nat} (hi : id < 18446744073709551616) : (getR T.l (keyS d id)).map (snOf nd) = getS t.l id := by
  cases e : getR T.l (keyS d id) with
  | none =>
    refine (getS_none.2 fun j hj e2 => ?_).symm
    have hm : t.l[j] ∈ T.l.map (snOf nd) := by rw [h.rows]; exact List.getElem_mem hj
    obtain ⟨r, hr, e3⟩ := List.mem_map.1 hm
    unfold getR at e
    rw [List.find?_eq_none] at e
    have := e r hr
    rw [text_same, h.key r hr] at this
    rw [← e3] at e2
    exact this (by rw [show r.made = id from e2])
  | some r =>
    have hr : r ∈ T.l := by unfold getR at e; exact List.mem_of_find?_eq_some e
    have hk : r.key = keyS d id := by unfold getR at e; exact text_same.1 (by simpa using List.find?_some e)
    have hm := h.mem hr
    have hlt := (h.ok.all _ hm).2.2.2.2
    rw [h.key r hr] at hk
    have e2 : (snOf nd r).id = id := keyS_inj hd hlt hi hk
    have h9 := h.ok.sorted.get hm
    rw [e2] at h9
    rw [h9]
    rfl
/-- Keys that rise are numbers that rise. -/
theorem rise_rows (hd : ∀ a b, a < b → b < 16 → d a < d b) {l : List (Rw α)} (hs : SR l) (hk : ∀ r ∈ l, r.key = keyS d r.made) (hm : ∀ r ∈ l, r.made < 18446744073709551616) : SS (l.map (snOf nd)) := by
  unfold SS SR at *
  rw [List.pairwise_map]
  rw [List.pairwise_iff_getElem] at hs ⊢
  intro i j hi hj hij
  have := hs i j hi hj hij
  rw [hk _ (List.getElem_mem hi), hk _ (List.getElem_mem hj)] at this
  exact keyS_ord hd (hm _ (List.getElem_mem hi)) (hm _ (List.getElem_mem hj)) this
theorem SsRel.put (h : SsRel d nd T t) (hd : ∀ a b, a < b → b < 16 → d a < d b) {v : α} {i : Nat} (hi : i < 18446744073709551616) (hb : nodeB (nd v) = true) (h0 : i ≠ 0) (hg : getS t.l i = none) :
    (T.fullB (keyS d i) = true ∧ t.openS (nd v) i = ((0, 5), t)) ∨ (T.fullB (keyS d i) = false ∧ (t.openS (nd v) i).1 = (i, 0) ∧ SsRel d nd (T.put (keyS d i) v i) (t.openS (nd v) i).2) := by
  have hlen := h.len
  have e1 : getR T.l (keyS d i) = none := by
    have := h.get hd hi
    rw [hg, Option.map_eq_none_iff] at this
    exact this
  have hc : ¬ (nodeB (nd v) = false ∨ i = 0) := by rw [hb]; simp [h0]
  by_cases hf : t.most ≤ t.l.length
  · refine .inl ⟨?_, ?_⟩
    · unfold Tb.fullB
      rw [e1, h.most, hlen, decide_eq_true hf]
      rfl
    · unfold Ls.openS
      rw [if_neg hc, hg]
      simp only [if_pos hf]
  · have hfb : T.fullB (keyS d i) = false := by
      unfold Tb.fullB
      rw [e1, h.most, hlen, decide_eq_false hf]
      rfl
    have hnf : ¬ T.full (keyS d i) := fun e => hf (by have := e.2; rw [h.most, hlen] at this; exact this)
    have ho : t.openS (nd v) i = ((i, 0), Ls.raise { t with l := insS (newS (nd v) i) t.l } i) := by
      unfold Ls.openS
      rw [if_neg hc, hg]
      simp only [if_neg hf]
    have hok := h.ok.open_ (node := nd v) hi
    rw [ho] at hok
    have hrow : T.row (keyS d i) v i = ⟨keyS d i, v, i, i⟩ := by unfold Tb.row; rw [e1]; rfl
    have htok := h.tok.put (keyS d i) v hi (by rw [keyS_size]; unfold maxLen; omega) hnf
    have hkey : ∀ r ∈ (T.put (keyS d i) v i).l, r.key = keyS d r.made := fun r hr => by
      unfold Tb.put at hr
      rw [hrow] at hr
      rcases mem_lay hr with rfl | hr
      · rfl
      · exact h.key r hr
    have hmade : ∀ r ∈ (T.put (keyS d i) v i).l, r.made < 18446744073709551616 := fun r hr => by
      unfold Tb.put at hr
      rw [hrow] at hr
      rcases mem_lay hr with rfl | hr
      · exact hi
      · exact (h.ok.all _ (h.mem hr)).2.2.2.2
    refine .inr ⟨hfb, by rw [ho], ⟨by rw [ho]; exact hok, htok, by rw [ho]; exact h.most, ?_, hkey, ?_⟩⟩
    · rw [ho]
      show max T.last i = max t.last i
      rw [h.last]
    · rw [ho]
      refine SS.ext (rise_rows hd htok.rise hkey hmade) hok.sorted fun x => ?_
      show x ∈ (T.put (keyS d i) v i).l.map (snOf nd) ↔ x ∈ insS (newS (nd v) i) t.l
      have hn : ¬ hasR T.l (keyS d i) := fun e => by rw [get_some h.tok.rise e] at e1; cases e1
      have hp : (T.put (keyS d i) v i).l = T.l.take (plc T.l (keyS d i)) ++ ⟨keyS d i, v, i, i⟩ :: T.l.drop (plc T.l (keyS d i)) := by
        unfold Tb.put
        rw [hrow]
        exact lay_new ⟨keyS d i, v, i, i⟩ h.tok.rise hn
      rw [hp, List.map_append, List.map_cons, insS_mem, ← h.rows, List.mem_append, List.mem_cons]
      have hsp : x ∈ T.l.map (snOf nd) ↔ x ∈ (T.l.take (plc T.l (keyS d i))).map (snOf nd) ∨ x ∈ (T.l.drop (plc T.l (keyS d i))).map (snOf nd) := by
        rw [← List.mem_append, ← List.map_append, List.take_append_drop]
      rw [hsp]
      show _ ∨ x = newS (nd v) i ∨ _ ↔ _
      constructor
      · rintro (q | q | q)
        · exact .inr (.inl q)
        · exact .inl q
        · exact .inr (.inr q)
      · rintro (q | q | q)
        · exact .inr (.inl q)
        · exact .inl q
        · exact .inr (.inr q)
theorem SsRel.drop_ (h : SsRel d nd T t) (hd : ∀ a b, a < b → b < 16 → d a < d b) {id i : Nat} (hid : id < 18446744073709551616) (hi : i < 18446744073709551616) {x : Sn} (hg : getS t.l id = some x) : SsRel d nd (T.drop (keyS d id) i) (t.closeS id i).2 := by
  have hc : t.closeS id i = (0, Ls.raise { t with l := offS t.l id } i) := by
    unfold Ls.closeS
    rw [hg]
  have hok := h.ok.close_ (id := id) hi
  rw [hc] at hok ⊢
  refine ⟨hok, h.tok.drop _ hi, h.most, ?_, fun r hr => h.key r (mem_off.1 hr).1, ?_⟩
  · show max T.last i = max t.last i
    rw [h.last]
  · show (offR T.l (keyS d id)).map (snOf nd) = offS t.l id
    rw [← h.rows]
    unfold offR offS
    rw [List.filter_map]
    congr 1
    apply List.filter_congr
    intro r hr
    have hlt := (h.ok.all _ (h.mem hr)).2.2.2.2
    rw [h.key r hr, Bool.eq_iff_iff]
    simp only [Bool.not_eq_true', Function.comp, bne_iff_ne, ne_eq, snOf]
    rw [← Bool.not_eq_true, text_same]
    constructor
    · exact fun q e => q (by rw [e])
    · exact fun q e => q (keyS_inj hd hlt hid e)
theorem SsRel.raise (h : SsRel d nd T t) {i : Nat} (hi : i < 18446744073709551616) : SsRel d nd (T.raise i) (t.raise i) :=
  ⟨h.ok.raise hi, h.tok.raise hi, h.most, by show max T.last i = max t.last i; rw [h.last], h.key, h.rows⟩
end
end Go.Proofs.Ytnobpbbedclbkaa
