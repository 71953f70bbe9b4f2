/-
  How a table of rules by keys and the document's intentions hang together, in plain words (layer 17). Nothing of any program stands here.
-/
import Derived.Test.YtmegfkclpjddgaaZj12
namespace Go.Proofs.Ytmegfkclpjddgaa
open Go Go.RowKit
set_option linter.unusedSimpArgs false
set_option linter.unusedVariables false

/-- A rule: what a row's value has. -/
structure Rl where
  src : ByteArray
  dst : ByteArray
  allow : Bool
/-- The key of an intention. -/
def keyI (s d : ByteArray) : ByteArray := d ++ ⟨#[47]⟩ ++ s
def irOf (r : Rw Rl) : Ir := ⟨r.val.src, r.val.dst, r.val.allow, r.made, r.ix⟩
theorem split_uniq {x : UInt8} : ∀ {a b c d : List UInt8}, x ∉ a → x ∉ c → a ++ x :: b = c ++ x :: d → a = c ∧ b = d
  | [], b, [], d, _, _, h => by simpa using h
  | [], b, y :: c, d, _, h2, h => by
    simp only [List.nil_append, List.cons_append, List.cons.injEq] at h
    exact absurd (h.1 ▸ List.mem_cons_self) h2
  | y :: a, b, [], d, h1, _, h => by
    simp only [List.nil_append, List.cons_append, List.cons.injEq] at h
    exact absurd (h.1 ▸ List.mem_cons_self) h1
  | y :: a, b, z :: c, d, h1, h2, h => by
    simp only [List.cons_append, List.cons.injEq] at h
    obtain ⟨e1, e2⟩ := split_uniq (fun e => h1 (List.mem_cons_of_mem _ e)) (fun e => h2 (List.mem_cons_of_mem _ e)) h.2
    exact ⟨by rw [h.1, e1], e2⟩
theorem pat_slash {l : List UInt8} (h : patternB l = true) : (47 : UInt8) ∉ l := by
  intro m
  unfold patternB at h
  rw [Bool.or_eq_true] at h
  rcases h with h | h
  · rw [beq_iff_eq] at h
    subst h
    simp at m
  · unfold rightB at h
    simp only [Bool.and_eq_true, decide_eq_true_eq, Bool.not_eq_true'] at h
    have := ((spells_of _ _).1 h.1.1.2).2 47 m
    simp [okB, plainB] at this
theorem keyI_data (s d : ByteArray) : (keyI s d).data.toList = d.data.toList ++ 47 :: s.data.toList := by
  unfold keyI
  simp
theorem keyI_inj {s d s' d' : ByteArray} (h1 : patternB d.data.toList = true) (h2 : patternB d'.data.toList = true) (h : keyI s d = keyI s' d') : s = s' ∧ d = d' := by
  have e := congrArg (fun x : ByteArray => x.data.toList) h
  simp only [keyI_data] at e
  obtain ⟨a, b⟩ := split_uniq (pat_slash h1) (pat_slash h2) e
  exact ⟨ByteArray.ext (Array.ext' b), ByteArray.ext (Array.ext' a)⟩
/-! ### Lists -/
theorem erase_perm {α : Type} {l : List α} {k : Nat} (h : k < l.length) : l.Perm (l[k] :: l.eraseIdx k) := by
  rw [List.eraseIdx_eq_take_drop_succ]
  have e : l = l.take k ++ l[k] :: l.drop (k + 1) := by simp
  conv => lhs; rw [e]
  exact List.perm_middle
theorem set_perm {α : Type} {l : List α} {k : Nat} (h : k < l.length) (x : α) : (l.set k x).Perm (x :: l.eraseIdx k) := by
  rw [List.eraseIdx_eq_take_drop_succ, List.set_eq_take_append_cons_drop, if_pos h]
  exact List.perm_middle
theorem modify_perm {α : Type} {l : List α} {k : Nat} (h : k < l.length) (f : α → α) : (l.modify k f).Perm (f l[k] :: l.eraseIdx k) := by
  rw [List.eraseIdx_eq_take_drop_succ, List.modify_eq_take_cons_drop h]
  exact List.perm_middle
theorem insI_perm (x : Ir) (l : List Ir) : (insI x l).Perm (x :: l) := by
  induction l with
  | nil => exact .refl _
  | cons a l ih =>
    unfold insI
    split
    · exact .refl _
    · exact (ih.cons a).trans (.swap _ _ _)
theorem getR_has {α : Type} {l : List (Rw α)} (hs : SR l) {k : ByteArray} {r : Rw α} (h : getR l k = some r) : ∃ hk : plc l k < l.length, l[plc l k] = r ∧ r.key = k := by
  rw [get_plc hs] at h
  split at h
  · rename_i hl
    split at h
    · rename_i e
      cases h
      exact ⟨hl, rfl, e⟩
    · cases h
  · cases h
theorem off_perm {α : Type} {l : List (Rw α)} (hs : SR l) {k : ByteArray} {r : Rw α} (h : getR l k = some r) : l.Perm (r :: offR l k) := by
  obtain ⟨hk, rfl, e⟩ := getR_has hs h
  rw [off_has hs ⟨hk, e⟩]
  exact erase_perm hk
theorem lay_perm {α : Type} {l : List (Rw α)} (hs : SR l) {y r : Rw α} (h : getR l y.key = some r) : (layR y false l).Perm (y :: offR l y.key) := by
  obtain ⟨hk, _, e⟩ := getR_has hs h
  subst_vars
  rw [lay_old y hs ⟨hk, e⟩, off_has hs ⟨hk, e⟩]
  exact set_perm hk _
theorem lay_perm' {α : Type} {l : List (Rw α)} (hs : SR l) {y : Rw α} (h : getR l y.key = none) : (layR y false l).Perm (y :: l) := by
  have hn : ¬ hasR l y.key := fun e => by rw [get_some hs e] at h; cases h
  rw [lay_new y hs hn]
  refine List.perm_middle.trans ?_
  rw [List.take_append_drop]
/-! ### What a table of rules says -/
structure InRel (T : Tb Rl) (t : Im) : Prop where
  ok : ImOk t
  tok : T.Ok
  most : T.most = t.most
  last : T.last = t.last
  key : ∀ r ∈ T.l, r.key = keyI r.val.src r.val.dst
  perm : (T.l.map irOf).Perm t.l
theorem InRel.new (m : Int) : InRel ⟨mostT m, [], 0⟩ ⟨mostT m, [], 0⟩ :=
  ⟨⟨mostT_le m, Nat.zero_le _, .nil, by simp, by simp, by simp⟩, Tb.Ok.new m, rfl, rfl, by simp, .refl _⟩
section
variable {T : Tb Rl} {t : Im} {s d : ByteArray}
theorem InRel.len (h : InRel T t) : T.l.length = t.l.length := by
  have := h.perm.length_eq
  rwa [List.length_map] at this
theorem InRel.mem (h : InRel T t) {r : Rw Rl} (hr : r ∈ T.l) : irOf r ∈ t.l := h.perm.mem_iff.1 (List.mem_map_of_mem hr)
theorem SI.place {l : List Ir} (h : SI l) {k : Nat} (hk : k < l.length) (e : samI l[k] s d = true) : findI l s d = some k := by
  refine findI_some hk e fun j hj => ?_
  have := ahead_diff (List.pairwise_iff_getElem.1 h j k (by omega) hk hj)
  obtain ⟨e1, e2⟩ := sam_iff.1 e
  rw [e1, e2] at this
  exact this
theorem InRel.find_ (h : InRel T t) (hp : patsI s d = true) : (getR T.l (keyI s d) = none ∧ findI t.l s d = none) ∨ ∃ r k, ∃ hk : k < t.l.length, getR T.l (keyI s d) = some r ∧ findI t.l s d = some k ∧ t.l[k] = irOf r := by
  unfold patsI at hp
  rw [Bool.and_eq_true] at hp
  cases e : getR T.l (keyI s d) with
  | none =>
    refine .inl ⟨rfl, findI_none fun j hj => ?_⟩
    rw [Bool.eq_false_iff]
    intro z
    obtain ⟨r, hr, e2⟩ := List.mem_map.1 (h.perm.mem_iff.2 (List.getElem_mem hj))
    rw [← e2] at z
    obtain ⟨e3, e4⟩ := sam_iff.1 z
    unfold getR at e
    rw [List.find?_eq_none] at e
    have := e r hr
    rw [text_same, h.key r hr] at this
    exact this (by rw [show r.val.src = s from e3, show r.val.dst = d from e4])
  | some r =>
    obtain ⟨hk, e1, e2⟩ := getR_has h.tok.rise e
    have hr : r ∈ T.l := e1 ▸ List.getElem_mem hk
    have hm := h.mem hr
    have hpr := h.ok.pats _ hm
    unfold patsI at hpr
    rw [Bool.and_eq_true] at hpr
    rw [h.key r hr] at e2
    obtain ⟨a, b⟩ := keyI_inj hpr.2 hp.2 e2
    obtain ⟨k, hk2, e3⟩ := List.getElem_of_mem hm
    exact .inr ⟨r, k, hk2, rfl, h.ok.sorted.place hk2 (by rw [e3]; exact sam_iff.2 ⟨a, b⟩), e3⟩
/-- What laying makes of intentions. -/
def Ls.layI (t : Im) (s d : ByteArray) (b : Bool) (i : Nat) : Nat × Im :=
  match findI t.l s d with
  | some k => (0, Ls.raise { t with l := t.l.modify k fun x => { x with allow := b, ix := i } } i)
  | none => if t.most ≤ t.l.length then (5, t) else (0, Ls.raise { t with l := insI ⟨s, d, b, i, i⟩ t.l } i)
theorem patsI_size {s d : ByteArray} (h : patsI s d = true) : s.size ≤ 24 ∧ d.size ≤ 24 := by
  have one : ∀ x : ByteArray, patternB x.data.toList = true → x.size ≤ 24 := fun x hx => by
    unfold patternB at hx
    rw [Bool.or_eq_true] at hx
    have e : x.size = x.data.toList.length := Array.length_toList.symm
    rw [e]
    rcases hx with hx | hx
    · rw [beq_iff_eq] at hx
      rw [hx]; decide
    · unfold rightB at hx
      simp only [Bool.and_eq_true, decide_eq_true_eq] at hx
      exact hx.1.1.1
  unfold patsI at h
  rw [Bool.and_eq_true] at h
  exact ⟨one s h.1, one d h.2⟩
theorem keyI_size (s d : ByteArray) : (keyI s d).size = d.size + 1 + s.size := by
  unfold keyI
  rw [ByteArray.size_append, ByteArray.size_append]
  rfl
theorem InRel.lay (h : InRel T t) (hp : patsI s d = true) (b : Bool) {i : Nat} (hi : i < 18446744073709551616) :
    (T.fullB (keyI s d) = true ∧ t.layI s d b i = (5, t)) ∨ (T.fullB (keyI s d) = false ∧ (t.layI s d b i).1 = 0 ∧ InRel (T.put (keyI s d) ⟨s, d, b⟩ i) (t.layI s d b i).2) := by
  have hsz := patsI_size hp
  have hks : (keyI s d).size ≤ maxLen := by rw [keyI_size]; unfold maxLen; omega
  have hsd : s.size ≤ maxLen ∧ d.size ≤ maxLen := by unfold maxLen; omega
  have hlen := h.len
  rcases h.find_ hp with ⟨e1, e2⟩ | ⟨r, k, hk, e1, e2, e3⟩
  · by_cases hf : t.most ≤ t.l.length
    · refine .inl ⟨?_, ?_⟩
      · unfold Tb.fullB
        rw [e1, h.most, hlen, decide_eq_true hf]
        rfl
      · unfold Ls.layI
        rw [e2]
        simp only [if_pos hf]
    · have hfb : T.fullB (keyI s d) = false := by
        unfold Tb.fullB
        rw [e1, h.most, hlen, decide_eq_false hf]
        rfl
      refine .inr ⟨hfb, ?_⟩
      have hnf : ¬ T.full (keyI s d) := fun e => hf (by have := e.2; rw [h.most, hlen] at this; exact this)
      have hl : t.layI s d b i = (0, Ls.raise { t with l := insI ⟨s, d, b, i, i⟩ t.l } i) := by
        unfold Ls.layI
        rw [e2]
        simp only [if_neg hf]
      have ha : t.addI s d b i = t.layI s d b i := by
        rw [hl]
        unfold Ls.addI
        rw [if_neg (by rw [hp]; simp), e2]
        simp only [if_neg hf]
      have hok := h.ok.add (s := s) (d := d) (b := b) hsd.1 hsd.2 hi
      rw [ha] at hok
      have hrow : T.row (keyI s d) ⟨s, d, b⟩ i = ⟨keyI s d, ⟨s, d, b⟩, i, i⟩ := by unfold Tb.row; rw [e1]; rfl
      refine ⟨by rw [hl], ⟨hok, h.tok.put _ _ hi hks hnf, ?_, ?_, ?_, ?_⟩⟩
      · rw [hl]; exact h.most
      · rw [hl]
        show max T.last i = max t.last i
        rw [h.last]
      · intro x hx
        unfold Tb.put at hx
        rw [hrow] at hx
        rcases mem_lay hx with rfl | hx
        · rfl
        · exact h.key x hx
      · rw [hl]
        show ((layR (T.row (keyI s d) ⟨s, d, b⟩ i) false T.l).map irOf).Perm (insI ⟨s, d, b, i, i⟩ t.l)
        rw [hrow]
        refine ((lay_perm' (y := ⟨keyI s d, ⟨s, d, b⟩, i, i⟩) h.tok.rise e1).map irOf).trans ?_
        rw [List.map_cons]
        exact (h.perm.cons _).trans (insI_perm _ _).symm
  · have hfb : T.fullB (keyI s d) = false := by
      unfold Tb.fullB
      rw [e1]
      rfl
    refine .inr ⟨hfb, ?_⟩
    have hnf : ¬ T.full (keyI s d) := fun e => by have := e.1; rw [e1] at this; cases this
    have hl : t.layI s d b i = (0, Ls.raise { t with l := t.l.modify k fun x => { x with allow := b, ix := i } } i) := by
      unfold Ls.layI
      rw [e2]
    obtain ⟨hkk, e5, e4⟩ := getR_has h.tok.rise e1
    have hrm : r ∈ T.l := e5 ▸ List.getElem_mem hkk
    obtain ⟨sm, dm⟩ : r.val.src = s ∧ r.val.dst = d := by
      obtain ⟨_, z, _⟩ := findI_at e2
      rw [e3] at z
      exact sam_iff.1 z
    have hok : ImOk (t.layI s d b i).2 := by
      have h0 := h.ok.turn (s := s) (d := d) (b := b) (old := 0) hi
      have ea : t.askI s d 0 = (k, 0) := by
        unfold Ls.askI
        rw [if_neg (by rw [hp]; simp), e2]
        simp
      unfold Ls.turnI at h0
      rw [ea] at h0
      rw [hl]
      exact h0
    have hrow : T.row (keyI s d) ⟨s, d, b⟩ i = ⟨keyI s d, ⟨s, d, b⟩, r.made, i⟩ := by unfold Tb.row; rw [e1]; rfl
    refine ⟨by rw [hl], ⟨hok, h.tok.put _ _ hi hks hnf, ?_, ?_, ?_, ?_⟩⟩
    · rw [hl]; exact h.most
    · rw [hl]
      show max T.last i = max t.last i
      rw [h.last]
    · intro x hx
      unfold Tb.put at hx
      rw [hrow] at hx
      rcases mem_lay hx with rfl | hx
      · rfl
      · exact h.key x hx
    · rw [hl]
      show ((layR (T.row (keyI s d) ⟨s, d, b⟩ i) false T.l).map irOf).Perm (t.l.modify k fun x => { x with allow := b, ix := i })
      rw [hrow]
      refine ((lay_perm (y := ⟨keyI s d, ⟨s, d, b⟩, r.made, i⟩) h.tok.rise e1).map irOf).trans ?_
      rw [List.map_cons]
      refine .trans ?_ (modify_perm hk _).symm
      have ee : irOf ⟨keyI s d, ⟨s, d, b⟩, r.made, i⟩ = { t.l[k] with allow := b, ix := i } := by
        rw [e3]
        unfold irOf
        simp only
        rw [sm, dm]
      rw [← ee]
      refine List.Perm.cons _ ?_
      have h1 := ((off_perm h.tok.rise e1).map irOf).symm.trans (h.perm.trans (erase_perm hk))
      rw [List.map_cons, e3] at h1
      exact h1.cons_inv
theorem InRel.drop_ (h : InRel T t) (hp : patsI s d = true) {k : Nat} (hf : findI t.l s d = some k) {i : Nat} (hi : i < 18446744073709551616) : InRel (T.drop (keyI s d) i) (Ls.raise { t with l := t.l.eraseIdx k } i) := by
  rcases h.find_ hp with ⟨_, e2⟩ | ⟨r, k', hk, e1, e2, e3⟩
  · rw [e2] at hf; cases hf
  · rw [e2] at hf
    cases hf
    have hok : ImOk (Ls.raise { t with l := t.l.eraseIdx k } i) := by
      have h0 := h.ok.drop (s := s) (d := d) (old := 0) hi
      have ea : t.askI s d 0 = (k, 0) := by
        unfold Ls.askI
        rw [if_neg (by rw [hp]; simp), e2]
        simp
      unfold Ls.dropI at h0
      rw [ea] at h0
      exact h0
    refine ⟨hok, h.tok.drop _ hi, h.most, ?_, fun x hx => h.key x (mem_off.1 hx).1, ?_⟩
    · show max T.last i = max t.last i
      rw [h.last]
    · show ((offR T.l (keyI s d)).map irOf).Perm (t.l.eraseIdx k)
      have h1 := ((off_perm h.tok.rise e1).map irOf).symm.trans (h.perm.trans (erase_perm hk))
      rw [List.map_cons, e3] at h1
      exact h1.cons_inv
theorem InRel.raise (h : InRel T t) {i : Nat} (hi : i < 18446744073709551616) : InRel (T.raise i) (t.raise i) :=
  ⟨h.ok.raise hi, h.tok.raise hi, h.most, by show max T.last i = max t.last i; rw [h.last], h.key, h.perm⟩
end
end Go.Proofs.Ytmegfkclpjddgaa
