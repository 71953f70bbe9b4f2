/-
  A region that draws its order, walked ONCE, operation by operation (own law, of whatever program): each operation is shown alone, from what is known of the values of the operations that it must follow; what is known of a value (R) must outlast what the other operations do (Le).
-/
import Derived.RegionTactic
import Derived.Below
namespace Go.Rel
open Go Go.RowKit

section
variable {P : Program} {ops : Array Oper} {Q : Exit → Act → World → Prop}

/-- One operation; what follows is K. -/
def stepOf (P : Program) (ops : Array Oper) (Q : Exit → Act → World → Prop) (o : Oper) (K : Act → World → Prop) (a : Act) (w : World) : Prop :=
  if Region.wanted o (yielded ops a.tmps) = true then Oper.wp P o a w K Q else K (a.put o.dst undef) w
theorem stepOf_mono {o : Oper} {K K' : Act → World → Prop} {a : Act} {w : World} (h : ∀ a w, K a w → K' a w) (hs : stepOf P ops Q o K a w) : stepOf P ops Q o K' a w := by
  unfold stepOf at *
  split
  · rename_i hw; rw [if_pos hw] at hs; exact Oper.wp_mono h hs
  · rename_i hw; rw [if_neg hw] at hs; exact h _ _ hs

theorem count_set : ∀ (l : List Bool) (i : Nat), l[i]? = some false → (l.set i true).count false + 1 = l.count false
  | [], _, h => by simp at h
  | b :: l, 0, h => by
    obtain rfl : b = false := by simpa using h
    simp
  | b :: l, i + 1, h => by
    have := count_set l i (by simpa using h)
    rw [List.set_cons_succ, List.count_cons, List.count_cons]
    omega

theorem wpAny_inv {md : Region.Mode} (J : Array Bool → Act → World → Prop)
    (hstep : ∀ listed a w i o, listed.size = ops.size → J listed a w → ops[i]? = some o → i ∈ Region.ready md ops listed → stepOf P ops Q o (J (listed.setIfInBounds i true)) a w)
    (hend : ∀ listed a w, listed.size = ops.size → J listed a w → Region.ready md ops listed = [] → Q .normal a w) :
    ∀ (fuel : Nat) (listed : Array Bool) (a : Act) (w : World), listed.size = ops.size → listed.toList.count false ≤ fuel → J listed a w → wpAny P md ops Q fuel listed a w := by
  intro fuel
  induction fuel with
  | zero =>
    intro listed a w hsz hc hJ
    have hr : Region.ready md ops listed = [] := by
      rw [List.eq_nil_iff_forall_not_mem]
      intro j hj
      obtain ⟨h0, o, ho, _⟩ := mem_ready.1 hj
      have hlt : j < listed.size := by rw [hsz]; exact (Array.getElem?_eq_some_iff.1 ho).1
      have hf : false ∈ listed.toList := by
        rw [Array.getD_eq_getD_getElem?, Array.getElem?_eq_getElem hlt] at h0
        simp only [Option.getD_some] at h0
        rw [← h0]
        simp
      have := List.count_pos_iff.2 hf
      omega
    exact ⟨hr, hend _ _ _ hsz hJ hr⟩
  | succ fuel ih =>
    intro listed a w hsz hc hJ
    refine ⟨fun hr => hend _ _ _ hsz hJ hr, fun i hi => ?_⟩
    obtain ⟨h0, o, ho, _⟩ := mem_ready.1 hi
    have hlt : i < listed.size := by rw [hsz]; exact (Array.getElem?_eq_some_iff.1 ho).1
    have hif : listed.toList[i]? = some false := by
      rw [Array.getD_eq_getD_getElem?, Array.getElem?_eq_getElem hlt] at h0
      simp only [Option.getD_some] at h0
      rw [Array.getElem?_toList, Array.getElem?_eq_getElem hlt, h0]
    have hcnt := count_set listed.toList i hif
    refine wpOp_step ho fun K' hK' => ?_
    exact stepOf_mono (fun a w hj => hK' a w (ih _ a w (by rw [Array.size_setIfInBounds]; exact hsz) (by rw [Array.toList_setIfInBounds]; omega) hj)) (hstep listed a w i o hsz hJ ho hi)

/-- All edges that bind lead back. -/
def orderly (ops : Array Oper) : Bool := (List.range ops.size).all fun i => ((ops[i]?).map fun o => o.after.toList.all fun e => !Region.binds .any e || decide (e.on < i)).getD true
/-- The slots that the region writes are written once each. -/
def onceEach (ops : Array Oper) : Bool := (List.range ops.size).all fun i => (List.range ops.size).all fun j => i == j || ((ops[i]?).bind (·.dst)).isNone || ((ops[i]?).bind (·.dst)) != ((ops[j]?).bind (·.dst))
theorem onceEach_spec (h : onceEach ops = true) {i j : Nat} {o o' : Oper} (hi : ops[i]? = some o) (hj : ops[j]? = some o') (hne : i ≠ j) {t : Tmp} (ht : o.dst = some t) : o'.dst ≠ some t := by
  have hli := (Array.getElem?_eq_some_iff.1 hi).1
  have hlj := (Array.getElem?_eq_some_iff.1 hj).1
  have h1 := List.all_eq_true.1 h i (List.mem_range.2 hli)
  have h2 := List.all_eq_true.1 h1 j (List.mem_range.2 hlj)
  intro e
  simp [hi, hj, ht, e, hne] at h2

theorem all_listed (h : orderly ops = true) {listed : Array Bool} (hsz : listed.size = ops.size) (hr : Region.ready .any ops listed = []) : ∀ i, i < ops.size → listed.getD i false = true := by
  intro i
  induction i using Nat.strongRecOn with
  | ind i ih =>
    intro hi
    cases hb : listed.getD i false with
    | true => rfl
    | false =>
      exfalso
      have hl : i < listed.size := by rw [hsz]; exact hi
      have hmem : i ∈ Region.ready .any ops listed := by
        rw [mem_ready]
        refine ⟨?_, ops[i], Array.getElem?_eq_getElem hi, fun e he hbd => ?_⟩
        · rw [Array.getD_eq_getD_getElem?, Array.getElem?_eq_getElem hl] at hb ⊢
          exact hb
        · have h1 := List.all_eq_true.1 h i (List.mem_range.2 hi)
          rw [Array.getElem?_eq_getElem hi] at h1
          have h2 := List.all_eq_true.1 (by simpa using h1 : ops[i].after.toList.all (fun e => !Region.binds .any e || decide (e.on < i)) = true) e (by simpa using he)
          have h3 : e.on < i := by simpa [hbd] using h2
          exact ih e.on h3 (by omega)
      rw [hr] at hmem
      cases hmem

/-- What an operation must follow. -/
def needs (ops : Array Oper) (o : Oper) (j : Nat) (t : Tmp) : Bool := o.after.any (fun e => e.on == j && Region.binds .any e) && ((ops[j]?).map (·.dst) == some (some t))

/-- But for the region's slots the frame is a0's. -/
def Same (ops : Array Oper) (a0 a : Act) : Prop := a.defers = a0.defers ∧ a.tmps.size = a0.tmps.size ∧ ∀ t : Nat, (ops.all fun o => o.dst != some t) = true → a.tmps[t]? = a0.tmps[t]?
theorem Same.put {a0 a : Act} {i : Nat} {o : Oper} (h : Same ops a0 a) (ho : ops[i]? = some o) (v : Value) : Same ops a0 (a.put o.dst v) := by
  cases hd : o.dst with
  | none => exact h
  | some d =>
    refine ⟨h.1, by simp [Act.put, h.2.1], fun t ht => ?_⟩
    have hne : d ≠ t := by
      rintro rfl
      have := Array.all_eq_true_iff_forall_mem.1 ht o (Array.mem_of_getElem? ho)
      simp [hd] at this
    rw [show (a.put (some d) v).tmps = a.tmps.setIfInBounds d v from rfl, Array.getElem?_setIfInBounds_ne hne]
    exact h.2.2 t ht

/-- The slots that the region writes lie in the frame. -/
def inFrame (ops : Array Oper) (n : Nat) : Bool := ops.all fun o => match o.dst with | some d => decide (d < n) | none => true

theorem wp_region_rel {id : Nat} {a0 : Act} {w0 : World} (hm : P.follows .mixedOrders = true) (hord : orderly ops = true) (honce : onceEach ops = true) (hin : inFrame ops a0.tmps.size = true)
    (Le : World → World → Prop) (trans : ∀ a b c, Le a b → Le b c → Le a c) (drew : Le w0 { w0 with drawn := w0.drawn + 1 })
    (R : Nat → Value → World → Prop) (stable : ∀ i v w w', Le w0 w → R i v w → Le w w' → R i v w')
    (hstep : ∀ i o a w, ops[i]? = some o → Le w0 w → Same ops a0 a → (∀ j t, needs ops o j t = true → R j (a.tmps.getD t undef) w) →
      ∀ K : Act → World → Prop, (∀ v w', Le w w' → R i v w' → K (a.put o.dst v) w') → stepOf P ops Q o K a w)
    (hend : ∀ a w, Le w0 w → Same ops a0 a → (∀ (i : Nat) o t, ops[i]? = some o → o.dst = some t → R i (a.tmps.getD t undef) w) → Q .normal a w) :
    (Code.region id ops true).wp P Q a0 w0 := by
  refine wp_region_any hm (wpAny_inv (fun listed a w => Le w0 w ∧ Same ops a0 a ∧ ∀ (j : Nat) o t, ops[j]? = some o → o.dst = some t → listed.getD j false = true → R j (a.tmps.getD t undef) w) ?_ ?_ ops.size _ a0 _ (by simp) ?_ ⟨drew, ⟨rfl, rfl, fun _ _ => rfl⟩, fun j o t ho _ hl => ?_⟩)
  · rintro listed a w i o hsz ⟨hle, hs, hR⟩ ho hi
    obtain ⟨h0, o', ho', hdep⟩ := mem_ready.1 hi
    obtain rfl : o = o' := Option.some.inj (ho.symm.trans ho')
    refine hstep i o a w ho hle hs (fun j t hn => ?_) _ (fun v w' hw hv => ⟨trans _ _ _ hle hw, hs.put ho v, fun j oj t hj ht hl => ?_⟩)
    · simp only [needs, Bool.and_eq_true, beq_iff_eq] at hn
      obtain ⟨hn1, hn2⟩ := hn
      obtain ⟨e, he, h1⟩ := Array.any_eq_true'.1 hn1
      simp only [Bool.and_eq_true, beq_iff_eq] at h1
      cases hoj : ops[j]? with
      | none => rw [hoj] at hn2; simp at hn2
      | some oj =>
        rw [hoj] at hn2
        exact hR j oj t hoj (by simpa using hn2) (h1.1 ▸ hdep e he h1.2)
    · by_cases hij : i = j
      · subst hij
        obtain rfl : o = oj := Option.some.inj (ho.symm.trans hj)
        have hlt : t < a.tmps.size := by
          have := Array.all_eq_true_iff_forall_mem.1 hin o (Array.mem_of_getElem? ho)
          rw [ht] at this
          rw [hs.2.1]
          simpa using this
        rw [ht, show (a.put (some t) v).tmps = a.tmps.setIfInBounds t v from rfl]
        simp only [Array.getD_eq_getD_getElem?, Array.getElem?_setIfInBounds_self_of_lt hlt, Option.getD_some]
        exact hv
      · have hold : listed.getD j false = true := by rw [getD_set_ne false hij] at hl; exact hl
        have e : (a.put o.dst v).tmps.getD t undef = a.tmps.getD t undef := by
          cases hd : o.dst with
          | none => rfl
          | some d =>
            have hne : d ≠ t := fun hdt => onceEach_spec honce ho hj hij hd (hdt ▸ ht)
            rw [show (a.put (some d) v).tmps = a.tmps.setIfInBounds d v from rfl]
            simp [Array.getElem?_setIfInBounds_ne hne]
        rw [e]
        exact stable j _ _ _ hle (hR j oj t hj ht hold) hw
  · rintro listed a w hsz ⟨hle, hs, hR⟩ hr
    exact hend a w hle hs fun i o t ho ht => hR i o t ho ht (all_listed hord hsz hr i (Array.getElem?_eq_some_iff.1 ho).1)
  · rw [Array.toList_replicate, List.count_replicate_self]; exact Nat.le_refl _
  · have hlt := (Array.getElem?_eq_some_iff.1 ho).1
    simp [Array.getD_eq_getD_getElem?, hlt] at hl

/-- Each operation of a list, with its number. -/
def Each (F : Nat → Oper → Prop) : Nat → List Oper → Prop
  | _, [] => True
  | i, o :: os => F i o ∧ Each F (i + 1) os
theorem Each.nil {F : Nat → Oper → Prop} {i : Nat} : Each F i [] := trivial
theorem Each.cons {F : Nat → Oper → Prop} {i : Nat} {o : Oper} {os : List Oper} (h : F i o) (hs : Each F (i + 1) os) : Each F i (o :: os) := ⟨h, hs⟩
theorem Each.get {F : Nat → Oper → Prop} : ∀ {os : List Oper} {k : Nat}, Each F k os → ∀ (i : Nat) (o : Oper), os[i]? = some o → F (k + i) o
  | [], _, _, i, o, h => by simp at h
  | o' :: os, k, h, 0, o, ho => by
    obtain rfl : o' = o := by simpa using ho
    exact h.1
  | o' :: os, k, h, i + 1, o, ho => by
    have := Each.get h.2 i o (by simpa using ho)
    rwa [show k + 1 + i = k + (i + 1) by omega] at this

/-- What became of the world: it has only grown. -/
def Grew (w w' : World) : Prop := Below w.heap.size w w'
theorem Grew.refl (w : World) : Grew w w := Below.refl _ w
theorem Grew.trans {a b c : World} (h : Grew a b) (k : Grew b c) : Grew a c := Below.trans h (Below.mono k h.size)

/-- What is to be shown of one operation. -/
def StepOk (P : Program) (ops : Array Oper) (Q : Exit → Act → World → Prop) (a0 : Act) (w0 : World) (R : Nat → Value → World → Prop) (i : Nat) (o : Oper) : Prop :=
  ∀ a w, Grew w0 w → Same ops a0 a → (∀ j t, needs ops o j t = true → ∃ v, a.tmps[t]? = some v ∧ R j v w) →
    ∀ K : Act → World → Prop, (∀ v w', Grew w w' → R i v w' → K (a.put o.dst v) w') → stepOf P ops Q o K a w

theorem some_getD {a0 a : Act} (hs : Same ops a0 a) (hin : inFrame ops a0.tmps.size = true) {j : Nat} {o : Oper} {t : Tmp} (ho : ops[j]? = some o) (ht : o.dst = some t) : a.tmps[t]? = some (a.tmps.getD t undef) := by
  have hlt : t < a.tmps.size := by
    have := Array.all_eq_true_iff_forall_mem.1 hin o (Array.mem_of_getElem? ho)
    rw [ht] at this
    rw [hs.2.1]
    simpa using this
  simp [Array.getD_eq_getD_getElem?, hlt]

theorem wp_region_grew {id : Nat} {a0 : Act} {w0 : World} (hm : P.follows .mixedOrders = true) (hord : orderly ops = true) (honce : onceEach ops = true) (hin : inFrame ops a0.tmps.size = true)
    (R : Nat → Value → World → Prop) (stable : ∀ i v w w', R i v w → Grew w w' → R i v w')
    (hstep : Each (StepOk P ops Q a0 w0 R) 0 ops.toList)
    (hend : ∀ a w, Grew w0 w → Same ops a0 a → (∀ (i : Nat) t, (ops[i]?).map (·.dst) = some (some t) → ∃ v, a.tmps[t]? = some v ∧ R i v w) → Q .normal a w) :
    (Code.region id ops true).wp P Q a0 w0 := by
  refine wp_region_rel hm hord honce hin Grew (fun a b c h k => Grew.trans h k) (Below.drew (Below.refl _ _)) R (fun i v w w' _ h k => stable i v w w' h k) (fun i o a w ho hle hs hd K hK => ?_) (fun a w hle hs hR => ?_)
  · have := hstep.get i o (by rw [Array.getElem?_toList]; exact ho)
    rw [Nat.zero_add] at this
    refine this a w hle hs (fun j t hn => ?_) K hK
    have hn' := hn
    simp only [needs, Bool.and_eq_true, beq_iff_eq] at hn'
    cases hoj : ops[j]? with
    | none => rw [hoj] at hn'; simp at hn'
    | some oj =>
      rw [hoj] at hn'
      exact ⟨_, some_getD hs hin hoj (by simpa using hn'.2), hd j t hn⟩
  · refine hend a w hle hs fun i t hi => ?_
    cases hoi : ops[i]? with
    | none => rw [hoi] at hi; simp at hi
    | some oi =>
      rw [hoi] at hi
      have ht : oi.dst = some t := by simpa using hi
      exact ⟨_, some_getD hs hin hoi ht, hR i oi t hoi ht⟩
end
end Go.Rel
/-
  Behind a region that was walked by wp_region_grew: the whole frame, slot by slot (own law, of whatever program).
-/
namespace Go.Rel
open Go Go.RowKit

/-- One slot is written anew. -/
def reset (a : Act) (t : Array Value) (o : Oper) : Array Value := match o.dst with | some d => t.setIfInBounds d (a.tmps.getD d undef) | none => t
theorem reset_size (a : Act) (t : Array Value) (o : Oper) : (reset a t o).size = t.size := by unfold reset; split <;> simp
theorem reset_all (a : Act) : ∀ (l : List Oper) (t : Array Value), (l.foldl (reset a) t).size = t.size ∧ ∀ i, (l.foldl (reset a) t)[i]? = if (l.any fun o => o.dst == some i) = true ∧ i < t.size then some (a.tmps.getD i undef) else t[i]?
  | [], t => ⟨rfl, fun i => by simp⟩
  | o :: l, t => by
    obtain ⟨h1, h2⟩ := reset_all a l (reset a t o)
    refine ⟨by rw [List.foldl_cons, h1, reset_size], fun i => ?_⟩
    rw [List.foldl_cons, h2, reset_size, List.any_cons]
    by_cases hl : (l.any fun o => o.dst == some i) = true
    · by_cases hi : i < t.size
      · rw [if_pos ⟨hl, hi⟩, if_pos ⟨by rw [hl, Bool.or_true], hi⟩]
      · rw [if_neg (fun h => hi h.2), if_neg (fun h => hi h.2)]
        have k1 : (reset a t o)[i]? = none := Array.getElem?_eq_none (by rw [reset_size]; exact Nat.le_of_not_lt hi)
        have k2 : t[i]? = none := Array.getElem?_eq_none (Nat.le_of_not_lt hi)
        rw [k1, k2]
    · rw [if_neg (fun h => hl h.1)]
      have hl' : (l.any fun o => o.dst == some i) = false := by simpa using hl
      rw [hl', Bool.or_false]
      unfold reset
      cases hd : o.dst with
      | none => simp
      | some d =>
        by_cases e : d = i
        · subst e
          by_cases hi : d < t.size
          · simp [hi]
          · simp [hi]
        · have hb : (some d == some i) = false := by simpa using e
          simp [Array.getElem?_setIfInBounds_ne e, hb]
theorem Same.shape {ops : Array Oper} {a0 a : Act} (h : Same ops a0 a) : a = { tmps := ops.toList.foldl (reset a) a0.tmps, defers := a0.defers } := by
  obtain ⟨h1, h2, h3⟩ := h
  obtain ⟨k1, k2⟩ := reset_all a ops.toList a0.tmps
  have e : a.tmps = ops.toList.foldl (reset a) a0.tmps := by
    apply Array.ext_getElem?
    intro i
    rw [k2]
    by_cases hi : (ops.toList.any fun o => o.dst == some i) = true
    · by_cases hs : i < a0.tmps.size
      · rw [if_pos ⟨hi, hs⟩]
        simp [Array.getD_eq_getD_getElem?, show i < a.tmps.size by omega]
      · rw [if_neg (fun h => hs h.2), Array.getElem?_eq_none (by omega), Array.getElem?_eq_none (by omega)]
    · rw [if_neg (fun h => hi h.1)]
      refine h3 i ?_
      have hi' : (ops.toList.any fun o => o.dst == some i) = false := by simpa using hi
      rw [List.any_eq_false] at hi'
      rw [Array.all_eq_true_iff_forall_mem]
      intro o ho
      have := hi' o (by simpa using ho)
      simpa using this
  cases a
  simp only at h1 e
  rw [← h1, ← e]
end Go.Rel
/-
  A region that draws its order and in which calls WRITE to known blocks, walked once, operation by operation (own law, of whatever program): beside what is known of the values (R, as in Rel) there is a word I of the world that says which operations have been done (f): an operation's own step turns I from f to f with that operation. Of an operation it is known that all that it must follow (anc) has been done, and that nothing that must follow it has.
-/
namespace Go.Rel
open Go Go.RowKit

section
variable {P : Program} {ops : Array Oper} {Q : Exit → Act → World → Prop}

/-- Operation i must follow operation j, by a chain of at most n edges. -/
def anc (ops : Array Oper) : Nat → Nat → Nat → Bool
  | 0, _, _ => false
  | n + 1, i, j => match ops[i]? with
    | none => false
    | some o => o.after.toList.any fun e => Region.binds .any e && (e.on == j || anc ops n e.on j)
def upd (f : Nat → Bool) (i : Nat) : Nat → Bool := fun k => k == i || f k
/-- What has been done has all done that it must follow. -/
def Closed (ops : Array Oper) (f : Nat → Bool) : Prop := ∀ i o, f i = true → ops[i]? = some o → ∀ e ∈ o.after, Region.binds .any e = true → f e.on = true
theorem anc_of {f : Nat → Bool} (hc : Closed ops f) : ∀ (n i j : Nat) (o : Oper), ops[i]? = some o → (∀ e ∈ o.after, Region.binds .any e = true → f e.on = true) → anc ops n i j = true → f j = true
  | 0, _, _, _, _, _, h => by cases h
  | n + 1, i, j, o, ho, hd, h => by
    rw [anc, ho] at h
    obtain ⟨e, he, h1⟩ := List.any_eq_true.1 h
    simp only [Bool.and_eq_true, Bool.or_eq_true, beq_iff_eq] at h1
    have he' : e ∈ o.after := by simpa using he
    rcases h1.2 with rfl | h2
    · exact hd e he' h1.1
    · have hf := hd e he' h1.1
      cases hoi : ops[e.on]? with
      | none =>
        exfalso
        cases n with
        | zero => cases h2
        | succ n => rw [anc, hoi] at h2; cases h2
      | some o2 => exact anc_of hc n e.on j o2 hoi (fun e2 he2 hb2 => hc e.on o2 hf hoi e2 he2 hb2) h2
theorem upd_getD {listed : Array Bool} {i : Nat} (h : i < listed.size) : (fun k => (listed.setIfInBounds i true).getD k false) = upd (fun k => listed.getD k false) i := by
  funext k
  unfold upd
  by_cases e : k = i
  · subst e
    simp [Array.getD_eq_getD_getElem?, h]
  · have : (k == i) = false := by simpa using e
    rw [this, Bool.false_or, getD_set_ne false (fun h => e h.symm)]

/-- What is to be shown of one operation. -/
def StepIn (P : Program) (ops : Array Oper) (Q : Exit → Act → World → Prop) (a0 : Act) (w0 : World) (I : (Nat → Bool) → World → Prop) (Le : World → World → Prop) (R : Nat → Value → World → Prop) (i : Nat) (o : Oper) : Prop :=
  ∀ (f : Nat → Bool) (a : Act) (w : World), I f w → f i = false → (∀ n j, anc ops n i j = true → f j = true) → (∀ n j, anc ops n j i = true → f j = false) → Le w0 w → Same ops a0 a → (∀ j t, needs ops o j t = true → ∃ v, a.tmps[t]? = some v ∧ R j v w) →
    ∀ K : Act → World → Prop, (∀ v w', Le w w' → I (upd f i) w' → R i v w' → K (a.put o.dst v) w') → stepOf P ops Q o K a w

theorem wp_region_states {id : Nat} {a0 : Act} {w0 : World} (hm : P.follows .mixedOrders = true) (hord : orderly ops = true) (honce : onceEach ops = true) (hin : inFrame ops a0.tmps.size = true)
    (I : (Nat → Bool) → World → Prop) (Le : World → World → Prop) (trans : ∀ a b c, Le a b → Le b c → Le a c) (drew : Le w0 { w0 with drawn := w0.drawn + 1 }) (start : I (fun _ => false) { w0 with drawn := w0.drawn + 1 })
    (R : Nat → Value → World → Prop) (stable : ∀ i v w w', R i v w → Le w w' → R i v w')
    (hstep : Each (StepIn P ops Q a0 w0 I Le R) 0 ops.toList)
    (hend : ∀ f a w, (∀ i, i < ops.size → f i = true) → I f w → Le w0 w → Same ops a0 a → (∀ (i : Nat) t, (ops[i]?).map (·.dst) = some (some t) → ∃ v, a.tmps[t]? = some v ∧ R i v w) → Q .normal a w) :
    (Code.region id ops true).wp P Q a0 w0 := by
  have fin : ∀ (listed : Array Bool) (a : Act) (w : World), Same ops a0 a → (∀ (j : Nat) o t, ops[j]? = some o → o.dst = some t → listed.getD j false = true → R j (a.tmps.getD t undef) w) → ∀ (j : Nat) (t : Tmp), (ops[j]?).map (·.dst) = some (some t) → listed.getD j false = true → ∃ v, a.tmps[t]? = some v ∧ R j v w := by
    intro listed a w hs hR j t hj hl
    cases hoj : ops[j]? with
    | none => rw [hoj] at hj; simp at hj
    | some oj =>
      rw [hoj] at hj
      have ht : oj.dst = some t := by simpa using hj
      exact ⟨_, some_getD hs hin hoj ht, hR j oj t hoj ht hl⟩
  refine wp_region_any hm (wpAny_inv (fun listed a w => (Le w0 w ∧ I (fun k => listed.getD k false) w ∧ Closed ops (fun k => listed.getD k false)) ∧ Same ops a0 a ∧ ∀ (j : Nat) o t, ops[j]? = some o → o.dst = some t → listed.getD j false = true → R j (a.tmps.getD t undef) w) ?_ ?_ ops.size _ a0 _ (by simp) ?_ ⟨⟨drew, ?_, ?_⟩, ⟨rfl, rfl, fun _ _ => rfl⟩, fun j o t ho _ hl => ?_⟩)
  · rintro listed a w i o hsz ⟨⟨hle, hI, hC⟩, hs, hR⟩ ho hi
    obtain ⟨h0, o', ho', hdep⟩ := mem_ready.1 hi
    obtain rfl : o = o' := Option.some.inj (ho.symm.trans ho')
    have hlt : i < listed.size := by rw [hsz]; exact (Array.getElem?_eq_some_iff.1 ho).1
    have h0' : listed.getD i false = false := by
      rw [Array.getD_eq_getD_getElem?, Array.getElem?_eq_getElem hlt] at h0 ⊢
      exact h0
    have hst := hstep.get i o (by rw [Array.getElem?_toList]; exact ho)
    rw [Nat.zero_add] at hst
    refine hst _ a w hI h0' (fun n j h => anc_of hC n i j o ho (fun e he hb => hdep e he hb) h) (fun n j h => ?_) hle hs (fun j t hn => ?_) _ (fun v w' hw hI' hv => ⟨⟨trans _ _ _ hle hw, ?_, ?_⟩, hs.put ho v, fun j oj t hj ht hl => ?_⟩)
    · cases hj : listed.getD j false with
      | false => rfl
      | true =>
        exfalso
        cases hoj : ops[j]? with
        | none =>
          cases n with
          | zero => cases h
          | succ n => rw [anc, hoj] at h; cases h
        | some oj =>
          have := anc_of hC n j i oj hoj (fun e he hb => hC j oj hj hoj e he hb) h
          rw [h0'] at this
          cases this
    · have hn' := hn
      simp only [needs, Bool.and_eq_true, beq_iff_eq] at hn'
      obtain ⟨hn1, hn2⟩ := hn'
      obtain ⟨e, he, h1⟩ := Array.any_eq_true'.1 hn1
      simp only [Bool.and_eq_true, beq_iff_eq] at h1
      exact fin listed a w hs hR j t hn2 (h1.1 ▸ hdep e he h1.2)
    · rw [upd_getD hlt]; exact hI'
    · rw [upd_getD hlt]
      intro k ok hk hok e he hb
      unfold upd at hk ⊢
      simp only [Bool.or_eq_true, beq_iff_eq] at hk ⊢
      rcases hk with rfl | hk
      · obtain rfl : o = ok := Option.some.inj (ho.symm.trans hok)
        exact .inr (hdep e he hb)
      · exact .inr (hC k ok hk hok e he hb)
    · by_cases hij : i = j
      · subst hij
        obtain rfl : o = oj := Option.some.inj (ho.symm.trans hj)
        have hlt' : t < a.tmps.size := by
          have := Array.all_eq_true_iff_forall_mem.1 hin o (Array.mem_of_getElem? ho)
          rw [ht] at this
          rw [hs.2.1]
          simpa using this
        rw [ht, show (a.put (some t) v).tmps = a.tmps.setIfInBounds t v from rfl]
        simp only [Array.getD_eq_getD_getElem?, Array.getElem?_setIfInBounds_self_of_lt hlt', Option.getD_some]
        exact hv
      · have hold : listed.getD j false = true := by rw [getD_set_ne false hij] at hl; exact hl
        have e : (a.put o.dst v).tmps.getD t undef = a.tmps.getD t undef := by
          cases hd : o.dst with
          | none => rfl
          | some d =>
            have hne : d ≠ t := fun hdt => onceEach_spec honce ho hj hij hd (hdt ▸ ht)
            rw [show (a.put (some d) v).tmps = a.tmps.setIfInBounds d v from rfl]
            simp [Array.getElem?_setIfInBounds_ne hne]
        rw [e]
        exact stable j _ _ _ (hR j oj t hj ht hold) hw
  · rintro listed a w hsz ⟨⟨hle, hI, hC⟩, hs, hR⟩ hr
    have hall := all_listed hord hsz hr
    exact hend _ a w hall hI hle hs fun i t hi => fin listed a w hs hR i t hi (hall i (by
      cases hoi : ops[i]? with
      | none => rw [hoi] at hi; simp at hi
      | some oi => exact (Array.getElem?_eq_some_iff.1 hoi).1))
  · rw [Array.toList_replicate, List.count_replicate_self]; exact Nat.le_refl _
  · have e : (fun k => (Array.replicate ops.size false).getD k false) = fun _ => false := by
      funext k
      by_cases h : k < ops.size <;> simp [Array.getD_eq_getD_getElem?, h]
    rw [e]; exact start
  · intro i o h
    by_cases hlt : i < ops.size <;> simp [Array.getD_eq_getD_getElem?, hlt] at h
  · have hlt := (Array.getElem?_eq_some_iff.1 ho).1
    simp [Array.getD_eq_getD_getElem?, hlt] at hl
end
end Go.Rel
