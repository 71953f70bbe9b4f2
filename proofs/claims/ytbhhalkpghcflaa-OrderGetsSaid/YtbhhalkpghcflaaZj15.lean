/-
  As RelI, where the word I speaks of the frame too: what an operation without a slot of its own (a store) did, at the address that another operation's slot holds (own law, of whatever program).
-/
import Derived.Test.YtbhhalkpghcflaaZj6
namespace Go.Rel
open Go Go.RowKit

section
variable {P : Program} {ops : Array Oper} {Q : Exit → Act → World → Prop}

/-- What is to be shown of one operation. -/
def StepAct (P : Program) (ops : Array Oper) (Q : Exit → Act → World → Prop) (a0 : Act) (w0 : World) (I : (Nat → Bool) → Act → World → Prop) (Le : World → World → Prop) (R : Nat → Value → World → Prop) (i : Nat) (o : Oper) : Prop :=
  ∀ (f : Nat → Bool) (a : Act) (w : World), I f a w → f i = false → (∀ n j, anc ops n i j = true → f j = true) → (∀ n j, anc ops n j i = true → f j = false) → Le w0 w → Same ops a0 a → (∀ j t, needs ops o j t = true → ∃ v, a.tmps[t]? = some v ∧ R j v w) →
    ∀ K : Act → World → Prop, (∀ v w', Le w w' → I (upd f i) (a.put o.dst v) w' → R i v w' → K (a.put o.dst v) w') → stepOf P ops Q o K a w

/-- What the steps keep, whatever the walk over the orders (W) is. -/
theorem acts_to {C : Prop} {a0 : Act} {w0 : World} (hord : orderly ops = true) (honce : onceEach ops = true) (hin : inFrame ops a0.tmps.size = true)
    (I : (Nat → Bool) → Act → World → Prop) (Le : World → World → Prop) (trans : ∀ a b c, Le a b → Le b c → Le a c) (drew : Le w0 { w0 with drawn := w0.drawn + 1 }) (start : I (fun _ => false) a0 { w0 with drawn := w0.drawn + 1 })
    (R : Nat → Value → World → Prop) (stable : ∀ i v w w', R i v w → Le w w' → R i v w')
    (hstep : Each (StepAct P ops Q a0 w0 I Le R) 0 ops.toList)
    (hend : ∀ f a w, (∀ i, i < ops.size → f i = true) → I f a w → Le w0 w → Same ops a0 a → (∀ (i : Nat) t, (ops[i]?).map (·.dst) = some (some t) → ∃ v, a.tmps[t]? = some v ∧ R i v w) → Q .normal a w)
    (to : ∀ J : Array Bool → Act → World → Prop, (∀ listed a w i o, listed.size = ops.size → J listed a w → ops[i]? = some o → i ∈ Region.ready .any ops listed → stepOf P ops Q o (J (listed.setIfInBounds i true)) a w) → (∀ listed a w, listed.size = ops.size → J listed a w → Region.ready .any ops listed = [] → Q .normal a w) → J (Array.replicate ops.size false) a0 { w0 with drawn := w0.drawn + 1 } → C) : C := by
  have fin : ∀ (listed : Array Bool) (a : Act) (w : World), Same ops a0 a → (∀ (j : Nat) o t, ops[j]? = some o → o.dst = some t → listed.getD j false = true → R j (a.tmps.getD t undef) w) → ∀ (j : Nat) (t : Tmp), (ops[j]?).map (·.dst) = some (some t) → listed.getD j false = true → ∃ v, a.tmps[t]? = some v ∧ R j v w := by
    intro listed a w hs hR j t hj hl
    cases hoj : ops[j]? with
    | none => rw [hoj] at hj; simp at hj
    | some oj =>
      rw [hoj] at hj
      have ht : oj.dst = some t := by simpa using hj
      exact ⟨_, some_getD hs hin hoj ht, hR j oj t hoj ht hl⟩
  refine to (fun listed a w => (Le w0 w ∧ I (fun k => listed.getD k false) a w ∧ Closed ops (fun k => listed.getD k false)) ∧ Same ops a0 a ∧ ∀ (j : Nat) o t, ops[j]? = some o → o.dst = some t → listed.getD j false = true → R j (a.tmps.getD t undef) w) ?_ ?_ ⟨⟨drew, ?_, ?_⟩, ⟨rfl, rfl, fun _ _ => rfl⟩, fun j o t ho _ hl => ?_⟩
  · rintro listed a w i o hsz ⟨⟨hle, hI, hC⟩, hs, hR⟩ ho hi
    obtain ⟨h0, o', ho', hdep⟩ := mem_ready.1 hi
    obtain rfl : o = o' := Option.some.inj (ho.symm.trans ho')
    have hlt : i < listed.size := by rw [hsz]; exact (Array.getElem?_eq_some_iff.1 ho).1
    have h0' : listed.getD i false = false := by
      rw [Array.getD_eq_getD_getElem?, Array.getElem?_eq_getElem hlt] at h0 ⊢
      exact h0
    have hst := hstep.get i o (by rw [Array.getElem?_toList]; exact ho)
    rw [Nat.zero_add] at hst
    refine hst _ a w hI h0' (fun n j h => anc_of hC n i j o ho (fun e he hb => hdep e he hb) h) (fun n j h => ?_) hle hs (fun j t hn => ?_) _ (fun v w' hw hI' hv => ⟨⟨trans _ _ _ hle hw, ?_, ?_⟩, hs.put ho v, fun j oj t hj ht hl => ?_⟩)
    · cases hj : listed.getD j false with
      | false => rfl
      | true =>
        exfalso
        cases hoj : ops[j]? with
        | none =>
          cases n with
          | zero => cases h
          | succ n => rw [anc, hoj] at h; cases h
        | some oj =>
          have := anc_of hC n j i oj hoj (fun e he hb => hC j oj hj hoj e he hb) h
          rw [h0'] at this
          cases this
    · have hn' := hn
      simp only [needs, Bool.and_eq_true, beq_iff_eq] at hn'
      obtain ⟨hn1, hn2⟩ := hn'
      obtain ⟨e, he, h1⟩ := Array.any_eq_true'.1 hn1
      simp only [Bool.and_eq_true, beq_iff_eq] at h1
      exact fin listed a w hs hR j t hn2 (h1.1 ▸ hdep e he h1.2)
    · rw [upd_getD hlt]; exact hI'
    · rw [upd_getD hlt]
      intro k ok hk hok e he hb
      unfold upd at hk ⊢
      simp only [Bool.or_eq_true, beq_iff_eq] at hk ⊢
      rcases hk with rfl | hk
      · obtain rfl : o = ok := Option.some.inj (ho.symm.trans hok)
        exact .inr (hdep e he hb)
      · exact .inr (hC k ok hk hok e he hb)
    · by_cases hij : i = j
      · subst hij
        obtain rfl : o = oj := Option.some.inj (ho.symm.trans hj)
        have hlt' : t < a.tmps.size := by
          have := Array.all_eq_true_iff_forall_mem.1 hin o (Array.mem_of_getElem? ho)
          rw [ht] at this
          rw [hs.2.1]
          simpa using this
        rw [ht, show (a.put (some t) v).tmps = a.tmps.setIfInBounds t v from rfl]
        simp only [Array.getD_eq_getD_getElem?, Array.getElem?_setIfInBounds_self_of_lt hlt', Option.getD_some]
        exact hv
      · have hold : listed.getD j false = true := by rw [getD_set_ne false hij] at hl; exact hl
        have e : (a.put o.dst v).tmps.getD t undef = a.tmps.getD t undef := by
          cases hd : o.dst with
          | none => rfl
          | some d =>
            have hne : d ≠ t := fun hdt => onceEach_spec honce ho hj hij hd (hdt ▸ ht)
            rw [show (a.put (some d) v).tmps = a.tmps.setIfInBounds d v from rfl]
            simp [Array.getElem?_setIfInBounds_ne hne]
        rw [e]
        exact stable j _ _ _ (hR j oj t hj ht hold) hw
  · rintro listed a w hsz ⟨⟨hle, hI, hC⟩, hs, hR⟩ hr
    have hall := all_listed hord hsz hr
    exact hend _ a w hall hI hle hs fun i t hi => fin listed a w hs hR i t hi (hall i (by
      cases hoi : ops[i]? with
      | none => rw [hoi] at hi; simp at hi
      | some oi => exact (Array.getElem?_eq_some_iff.1 hoi).1))
  · have e : (fun k => (Array.replicate ops.size false).getD k false) = fun _ => false := by
      funext k
      by_cases h : k < ops.size <;> simp [Array.getD_eq_getD_getElem?, h]
    rw [e]; exact start
  · intro i o h
    by_cases hlt : i < ops.size <;> simp [Array.getD_eq_getD_getElem?, hlt] at h
  · have hlt := (Array.getElem?_eq_some_iff.1 ho).1
    simp [Array.getD_eq_getD_getElem?, hlt] at hl
theorem wp_region_acts {id : Nat} {a0 : Act} {w0 : World} (hm : P.follows .mixedOrders = true) (hord : orderly ops = true) (honce : onceEach ops = true) (hin : inFrame ops a0.tmps.size = true)
    (I : (Nat → Bool) → Act → World → Prop) (Le : World → World → Prop) (trans : ∀ a b c, Le a b → Le b c → Le a c) (drew : Le w0 { w0 with drawn := w0.drawn + 1 }) (start : I (fun _ => false) a0 { w0 with drawn := w0.drawn + 1 })
    (R : Nat → Value → World → Prop) (stable : ∀ i v w w', R i v w → Le w w' → R i v w')
    (hstep : Each (StepAct P ops Q a0 w0 I Le R) 0 ops.toList)
    (hend : ∀ f a w, (∀ i, i < ops.size → f i = true) → I f a w → Le w0 w → Same ops a0 a → (∀ (i : Nat) t, (ops[i]?).map (·.dst) = some (some t) → ∃ v, a.tmps[t]? = some v ∧ R i v w) → Q .normal a w) :
    (Code.region id ops true).wp P Q a0 w0 :=
  acts_to hord honce hin I Le trans drew start R stable hstep hend fun J h1 h2 h3 => wp_region_any hm (wpAny_inv J h1 h2 ops.size _ a0 _ (by simp) (by rw [Array.toList_replicate, List.count_replicate_self]; exact Nat.le_refl _) h3)
end
end Go.Rel
