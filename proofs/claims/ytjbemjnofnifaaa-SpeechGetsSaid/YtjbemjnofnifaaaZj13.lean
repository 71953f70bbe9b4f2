/-
  As RelI, where a slot is read ahead of being written by the same region ('xs = append(xs, ..)'): as long as the one operation that writes slot t has not been done, the slot holds what it held (own law, of whatever program).
-/
import Derived.Test.YtjbemjnofnifaaaZj4
namespace Go.Rel
open Go Go.RowKit

section
variable {P : Program} {ops : Array Oper} {Q : Exit → Act → World → Prop}

/-- No operation but j writes slot t. -/
def onlyBy (ops : Array Oper) (t j : Nat) : Bool := (List.range ops.size).all fun k => k == j || (ops[k]?).map (·.dst) != some (some t)
theorem onlyBy_spec {t j : Nat} (h : onlyBy ops t j = true) {k : Nat} {ok : Oper} (hk : ops[k]? = some ok) (ht : ok.dst = some t) : k = j := by
  have hlt := (Array.getElem?_eq_some_iff.1 hk).1
  have h1 := List.all_eq_true.1 h k (List.mem_range.2 hlt)
  rw [hk] at h1
  simpa [ht] using h1
/-- What is to be shown of one operation. -/
def StepH (P : Program) (ops : Array Oper) (Q : Exit → Act → World → Prop) (a0 : Act) (w0 : World) (I : (Nat → Bool) → World → Prop) (Le : World → World → Prop) (R : Nat → Value → World → Prop) (i : Nat) (o : Oper) : Prop :=
  ∀ (f : Nat → Bool) (a : Act) (w : World), I f w → f i = false → (∀ n j, anc ops n i j = true → f j = true) → (∀ n j, anc ops n j i = true → f j = false) → Le w0 w → Same ops a0 a → (∀ t j, onlyBy ops t j = true → f j = false → a.tmps[t]? = a0.tmps[t]?) → (∀ j t, needs ops o j t = true → ∃ v, a.tmps[t]? = some v ∧ R j v w) →
    ∀ K : Act → World → Prop, (∀ v w', Le w w' → I (upd f i) w' → R i v w' → K (a.put o.dst v) w') → stepOf P ops Q o K a w

theorem wp_region_hold {id : Nat} {a0 : Act} {w0 : World} (hm : P.follows .mixedOrders = true) (hord : orderly ops = true) (honce : onceEach ops = true) (hin : inFrame ops a0.tmps.size = true)
    (I : (Nat → Bool) → World → Prop) (Le : World → World → Prop) (trans : ∀ a b c, Le a b → Le b c → Le a c) (drew : Le w0 { w0 with drawn := w0.drawn + 1 }) (start : I (fun _ => false) { w0 with drawn := w0.drawn + 1 })
    (R : Nat → Value → World → Prop) (stable : ∀ i v w w', R i v w → Le w w' → R i v w')
    (hstep : Each (StepH P ops Q a0 w0 I Le R) 0 ops.toList)
    (hend : ∀ f a w, (∀ i, i < ops.size → f i = true) → I f w → Le w0 w → Same ops a0 a → (∀ (i : Nat) t, (ops[i]?).map (·.dst) = some (some t) → ∃ v, a.tmps[t]? = some v ∧ R i v w) → Q .normal a w) :
    (Code.region id ops true).wp P Q a0 w0 := by
  have fin : ∀ (listed : Array Bool) (a : Act) (w : World), Same ops a0 a → (∀ (j : Nat) o t, ops[j]? = some o → o.dst = some t → listed.getD j false = true → R j (a.tmps.getD t undef) w) → ∀ (j : Nat) (t : Tmp), (ops[j]?).map (·.dst) = some (some t) → listed.getD j false = true → ∃ v, a.tmps[t]? = some v ∧ R j v w := by
    intro listed a w hs hR j t hj hl
    cases hoj : ops[j]? with
    | none => rw [hoj] at hj; simp at hj
    | some oj =>
      rw [hoj] at hj
      have ht : oj.dst = some t := by simpa using hj
      exact ⟨_, some_getD hs hin hoj ht, hR j oj t hoj ht hl⟩
  refine wp_region_any hm (wpAny_inv (fun listed a w => (Le w0 w ∧ I (fun k => listed.getD k false) w ∧ Closed ops (fun k => listed.getD k false)) ∧ (Same ops a0 a ∧ ∀ t, (∀ k ok, ops[k]? = some ok → ok.dst = some t → listed.getD k false = false) → a.tmps[t]? = a0.tmps[t]?) ∧ ∀ (j : Nat) o t, ops[j]? = some o → o.dst = some t → listed.getD j false = true → R j (a.tmps.getD t undef) w) ?_ ?_ ops.size _ a0 _ (by simp) ?_ ⟨⟨drew, ?_, ?_⟩, ⟨⟨rfl, rfl, fun _ _ => rfl⟩, fun _ _ => rfl⟩, fun j o t ho _ hl => ?_⟩)
  · rintro listed a w i o hsz ⟨⟨hle, hI, hC⟩, ⟨hs, hH⟩, hR⟩ ho hi
    obtain ⟨h0, o', ho', hdep⟩ := mem_ready.1 hi
    obtain rfl : o = o' := Option.some.inj (ho.symm.trans ho')
    have hlt : i < listed.size := by rw [hsz]; exact (Array.getElem?_eq_some_iff.1 ho).1
    have h0' : listed.getD i false = false := by
      rw [Array.getD_eq_getD_getElem?, Array.getElem?_eq_getElem hlt] at h0 ⊢
      exact h0
    have hst := hstep.get i o (by rw [Array.getElem?_toList]; exact ho)
    rw [Nat.zero_add] at hst
    refine hst _ a w hI h0' (fun n j h => anc_of hC n i j o ho (fun e he hb => hdep e he hb) h) (fun n j h => ?_) hle hs (fun t j hb hf => hH t (fun k ok hk ht => by rw [onlyBy_spec hb hk ht]; exact hf)) (fun j t hn => ?_) _ (fun v w' hw hI' hv => ⟨⟨trans _ _ _ hle hw, ?_, ?_⟩, ⟨hs.put ho v, fun t hall => ?_⟩, fun j oj t hj ht hl => ?_⟩)
    · cases hj : listed.getD j false with
      | false => rfl
      | true =>
        exfalso
        cases hoj : ops[j]? with
        | none =>
          cases n with
          | zero => cases h
          | succ n => rw [anc, hoj] at h; cases h
        | some oj =>
          have := anc_of hC n j i oj hoj (fun e he hb => hC j oj hj hoj e he hb) h
          rw [h0'] at this
          cases this
    · have hn' := hn
      simp only [needs, Bool.and_eq_true, beq_iff_eq] at hn'
      obtain ⟨hn1, hn2⟩ := hn'
      obtain ⟨e, he, h1⟩ := Array.any_eq_true'.1 hn1
      simp only [Bool.and_eq_true, beq_iff_eq] at h1
      exact fin listed a w hs hR j t hn2 (h1.1 ▸ hdep e he h1.2)
    · rw [upd_getD hlt]; exact hI'
    · rw [upd_getD hlt]
      intro k ok hk hok e he hb
      unfold upd at hk ⊢
      simp only [Bool.or_eq_true, beq_iff_eq] at hk ⊢
      rcases hk with rfl | hk
      · obtain rfl : o = ok := Option.some.inj (ho.symm.trans hok)
        exact .inr (hdep e he hb)
      · exact .inr (hC k ok hk hok e he hb)
    · have hni : o.dst ≠ some t := fun hd => by
        have := hall i o ho hd
        simp [Array.getD_eq_getD_getElem?, hlt] at this
      have hold := hH t (fun k ok hk ht => by
        have := hall k ok hk ht
        by_cases hik : i = k
        · subst hik; exact h0'
        · rwa [getD_set_ne false hik] at this)
      rw [← hold]
      cases hd : o.dst with
      | none => rfl
      | some d =>
        have hne : d ≠ t := fun e => hni (by rw [hd, e])
        rw [show (a.put (some d) v).tmps = a.tmps.setIfInBounds d v from rfl, Array.getElem?_setIfInBounds_ne hne]
    · by_cases hij : i = j
      · subst hij
        obtain rfl : o = oj := Option.some.inj (ho.symm.trans hj)
        have hlt' : t < a.tmps.size := by
          have := Array.all_eq_true_iff_forall_mem.1 hin o (Array.mem_of_getElem? ho)
          rw [ht] at this
          rw [hs.2.1]
          simpa using this
        rw [ht, show (a.put (some t) v).tmps = a.tmps.setIfInBounds t v from rfl]
        simp only [Array.getD_eq_getD_getElem?, Array.getElem?_setIfInBounds_self_of_lt hlt', Option.getD_some]
        exact hv
      · have hold : listed.getD j false = true := by rw [getD_set_ne false hij] at hl; exact hl
        have e : (a.put o.dst v).tmps.getD t undef = a.tmps.getD t undef := by
          cases hd : o.dst with
          | none => rfl
          | some d =>
            have hne : d ≠ t := fun hdt => onceEach_spec honce ho hj hij hd (hdt ▸ ht)
            rw [show (a.put (some d) v).tmps = a.tmps.setIfInBounds d v from rfl]
            simp [Array.getElem?_setIfInBounds_ne hne]
        rw [e]
        exact stable j _ _ _ (hR j oj t hj ht hold) hw
  · rintro listed a w hsz ⟨⟨hle, hI, hC⟩, ⟨hs, _⟩, hR⟩ hr
    have hall := all_listed hord hsz hr
    exact hend _ a w hall hI hle hs fun i t hi => fin listed a w hs hR i t hi (hall i (by
      cases hoi : ops[i]? with
      | none => rw [hoi] at hi; simp at hi
      | some oi => exact (Array.getElem?_eq_some_iff.1 hoi).1))
  · rw [Array.toList_replicate, List.count_replicate_self]; exact Nat.le_refl _
  · have e : (fun k => (Array.replicate ops.size false).getD k false) = fun _ => false := by
      funext k
      by_cases h : k < ops.size <;> simp [Array.getD_eq_getD_getElem?, h]
    rw [e]; exact start
  · intro i o h
    by_cases hlt : i < ops.size <;> simp [Array.getD_eq_getD_getElem?, hlt] at h
  · have hlt := (Array.getElem?_eq_some_iff.1 ho).1
    simp [Array.getD_eq_getD_getElem?, hlt] at hl
end
end Go.Rel
