/-
  wp_region_grew inside a fence, in a round too (own law, of whatever program).
-/
import Derived.Test.YtnobpbbedclbkaaZj18
import Derived.OrdersIn
import Derived.Test.YtnobpbbedclbkaaZj33
namespace Go.Rel
open Go Go.RowKit

section
variable {F : Fence} {n : Nat} {P : Program} {ops : Array Oper} {Q : Exit → Act → World → Prop}

def stepIn (F : Fence) (n : Nat) (P : Program) (ops : Array Oper) (Q : Exit → Act → World → Prop) (o : Oper) (K : Act → World → Prop) (a : Act) (w : World) : Prop :=
  if Region.wanted o (yielded ops a.tmps) = true then o.wpIn F n P a w K Q else (∀ f, o.about P w a.eval = some f → F.fn f) ∧ K (a.put o.dst undef) w
theorem stepIn_mono {o : Oper} {K K' : Act → World → Prop} {a : Act} {w : World} (h : ∀ a w, K a w → K' a w) (hs : stepIn F n P ops Q o K a w) : stepIn F n P ops Q o K' a w := by
  unfold stepIn at *
  split
  · rename_i hw; rw [if_pos hw] at hs; exact Oper.wpIn_mono h hs
  · rename_i hw; rw [if_neg hw] at hs; exact ⟨hs.1, h _ _ hs.2⟩

theorem wpAnyIn_inv {md : Region.Mode} (J : Array Bool → Act → World → Prop)
    (hstep : ∀ listed a w i o, listed.size = ops.size → J listed a w → ops[i]? = some o → i ∈ Region.ready md ops listed → stepIn F n P ops Q o (J (listed.setIfInBounds i true)) a w)
    (hend : ∀ listed a w, listed.size = ops.size → J listed a w → Region.ready md ops listed = [] → Q .normal a w) :
    ∀ (fuel : Nat) (listed : Array Bool) (a : Act) (w : World), listed.size = ops.size → listed.toList.count false ≤ fuel → J listed a w → wpAnyIn F n P md ops Q fuel listed a w := by
  intro fuel
  induction fuel with
  | zero =>
    intro listed a w hsz hc hJ
    have hr : Region.ready md ops listed = [] := by
      rw [List.eq_nil_iff_forall_not_mem]
      intro j hj
      obtain ⟨h0, o, ho, _⟩ := mem_ready.1 hj
      have hlt : j < listed.size := by rw [hsz]; exact (Array.getElem?_eq_some_iff.1 ho).1
      have hf : false ∈ listed.toList := by
        rw [Array.getD_eq_getD_getElem?, Array.getElem?_eq_getElem hlt] at h0
        simp only [Option.getD_some] at h0
        rw [← h0]
        simp
      have := List.count_pos_iff.2 hf
      omega
    exact ⟨hr, hend _ _ _ hsz hJ hr⟩
  | succ fuel ih =>
    intro listed a w hsz hc hJ
    refine ⟨fun hr => hend _ _ _ hsz hJ hr, fun i hi => ?_⟩
    obtain ⟨h0, o, ho, _⟩ := mem_ready.1 hi
    have hlt : i < listed.size := by rw [hsz]; exact (Array.getElem?_eq_some_iff.1 ho).1
    have hif : listed.toList[i]? = some false := by
      rw [Array.getD_eq_getD_getElem?, Array.getElem?_eq_getElem hlt] at h0
      simp only [Option.getD_some] at h0
      rw [Array.getElem?_toList, Array.getElem?_eq_getElem hlt, h0]
    have hcnt := count_set listed.toList i hif
    have hs := stepIn_mono (fun a w hj => ih _ a w (by rw [Array.size_setIfInBounds]; exact hsz) (by rw [Array.toList_setIfInBounds]; omega) hj) (hstep listed a w i o hsz hJ ho hi)
    unfold wpOpIn
    rw [ho]
    exact hs

def StepInOk (F : Fence) (n : Nat) (P : Program) (ops : Array Oper) (Q : Exit → Act → World → Prop) (a0 : Act) (w0 : World) (R : Nat → Value → World → Prop) (i : Nat) (o : Oper) : Prop :=
  ∀ a w, Grew w0 w → Same ops a0 a → (∀ j t, needs ops o j t = true → ∃ v, a.tmps[t]? = some v ∧ R j v w) →
    ∀ K : Act → World → Prop, (∀ v w', Grew w w' → R i v w' → K (a.put o.dst v) w') → stepIn F n P ops Q o K a w

theorem wpIn_region_grew {id : Nat} {a0 : Act} {w0 : World} (hm : P.follows .mixedOrders = true) (hord : orderly ops = true) (honce : onceEach ops = true) (hin : inFrame ops a0.tmps.size = true)
    (R : Nat → Value → World → Prop) (stable : ∀ i v w w', R i v w → Grew w w' → R i v w')
    (hstep : Each (StepInOk F n P ops Q a0 w0 R) 0 ops.toList)
    (hend : ∀ a w, Grew w0 w → Same ops a0 a → (∀ (i : Nat) t, (ops[i]?).map (·.dst) = some (some t) → ∃ v, a.tmps[t]? = some v ∧ R i v w) → Q .normal a w) :
    (Code.region id ops true).wpIn F n P Q a0 w0 := by
  refine wpIn_region_any hm (wpAnyIn_inv (fun listed a w => Grew w0 w ∧ Same ops a0 a ∧ ∀ (j : Nat) o t, ops[j]? = some o → o.dst = some t → listed.getD j false = true → R j (a.tmps.getD t undef) w) ?_ ?_ ops.size _ a0 _ (by simp) ?_ ⟨Below.drew (Below.refl _ _), ⟨rfl, rfl, fun _ _ => rfl⟩, fun j o t ho _ hl => ?_⟩)
  · rintro listed a w i o hsz ⟨hle, hs, hR⟩ ho hi
    obtain ⟨h0, o', ho', hdep⟩ := mem_ready.1 hi
    obtain rfl : o = o' := Option.some.inj (ho.symm.trans ho')
    have hst := hstep.get i o (by rw [Array.getElem?_toList]; exact ho)
    rw [Nat.zero_add] at hst
    refine hst a w hle hs (fun j t hn => ?_) _ (fun v w' hw hv => ⟨Grew.trans hle hw, hs.put ho v, fun j oj t hj ht hl => ?_⟩)
    · have hn' := hn
      simp only [needs, Bool.and_eq_true, beq_iff_eq] at hn'
      obtain ⟨hn1, hn2⟩ := hn'
      obtain ⟨e, he, h1⟩ := Array.any_eq_true'.1 hn1
      simp only [Bool.and_eq_true, beq_iff_eq] at h1
      cases hoj : ops[j]? with
      | none => rw [hoj] at hn2; simp at hn2
      | some oj =>
        rw [hoj] at hn2
        have ht : oj.dst = some t := by simpa using hn2
        exact ⟨_, some_getD hs hin hoj ht, hR j oj t hoj ht (h1.1 ▸ hdep e he h1.2)⟩
    · by_cases hij : i = j
      · subst hij
        obtain rfl : o = oj := Option.some.inj (ho.symm.trans hj)
        have hlt : t < a.tmps.size := by
          have := Array.all_eq_true_iff_forall_mem.1 hin o (Array.mem_of_getElem? ho)
          rw [ht] at this
          rw [hs.2.1]
          simpa using this
        rw [ht, show (a.put (some t) v).tmps = a.tmps.setIfInBounds t v from rfl]
        simp only [Array.getD_eq_getD_getElem?, Array.getElem?_setIfInBounds_self_of_lt hlt, Option.getD_some]
        exact hv
      · have hold : listed.getD j false = true := by rw [getD_set_ne false hij] at hl; exact hl
        have e : (a.put o.dst v).tmps.getD t undef = a.tmps.getD t undef := by
          cases hd : o.dst with
          | none => rfl
          | some d =>
            have hne : d ≠ t := fun hdt => onceEach_spec honce ho hj hij hd (hdt ▸ ht)
            rw [show (a.put (some d) v).tmps = a.tmps.setIfInBounds d v from rfl]
            simp [Array.getElem?_setIfInBounds_ne hne]
        rw [e]
        exact stable j _ _ _ (hR j oj t hj ht hold) hw
  · rintro listed a w hsz ⟨hle, hs, hR⟩ hr
    refine hend a w hle hs fun i t hi => ?_
    cases hoi : ops[i]? with
    | none => rw [hoi] at hi; simp at hi
    | some oi =>
      rw [hoi] at hi
      have ht : oi.dst = some t := by simpa using hi
      exact ⟨_, some_getD hs hin hoi ht, hR i oi t hoi ht (all_listed hord hsz hr i (Array.getElem?_eq_some_iff.1 hoi).1)⟩
  · rw [Array.toList_replicate, List.count_replicate_self]; exact Nat.le_refl _
  · have hlt := (Array.getElem?_eq_some_iff.1 ho).1
    simp [Array.getD_eq_getD_getElem?, hlt] at hl
end
end Go.Rel
/-
  A region that draws its order inside a round of a range over a function, by the laws of XRelA and XRegE (own law, of whatever program): an operation's step is the same in a fence that lets all be.
-/
namespace Go.Rel
open Go Go.RowKit

section
variable {n l : Nat} {P : Program} {ops : Array Oper} {Q : Exit → Act → World → Prop} {a0 : Act} {w0 : World}
theorem callsIn_inRound {f : FuncId} {args : Array Value} {w : World} {R : Ending → World → Prop} (h : Calls P f args w R) : CallsIn (Fence.wide.inRound l) n P f args w R := callsIn_wide.2 h
theorem rowsIn_inRound {row : String} {args : Array Value} {w : World} {R : Value → World → Prop} (h : Rows P row args w R) : RowsIn (Fence.wide.inRound l) n P row args w R := fun c cs _ => let ⟨v, w', r, st⟩ := h c cs; ⟨v, w', r, stepsIn_wide.2 st⟩
theorem stepIn_of_stepOf {o : Oper} {K : Act → World → Prop} {a : Act} {w : World} (hd : ∀ c, o.op ≠ .defer c) (h : stepOf P ops Q o K a w) : stepIn (Fence.wide.inRound l) n P ops Q o K a w := by
  unfold stepOf at h
  unfold stepIn
  split
  · rename_i hw
    rw [if_pos hw] at h
    refine ⟨fun _ _ => trivial, ?_⟩
    rw [Oper.semAt_eq _ _ _ hd]
    unfold Oper.wp at h
    generalize (execOp a.eval o).run P w = r at h
    cases r with
    | ok nx w' =>
      cases nx with
      | enter f args => exact ⟨(fun e => by cases e), callsIn_inRound h⟩
      | row row args => exact ⟨(fun e => by cases e), rowsIn_inRound h⟩
      | _ => first | exact h | exact h.elim
    | halt hh w' => cases hh <;> first | exact h | exact h.elim
  · rename_i hw
    rw [if_neg hw] at h
    exact ⟨fun _ _ => trivial, h⟩
theorem wpIn_region_acts {id : Nat} (hm : P.follows .mixedOrders = true) (hnd : ∀ (i : Nat) o, ops[i]? = some o → ∀ c, o.op ≠ .defer c) (hord : orderly ops = true) (honce : onceEach ops = true) (hin : inFrame ops a0.tmps.size = true)
    (I : (Nat → Bool) → Act → World → Prop) (Le : World → World → Prop) (trans : ∀ a b c, Le a b → Le b c → Le a c) (drew : Le w0 { w0 with drawn := w0.drawn + 1 }) (start : I (fun _ => false) a0 { w0 with drawn := w0.drawn + 1 })
    (R : Nat → Value → World → Prop) (stable : ∀ i v w w', R i v w → Le w w' → R i v w')
    (hstep : Each (StepAct P ops Q a0 w0 I Le R) 0 ops.toList)
    (hend : ∀ f a w, (∀ i, i < ops.size → f i = true) → I f a w → Le w0 w → Same ops a0 a → (∀ (i : Nat) t, (ops[i]?).map (·.dst) = some (some t) → ∃ v, a.tmps[t]? = some v ∧ R i v w) → Q .normal a w) :
    (Code.region id ops true).wpIn (Fence.wide.inRound l) n P Q a0 w0 :=
  acts_to hord honce hin I Le trans drew start R stable hstep hend fun J h1 h2 h3 => wpIn_region_any hm (wpAnyIn_inv J (fun listed a w i o hs hJ ho hi => stepIn_of_stepOf (hnd i o ho) (h1 listed a w i o hs hJ ho hi)) h2 ops.size _ a0 _ (by simp) (by rw [Array.toList_replicate, List.count_replicate_self]; exact Nat.le_refl _) h3)
theorem wpIn_tabe {id : Nat} (hm : P.follows .mixedOrders = true) (hst : static ops a0.tmps.size = true)
    (I : (Nat → Bool) → (Nat → Value) → World → Prop) (Le : World → World → Prop) (refl : ∀ w, Le w w) (trans : ∀ a b c, Le a b → Le b c → Le a c) (drew : Le w0 { w0 with drawn := w0.drawn + 1 }) (start : ∀ e, I (fun _ => false) e { w0 with drawn := w0.drawn + 1 })
    (E : Nat → Value) (X : Nat → Value → World → Prop) (xs sp : Nat → Bool) (hap : apart ops.toList E xs sp 0 ops.toList = true)
    (stable : ∀ i v w w', X i v w → Le w w' → X i v w') (mains : List Nat) (hlast : mains.all sp = true) (hread : ∀ f e w i v e', mains.contains i = false → I f e w → Put ops i e v e' → I (upd f i) e' w)
    (hpure : Each (PureOk P ops.toList a0 E sp) 0 ops.toList)
    (hspec : ∀ i, sp i = true → SpecE P ops a0 w0 I Le E X xs i)
    (hend : ∀ f w (e : Nat → Value), (∀ i, i < ops.size → f i = true) → I f e w → Le w0 w → (∀ (i : Nat), ((ops[i]?).bind (·.dst)).isSome = true → Val E X xs i (e i) w) → Q .normal { tmps := finL 0 ops.toList e a0.tmps, defers := a0.defers } w) :
    (Code.region id ops true).wpIn (Fence.wide.inRound l) n P Q a0 w0 := by
  have hnd : ∀ (i : Nat) o, ops[i]? = some o → ∀ c, o.op ≠ .defer c := fun i o ho c e => by
    simp only [static, Bool.and_eq_true, List.all_eq_true] at hst
    have := hst.2 o (by simpa using Array.mem_of_getElem? ho)
    unfold tied at this
    rw [e] at this
    cases this
  exact tabe_to hst I Le refl start E X xs sp hap stable mains hlast hread hpure hspec hend fun I' R h1 h2 h3 st sb hs he => wpIn_region_acts hm hnd h1 h2 h3 I' Le trans drew st R sb hs he
end
end Go.Rel
