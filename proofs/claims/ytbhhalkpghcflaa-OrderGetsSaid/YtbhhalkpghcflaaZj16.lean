/-
  A region that draws its order, by a table of its operations' values (as XReg), where what has been done (I) speaks of the values too (own law, of whatever program).
-/
import Derived.Test.YtbhhalkpghcflaaZj10
import Derived.Test.YtbhhalkpghcflaaZj15
import Derived.Test.YtbhhalkpghcflaaZj3
namespace Go.Rel
open Go Go.RowKit

section
variable {P : Program} {ops : Array Oper} {Q : Exit → Act → World → Prop} {a0 : Act} {w0 : World} {I : (Nat → Bool) → (Nat → Value) → World → Prop} {Le : World → World → Prop} {E : Nat → Value} {X : Nat → Value → World → Prop} {xs sp : Nat → Bool}
theorem eaOf_off {i j : Nat} {o : Oper} (honce : onceEach ops = true) (ho : ops[i]? = some o) (a : Act) (v : Value) (h : j ≠ i) : eaOf ops (a.put o.dst v) j = eaOf ops a j := by
  unfold eaOf
  cases hd : o.dst with
  | none => rfl
  | some d =>
    cases hj : ops[j]? with
    | none => rfl
    | some oj =>
      have h1 := onceEach_spec honce ho hj (Ne.symm h) hd
      rw [Option.bind_some]
      cases hdj : oj.dst with
      | none => rfl
      | some t =>
        have hne : d ≠ t := fun e => h1 (by rw [hdj, e])
        show (a.tmps.setIfInBounds d v).getD t undef = a.tmps.getD t undef
        simp only [Array.getD_eq_getD_getElem?]
        rw [Array.getElem?_setIfInBounds_ne hne]
theorem eaOf_on {i d : Nat} {o : Oper} (ho : ops[i]? = some o) (hd : o.dst = some d) {a : Act} (hlt : d < a.tmps.size) (v : Value) : eaOf ops (a.put o.dst v) i = v := by
  unfold eaOf
  rw [ho, Option.bind_some, hd]
  show (a.tmps.setIfInBounds d v).getD d undef = v
  simp [Array.getD_eq_getD_getElem?, hlt]
/-- The values behind an operation's step. -/
def Put (ops : Array Oper) (i : Nat) (e : Nat → Value) (v : Value) (e' : Nat → Value) : Prop := (∀ j, j ≠ i → e' j = e j) ∧ (((ops[i]?).bind (·.dst)).isSome = true → e' i = v)
def SpecE (P : Program) (ops : Array Oper) (a0 : Act) (w0 : World) (I : (Nat → Bool) → (Nat → Value) → World → Prop) (Le : World → World → Prop) (E : Nat → Value) (X : Nat → Value → World → Prop) (xs : Nat → Bool) (i : Nat) : Prop :=
  ∀ (f : Nat → Bool) (w : World) (e : Nat → Value), I f e w → f i = false → (∀ n j, anc ops n i j = true → f j = true) → (∀ n j, anc ops n j i = true → f j = false) → Le w0 w → (∀ o, ops[i]? = some o → ∀ j, j ∈ deps ops.toList o → Val E X xs j (e j) w) →
    ∀ K : Value → World → Prop, (∀ v w', Le w w' → (∀ e', Put ops i e v e' → I (upd f i) e' w') → Val E X xs i v w' → K v w') → ∀ o, ops[i]? = some o → Runs P ((execOp (rho ops.toList a0 e) o).run P w) K
/-- The same where a call may panic. -/
def SpecEQ (P : Program) (PQ : List PanicEntry → World → Prop) (ops : Array Oper) (a0 : Act) (w0 : World) (I : (Nat → Bool) → (Nat → Value) → World → Prop) (Le : World → World → Prop) (E : Nat → Value) (X : Nat → Value → World → Prop) (xs : Nat → Bool) (i : Nat) : Prop :=
  ∀ (f : Nat → Bool) (w : World) (e : Nat → Value), I f e w → f i = false → (∀ n j, anc ops n i j = true → f j = true) → (∀ n j, anc ops n j i = true → f j = false) → Le w0 w → (∀ o, ops[i]? = some o → ∀ j, j ∈ deps ops.toList o → Val E X xs j (e j) w) →
    ∀ K : Value → World → Prop, (∀ v w', Le w w' → (∀ e', Put ops i e v e' → I (upd f i) e' w') → Val E X xs i v w' → K v w') → ∀ o, ops[i]? = some o → RunsQ P PQ ((execOp (rho ops.toList a0 e) o).run P w) K
theorem SpecE.q {i : Nat} (PQ : List PanicEntry → World → Prop) (h : SpecE P ops a0 w0 I Le E X xs i) : SpecEQ P PQ ops a0 w0 I Le E X xs i :=
  fun f w e h1 h2 h3 h4 h5 h6 K hK o ho => runsQ_of_runs (h f w e h1 h2 h3 h4 h5 h6 K hK o ho)
theorem tabe_toq {C : Prop} (hst : static ops a0.tmps.size = true)
    (I : (Nat → Bool) → (Nat → Value) → World → Prop) (Le : World → World → Prop) (refl : ∀ w, Le w w) (start : ∀ e, I (fun _ => false) e { w0 with drawn := w0.drawn + 1 })
    (E : Nat → Value) (X : Nat → Value → World → Prop) (xs sp : Nat → Bool) (hap : apart ops.toList E xs sp 0 ops.toList = true)
    (stable : ∀ i v w w', X i v w → Le w w' → X i v w') (mains : List Nat) (hlast : mains.all sp = true) (hread : ∀ f e w i v e', mains.contains i = false → I f e w → Put ops i e v e' → I (upd f i) e' w)
    (PQ : List PanicEntry → World → Prop) (hpan : ∀ c a w, Same ops a0 a → PQ c w → Q (.panic c) a w)
    (hpure : Each (PureOk P ops.toList a0 E sp) 0 ops.toList)
    (hspec : ∀ i, sp i = true → SpecEQ P PQ ops a0 w0 I Le E X xs i)
    (hend : ∀ f w (e : Nat → Value), (∀ i, i < ops.size → f i = true) → I f e w → Le w0 w → (∀ (i : Nat), ((ops[i]?).bind (·.dst)).isSome = true → Val E X xs i (e i) w) → Q .normal { tmps := finL 0 ops.toList e a0.tmps, defers := a0.defers } w)
    (to : ∀ (I' : (Nat → Bool) → Act → World → Prop) (R : Nat → Value → World → Prop), orderly ops = true → onceEach ops = true → inFrame ops a0.tmps.size = true → I' (fun _ => false) a0 { w0 with drawn := w0.drawn + 1 } → (∀ i v w w', R i v w → Le w w' → R i v w') → Each (StepAct P ops Q a0 w0 I' Le R) 0 ops.toList →
      (∀ f a w, (∀ i, i < ops.size → f i = true) → I' f a w → Le w0 w → Same ops a0 a → (∀ (i : Nat) t, (ops[i]?).map (·.dst) = some (some t) → ∃ v, a.tmps[t]? = some v ∧ R i v w) → Q .normal a w) → C) : C := by
  simp only [static, Bool.and_eq_true] at hst
  obtain ⟨⟨⟨h1, h2⟩, h3⟩, h4⟩ := hst
  rw [List.all_eq_true] at h4
  have hE : ∀ (i : Nat) (o : Oper), ops[i]? = some o → tied ops.toList o = true := fun i o h => h4 o (by simpa using Array.mem_of_getElem? h)
  refine to (fun f a w => I f (eaOf ops a) w) (Val E X xs) h1 h2 h3 (start _) (fun i v w w' h hl => ?_) ?_ ?_
  · unfold Val at h ⊢
    split at h
    · exact stable i v w w' h hl
    · exact h
  · refine Each.of fun i o ho => ?_
    rw [Nat.zero_add]
    have ho' : ops[i]? = some o := by simpa using ho
    have htd := hE i o ho'
    have hkn : known o.op = true := by unfold tied at htd; exact (Bool.and_eq_true _ _ ▸ htd).1
    have hA := apart_spec hap i o ho
    rw [Nat.zero_add] at hA
    intro f a w hI hf hanc hdesc hle hs hd K hK
    have hk := dep_known htd hd
    have hev := eval_rho (o := o) hs
    have hwt := want_e hk
    have hrun : execOp a.eval o = execOp (rho ops.toList a0 (eaOf ops a)) o := execOp_congr hkn hev
    have hput : ∀ v, Put ops i (eaOf ops a) v (eaOf ops (a.put o.dst v)) := fun v => ⟨fun j hj => eaOf_off h2 ho' a v hj, fun hi => by
      rw [ho', Option.bind_some] at hi
      obtain ⟨d, hd⟩ := Option.isSome_iff_exists.1 hi
      refine eaOf_on ho' hd ?_ v
      have := Array.all_eq_true_iff_forall_mem.1 h3 o (Array.mem_of_getElem? ho')
      rw [hd] at this
      rw [hs.2.1]
      exact of_decide_eq_true this⟩
    unfold stepOf
    rw [hwt]
    cases hsp : sp i with
    | true =>
      obtain ⟨g1, g2⟩ := hA.1 hsp
      have hw : wantE (eaOf ops a) o = true := by
        rw [← g1]
        unfold wantE
        cases hg : o.guard with
        | none => rfl
        | some g =>
          obtain ⟨j, b⟩ := g
          have hj := (hk j (by unfold deps; rw [hg]; simp)).1
          rw [hg] at g2
          have g2' : xs j = false := g2
          unfold Val at hj
          rw [g2'] at hj
          simp only
          rw [show eaOf ops a j = E j from hj]
      rw [if_pos hw]
      refine upon_of_runsQ (fun c w' hp => hpan c a w' hs hp) ?_
      rw [hrun]
      exact hspec i hsp f w _ hI hf hanc hdesc hle (fun o2 h2 j hj => by
        obtain rfl : o = o2 := Option.some.inj (ho'.symm.trans h2)
        exact (hk j hj).1) _ (fun v w' a1 a2 a3 => hK v w' a1 (a2 _ (hput v)) a3) o ho'
    | false =>
      obtain ⟨g1, g2⟩ := hA.2 hsp
      have hee : ∀ j ∈ deps ops.toList o, eaOf ops a j = E j := fun j hj => by
        have := (hk j hj).1
        unfold Val at this
        rw [g1 j hj] at this
        exact this
      have hv : ∀ v, v = E i → Val E X xs i v w := fun v hv => by unfold Val; rw [g2]; exact hv
      have hni : mains.contains i = false := by
        rw [Bool.eq_false_iff]
        intro e
        rw [List.contains_iff_mem] at e
        have := List.all_eq_true.1 hlast i e
        rw [hsp] at this; cases this
      rw [wantE_same hee]
      have hp := hpure.get i o ho
      rw [Nat.zero_add] at hp
      rcases hp with hp | ⟨hw, hp⟩ | ⟨hw, hp⟩
      · rw [hsp] at hp; cases hp
      · rw [if_pos hw]
        refine upon_of_runs ?_
        rw [hrun, execOp_congr hkn (rho_same hee), hp w]
        exact hK _ _ (refl w) (hread f _ w i _ _ hni hI (hput _)) (hv _ rfl)
      · rw [if_neg (by rw [hw]; exact Bool.false_ne_true)]
        exact hK _ _ (refl w) (hread f _ w i _ _ hni hI (hput _)) (hv _ hp.symm)
  · intro f a w hall hI hle hs hR
    have he : a = { tmps := finL 0 ops.toList (eaOf ops a) a0.tmps, defers := a0.defers } := by
      have := hs.shape
      rw [finL_eq (a := a) _ 0 _ fun j o d hj hd => by
        have hj' : ops[j]? = some o := by simpa using hj
        unfold eaOf
        simp only [Nat.zero_add, hj', Option.bind_some, hd]]
      exact this
    rw [he]
    refine hend f w _ hall hI hle fun i hi => ?_
    cases hd : (ops[i]?).bind (·.dst) with
    | none => rw [hd] at hi; cases hi
    | some t =>
      obtain ⟨v, hv, hr⟩ := hR i t (by
        cases ho : ops[i]? with
        | none => rw [ho] at hd; cases hd
        | some o => rw [ho] at hd; simpa using hd)
      have e9 : eaOf ops a i = a.tmps.getD t undef := by unfold eaOf; rw [hd]
      rw [e9, show a.tmps.getD t undef = v by simp [Array.getD_eq_getD_getElem?, hv]]
      exact hr
theorem tabe_to {C : Prop} (hst : static ops a0.tmps.size = true)
    (I : (Nat → Bool) → (Nat → Value) → World → Prop) (Le : World → World → Prop) (refl : ∀ w, Le w w) (start : ∀ e, I (fun _ => false) e { w0 with drawn := w0.drawn + 1 })
    (E : Nat → Value) (X : Nat → Value → World → Prop) (xs sp : Nat → Bool) (hap : apart ops.toList E xs sp 0 ops.toList = true)
    (stable : ∀ i v w w', X i v w → Le w w' → X i v w') (mains : List Nat) (hlast : mains.all sp = true) (hread : ∀ f e w i v e', mains.contains i = false → I f e w → Put ops i e v e' → I (upd f i) e' w)
    (hpure : Each (PureOk P ops.toList a0 E sp) 0 ops.toList)
    (hspec : ∀ i, sp i = true → SpecE P ops a0 w0 I Le E X xs i)
    (hend : ∀ f w (e : Nat → Value), (∀ i, i < ops.size → f i = true) → I f e w → Le w0 w → (∀ (i : Nat), ((ops[i]?).bind (·.dst)).isSome = true → Val E X xs i (e i) w) → Q .normal { tmps := finL 0 ops.toList e a0.tmps, defers := a0.defers } w)
    (to : ∀ (I' : (Nat → Bool) → Act → World → Prop) (R : Nat → Value → World → Prop), orderly ops = true → onceEach ops = true → inFrame ops a0.tmps.size = true → I' (fun _ => false) a0 { w0 with drawn := w0.drawn + 1 } → (∀ i v w w', R i v w → Le w w' → R i v w') → Each (StepAct P ops Q a0 w0 I' Le R) 0 ops.toList →
      (∀ f a w, (∀ i, i < ops.size → f i = true) → I' f a w → Le w0 w → Same ops a0 a → (∀ (i : Nat) t, (ops[i]?).map (·.dst) = some (some t) → ∃ v, a.tmps[t]? = some v ∧ R i v w) → Q .normal a w) → C) : C := by
  exact tabe_toq hst I Le refl start E X xs sp hap stable mains hlast hread (fun _ _ => False) (fun _ _ _ _ h => h.elim) hpure (fun i h => (hspec i h).q _) hend to
theorem wp_tabe {id : Nat} (hm : P.follows .mixedOrders = true) (hst : static ops a0.tmps.size = true)
    (I : (Nat → Bool) → (Nat → Value) → World → Prop) (Le : World → World → Prop) (refl : ∀ w, Le w w) (trans : ∀ a b c, Le a b → Le b c → Le a c) (drew : Le w0 { w0 with drawn := w0.drawn + 1 }) (start : ∀ e, I (fun _ => false) e { w0 with drawn := w0.drawn + 1 })
    (E : Nat → Value) (X : Nat → Value → World → Prop) (xs sp : Nat → Bool) (hap : apart ops.toList E xs sp 0 ops.toList = true)
    (stable : ∀ i v w w', X i v w → Le w w' → X i v w') (mains : List Nat) (hlast : mains.all sp = true) (hread : ∀ f e w i v e', mains.contains i = false → I f e w → Put ops i e v e' → I (upd f i) e' w)
    (hpure : Each (PureOk P ops.toList a0 E sp) 0 ops.toList)
    (hspec : ∀ i, sp i = true → SpecE P ops a0 w0 I Le E X xs i)
    (hend : ∀ f w (e : Nat → Value), (∀ i, i < ops.size → f i = true) → I f e w → Le w0 w → (∀ (i : Nat), ((ops[i]?).bind (·.dst)).isSome = true → Val E X xs i (e i) w) → Q .normal { tmps := finL 0 ops.toList e a0.tmps, defers := a0.defers } w) :
    (Code.region id ops true).wp P Q a0 w0 :=
  tabe_to hst I Le refl start E X xs sp hap stable mains hlast hread hpure hspec hend fun I' R h1 h2 h3 st sb hs he => wp_region_acts hm h1 h2 h3 I' Le trans drew st R sb hs he
theorem wp_tabeq {id : Nat} (hm : P.follows .mixedOrders = true) (hst : static ops a0.tmps.size = true)
    (I : (Nat → Bool) → (Nat → Value) → World → Prop) (Le : World → World → Prop) (refl : ∀ w, Le w w) (trans : ∀ a b c, Le a b → Le b c → Le a c) (drew : Le w0 { w0 with drawn := w0.drawn + 1 }) (start : ∀ e, I (fun _ => false) e { w0 with drawn := w0.drawn + 1 })
    (E : Nat → Value) (X : Nat → Value → World → Prop) (xs sp : Nat → Bool) (hap : apart ops.toList E xs sp 0 ops.toList = true)
    (stable : ∀ i v w w', X i v w → Le w w' → X i v w') (mains : List Nat) (hlast : mains.all sp = true) (hread : ∀ f e w i v e', mains.contains i = false → I f e w → Put ops i e v e' → I (upd f i) e' w)
    (PQ : List PanicEntry → World → Prop) (hpan : ∀ c a w, Same ops a0 a → PQ c w → Q (.panic c) a w)
    (hpure : Each (PureOk P ops.toList a0 E sp) 0 ops.toList)
    (hspec : ∀ i, sp i = true → SpecEQ P PQ ops a0 w0 I Le E X xs i)
    (hend : ∀ f w (e : Nat → Value), (∀ i, i < ops.size → f i = true) → I f e w → Le w0 w → (∀ (i : Nat), ((ops[i]?).bind (·.dst)).isSome = true → Val E X xs i (e i) w) → Q .normal { tmps := finL 0 ops.toList e a0.tmps, defers := a0.defers } w) :
    (Code.region id ops true).wp P Q a0 w0 :=
  tabe_toq hst I Le refl start E X xs sp hap stable mains hlast hread PQ hpan hpure hspec hend fun I' R h1 h2 h3 st sb hs he => wp_region_acts hm h1 h2 h3 I' Le trans drew st R sb hs he
theorem SpecE.ld {mains : List Nat} {i : Nat} {o : Oper} {T : TypeId} {x : Operand} {q : Value} (hread : ∀ f e w i v e', mains.contains i = false → I f e w → Put ops i e v e' → I (upd f i) e' w) (refl : ∀ w, Le w w) (hl : mains.contains i = false := by decide) (ho : ops[i]? = some o := by rfl) (hop : o.op = .load T x := by rfl) (hx : rho ops.toList a0 E x = q := by kernel_rfl) (hp : plain ops.toList xs o = true := by kernel_rfl) (hxs : xs i = false := by rfl)
    (h : ∀ (f : Nat → Bool) (w : World) (e : Nat → Value), I f e w → f i = false → (∀ n j, anc ops n j i = true → f j = false) → (∀ n j, anc ops n i j = true → f j = true) → Le w0 w → (Instr.loadAt T q).run P w = .ok (E i) w) : SpecE P ops a0 w0 I Le E X xs i := by
  intro f w e hI hf hanc hdesc hle hR K hK o' ho'
  obtain rfl : o = o' := Option.some.inj (ho.symm.trans ho')
  have hee : ∀ j ∈ deps ops.toList o, e j = E j := fun j hj => by
    have h1 := hR o ho j hj
    have h2 := List.all_eq_true.1 hp j hj
    unfold Val at h1
    rw [show xs j = false by simpa using h2] at h1
    exact h1
  rw [execOp_congr (by rw [hop]; rfl) (rho_same hee)]
  have e1 : (execOp (rho ops.toList a0 E) o).run P w = .ok (.value (E i)) w := by
    unfold execOp
    simp only [hop, hx, Sem.run_bind, Sem.run_pure, h f w e hI hf hdesc hanc hle, Result.andThen_ok]
  rw [e1]
  exact hK _ _ (refl w) (fun e' hp => hread f e w i _ e' hl hI hp) (by unfold Val; rw [hxs])
theorem SpecE.gen {i : Nat} {o : Oper} (us : (Nat → Value) → List (Tmp × Value)) (ho : ops[i]? = some o) (hk : known o.op = true) (hu : ∀ e, slotsOf (rho ops.toList a0 (mixE E xs e)) (uses o.op) = us e)
    (h : ∀ (f : Nat → Bool) (w : World) (e : Nat → Value), I f e w → f i = false → (∀ n j, anc ops n j i = true → f j = false) → (∀ n j, anc ops n i j = true → f j = true) → Le w0 w → (∀ j, (deps ops.toList o).contains j = true → xs j = true → X j (e j) w) →
      ∀ K : Value → World → Prop, (∀ v w', Le w w' → (∀ e', Put ops i e v e' → I (upd f i) e' w') → Val E X xs i v w' → K v w') → Runs P ((execOp (asg (us e)) o).run P w) K) : SpecE P ops a0 w0 I Le E X xs i := by
  intro f w e hI hf hanc hdesc hle hR K hK o' ho'
  obtain rfl : o = o' := Option.some.inj (ho.symm.trans ho')
  have hee : ∀ j ∈ deps ops.toList o, e j = mixE E xs e j := fun j hj => by
    have h1 := hR o ho j hj
    unfold Val at h1
    unfold mixE
    cases hx : xs j with
    | true => rfl
    | false => rw [hx] at h1; exact h1
  rw [execOp_congr hk (rho_same hee), execOp_asg hk (hu e)]
  refine h f w e hI hf hdesc hanc hle (fun j hj hx => ?_) K hK
  have h1 := hR o ho j (by simpa using hj)
  unfold Val at h1
  rw [hx] at h1
  exact h1
theorem mix_of {o : Oper} {e : Nat → Value} {w : World} (hR : ∀ j, j ∈ deps ops.toList o → Val E X xs j (e j) w) : ∀ j ∈ deps ops.toList o, e j = mixE E xs e j := fun j hj => by
  have h1 := hR j hj
  unfold Val at h1
  unfold mixE
  cases hx : xs j with
  | true => rfl
  | false => rw [hx] at h1; exact h1
theorem plain_of {o : Oper} {e : Nat → Value} {w : World} (hR : ∀ j, j ∈ deps ops.toList o → Val E X xs j (e j) w) (hp : plain ops.toList xs o = true) : ∀ j ∈ deps ops.toList o, e j = E j := fun j hj => by
  have h1 := hR j hj
  have h2 := List.all_eq_true.1 hp j hj
  unfold Val at h1
  rw [show xs j = false by simpa using h2] at h1
  exact h1
/-- A call that may panic. -/
theorem SpecEQ.call {PQ : List PanicEntry → World → Prop} {i : Nat} {o : Oper} (k : Nat) (A : Array Value) (ho : ops[i]? = some o) (hp : (known o.op && plain ops.toList xs o) = true) (hr : ∀ w, (execOp (rho ops.toList a0 E) o).run P w = .ok (.enter k A) w)
    (h : ∀ (f : Nat → Bool) (w : World) (e : Nat → Value), I f e w → f i = false → (∀ n j, anc ops n j i = true → f j = false) → (∀ n j, anc ops n i j = true → f j = true) → Le w0 w → Calls P k A w fun e9 w' => (∃ v, e9 = .returned v ∧ Le w w' ∧ (∀ e', Put ops i e v e' → I (upd f i) e' w') ∧ Val E X xs i v w') ∨ ∃ c, e9 = .panicked c ∧ PQ c w') : SpecEQ P PQ ops a0 w0 I Le E X xs i := by
  rw [Bool.and_eq_true] at hp
  intro f w e hI hf hanc hdesc hle hR K hK o' ho'
  obtain rfl : o = o' := Option.some.inj (ho.symm.trans ho')
  rw [execOp_congr hp.1 (rho_same (plain_of (hR o ho) hp.2)), hr w]
  refine (h f w e hI hf hdesc hanc hle).mono fun e9 w' hq => ?_
  rcases hq with ⟨v, he, h1, h2, h3⟩ | ⟨c, he, h1⟩
  · rw [he]
    exact hK v w' h1 h2 h3
  · rw [he]
    exact h1
/-- A store of what was told. -/
theorem SpecE.stx {i : Nat} {o : Oper} {T : TypeId} {y x : Operand} {q : Addr} (j : Nat) (ho : ops[i]? = some o := by rfl) (hop : o.op = .store T y x := by rfl) (hy : ∀ e, rho ops.toList a0 (mixE E xs e) y = .pointer (some q)) (hx : ∀ e, rho ops.toList a0 (mixE E xs e) x = e j) (hn : E i = undef := by rfl) (hxs : xs i = false := by rfl)
    (h : ∀ (f : Nat → Bool) (w : World) (e : Nat → Value), I f e w → f i = false → (∀ n j, anc ops n j i = true → f j = false) → (∀ n j, anc ops n i j = true → f j = true) → Le w0 w → ∃ w', (storeVar T q (e j)).run P w = .ok () w' ∧ Le w w' ∧ ∀ e', Put ops i e undef e' → I (upd f i) e' w') : SpecE P ops a0 w0 I Le E X xs i := by
  intro f w e hI hf hanc hdesc hle hR K hK o' ho'
  obtain rfl : o = o' := Option.some.inj (ho.symm.trans ho')
  obtain ⟨w', h1, h2, h3⟩ := h f w e hI hf hdesc hanc hle
  have e1 : (execOp (rho ops.toList a0 e) o).run P w = .ok .skip w' := by
    rw [execOp_congr (by rw [hop]; rfl) (rho_same (mix_of (hR o ho)))]
    unfold execOp
    simp only [hop, hx e, hy e, Instr.storeAt, Instr.sureAddr, Sem.run_bind, Sem.run_pure, Result.andThen_ok, h1]
  rw [e1]
  exact hK undef w' h2 h3 (by unfold Val; rw [hxs, hn])
end
end Go.Rel

namespace Go.Proofs.Ytbhhalkpghcflaa
open Go.RowKit
set_option linter.unusedSimpArgs false
/-- 'x, .. := f(..)' where x lies in a new block (laid by iA, stored by iS) and f (iC) changes an object and may grow it; Q Sx w: the object as f left it, all of it in Sx; M: what f changes of what was. -/
structure AlE (iC iA iS : Nat) (zs vs : Array Value) (T : TypeId) (w0 : World) (S0 M : Nat → Prop) (Q : (Nat → Prop) → World → Prop) (f : Nat → Bool) (e : Nat → Value) (w : World) : Prop where
  ahead : f iC = false → Below w0.heap.size w0 w
  done_ : f iC = true → ∃ Sx, Q Sx w ∧ (∀ k, Sx k → k < w.heap.size ∧ (S0 k ∨ w0.heap.size ≤ k)) ∧ But M w0 w ∧ (f iA = true → ∀ X, e iA = .pointer (some ⟨X, 0, none⟩) → ¬ Sx X)
  size : w0.heap.size ≤ w.heap.size
  laid : f iA = true → f iS = false → ∃ X, e iA = .pointer (some ⟨X, 0, none⟩) ∧ w0.heap.size ≤ X ∧ w.heap[X]? = some (.cells zs T (0, 0))
  fin : f iS = true → ∃ X, e iA = .pointer (some ⟨X, 0, none⟩) ∧ w0.heap.size ≤ X ∧ w.heap[X]? = some (.cells vs T (0, 0))
section
variable {ops : Array Oper} {iC iA iS : Nat} {zs vs : Array Value} {T : TypeId} {w0 w w' : World} {S0 M : Nat → Prop} {Q : (Nat → Prop) → World → Prop} {f : Nat → Bool} {e e' : Nat → Value} {v : Value}
theorem ale_off {j m : Nat} (h : j ≠ m) : Go.Rel.upd f j m = f m := by
  unfold Go.Rel.upd
  have : (m == j) = false := by rw [beq_eq_false_iff_ne]; exact fun e => h e.symm
  rw [this, Bool.false_or]
theorem ale_on (j : Nat) : Go.Rel.upd f j j = true := by unfold Go.Rel.upd; simp
theorem AlE.start (e : Nat → Value) : AlE iC iA iS zs vs T w0 S0 M Q (fun _ => false) e { w0 with drawn := w0.drawn + 1 } :=
  ⟨fun _ => ⟨rfl, rfl, rfl, Nat.le_refl _, fun _ _ => rfl⟩, (fun h => by cases h), Nat.le_refl _, (fun h => by cases h), (fun h => by cases h)⟩
theorem AlE.keep {j : Nat} (hj : [iC, iA, iS].contains j = false) (h : AlE iC iA iS zs vs T w0 S0 M Q f e w) (hp : Go.Rel.Put ops j e v e') : AlE iC iA iS zs vs T w0 S0 M Q (Go.Rel.upd f j) e' w := by
  simp only [List.contains_cons, List.contains_nil, Bool.or_false, Bool.or_eq_false_iff, beq_eq_false_iff_ne] at hj
  obtain ⟨j1, j2, j3⟩ := hj
  have h2 := hp.1 iA (Ne.symm j2)
  refine ⟨?_, ?_, h.size, ?_, ?_⟩
  · rw [ale_off j1]; exact h.ahead
  · rw [ale_off j1, ale_off j2, h2]; exact h.done_
  · rw [ale_off j2, ale_off j3, h2]; exact h.laid
  · rw [ale_off j3, h2]; exact h.fin
/-- A call that only lays blocks, ahead of the call. -/
theorem AlE.quiet {j : Nat} (hj : [iC, iA, iS].contains j = false) (h : AlE iC iA iS zs vs T w0 S0 M Q f e w) (zC : f iC = false) (hb : Below w.heap.size w w') (hp : Go.Rel.Put ops j e v e') : AlE iC iA iS zs vs T w0 S0 M Q (Go.Rel.upd f j) e' w' := by
  simp only [List.contains_cons, List.contains_nil, Bool.or_false, Bool.or_eq_false_iff, beq_eq_false_iff_ne] at hj
  obtain ⟨j1, j2, j3⟩ := hj
  have h2 := hp.1 iA (Ne.symm j2)
  refine ⟨?_, ?_, Nat.le_trans h.size hb.size, ?_, ?_⟩
  · rw [ale_off j1]; exact fun z => (h.ahead z).trans (hb.mono h.size)
  · rw [ale_off j1, zC]; exact fun z => by cases z
  · rw [ale_off j2, ale_off j3, h2]
    intro z1 z2
    obtain ⟨X, k1, k2, k3⟩ := h.laid z1 z2
    exact ⟨X, k1, k2, (hb.block X (block_lt k3)).trans k3⟩
  · rw [ale_off j3, h2]
    intro z1
    obtain ⟨X, k1, k2, k3⟩ := h.fin z1
    exact ⟨X, k1, k2, (hb.block X (block_lt k3)).trans k3⟩
theorem AlE.call (h : AlE iC iA iS zs vs T w0 S0 M Q f e w) (hj : iC ≠ iA ∧ iC ≠ iS) (zC : f iC = false) (zS : f iS = false) (h0 : ∀ k, S0 k → k < w0.heap.size) (hm : ∀ k, M k → k < w0.heap.size) (hb : But M w w') (hq : Q (fun k => (S0 k ∨ w.heap.size ≤ k) ∧ k < w'.heap.size) w') (hp : Go.Rel.Put ops iC e v e') : AlE iC iA iS zs vs T w0 S0 M Q (Go.Rel.upd f iC) e' w' := by
  have h2 := hp.1 iA (Ne.symm hj.1)
  refine ⟨(fun e => by rw [ale_on] at e; cases e), fun _ => ⟨_, hq, fun k hk => ⟨hk.2, hk.1.imp id fun e => Nat.le_trans h.size e⟩, (But.of_below (h.ahead zC)).trans hb, ?_⟩, Nat.le_trans h.size hb.size, ?_, ?_⟩
  · rw [ale_off hj.1, h2]
    intro e1 X hX hk
    obtain ⟨X', k1, k2, k3⟩ := h.laid e1 zS
    rw [k1] at hX
    simp only [Value.pointer.injEq, Option.some.injEq, Addr.mk.injEq] at hX
    obtain ⟨rfl, _⟩ := hX
    rcases hk.1 with e | e
    · exact absurd (h0 _ e) (by omega)
    · exact absurd (block_lt k3) (by omega)
  · rw [ale_off hj.1, ale_off hj.2, h2]
    intro e1 e2
    obtain ⟨X, k1, k2, k3⟩ := h.laid e1 e2
    exact ⟨X, k1, k2, (hb.block X (block_lt k3) (fun e => absurd (hm X e) (by omega))).trans k3⟩
  · rw [ale_off hj.2, zS]; exact fun e => by cases e
theorem AlE.alloc (h : AlE iC iA iS zs vs T w0 S0 M Q f e w) (hj : iA ≠ iC ∧ iA ≠ iS) (zS : f iS = false) (hQ : ∀ Sx w w' S', Q Sx w → But S' w w' → (∀ k, S' k → ¬ Sx k) → Q Sx w') (hd : ((ops[iA]?).bind (·.dst)).isSome = true)
    (hp : Go.Rel.Put ops iA e (.pointer (some ⟨w.heap.size, 0, none⟩)) e') : AlE iC iA iS zs vs T w0 S0 M Q (Go.Rel.upd f iA) e' (w.alloc (.cells zs T)) := by
  have hb : Below w.heap.size w (w.alloc (.cells zs T)) := (Below.refl _ w).alloc (Nat.le_refl _) _
  have he := hp.2 hd
  refine ⟨?_, ?_, Nat.le_trans h.size hb.size, fun _ _ => ⟨w.heap.size, he, h.size, heap_alloc_new _ _⟩, ?_⟩
  · rw [ale_off hj.1]; exact fun e => (h.ahead e).trans (hb.mono h.size)
  · rw [ale_off hj.1]
    intro e1
    obtain ⟨Sx, h1, h2, h3, _⟩ := h.done_ e1
    refine ⟨Sx, hQ Sx _ _ (fun _ => False) h1 (But.of_below hb) (fun _ h => h.elim), fun k hk => ⟨Nat.lt_of_lt_of_le (h2 k hk).1 hb.size, (h2 k hk).2⟩, h3.trans (But.of_below hb), fun _ X hX hk => ?_⟩
    rw [he] at hX
    simp only [Value.pointer.injEq, Option.some.injEq, Addr.mk.injEq] at hX
    obtain ⟨rfl, _⟩ := hX
    exact absurd (h2 _ hk).1 (by omega)
  · rw [ale_off hj.2, zS]; exact fun e => by cases e
theorem AlE.store (h : AlE iC iA iS zs vs T w0 S0 M Q f e w) (hj : iA ≠ iS ∧ iC ≠ iS) (zA : f iA = true) (zC : f iC = true)
    (hQ : ∀ Sx w w' S', Q Sx w → But S' w w' → (∀ k, S' k → ¬ Sx k) → Q Sx w') {X : Nat} (k1 : e iA = .pointer (some ⟨X, 0, none⟩)) (k2 : w0.heap.size ≤ X) (hw : But (· = X) w w' ∧ w'.heap[X]? = some (.cells vs T (0, 0)))
    (hp : Go.Rel.Put ops iS e v e') : AlE iC iA iS zs vs T w0 S0 M Q (Go.Rel.upd f iS) e' w' := by
  obtain ⟨hb, hx⟩ := hw
  have he := hp.1 iA hj.1
  refine ⟨?_, ?_, Nat.le_trans h.size hb.size, ?_, ?_⟩
  · rw [ale_off (Ne.symm hj.2), zC]; exact fun e => by cases e
  · rw [ale_off (Ne.symm hj.2), ale_off (Ne.symm hj.1), he]
    intro e1
    obtain ⟨Sx, h1, h2, h3, h4⟩ := h.done_ e1
    have hn : ¬ Sx X := h4 zA X k1
    exact ⟨Sx, hQ Sx _ _ _ h1 hb (fun k e => by rw [e]; exact hn), fun k hk => ⟨Nat.lt_of_lt_of_le (h2 k hk).1 hb.size, (h2 k hk).2⟩, h3.then_ hb (fun i e hi => absurd k2 (by have : i = X := e; omega)), h4⟩
  · intro _ e2
    rw [ale_on] at e2; cases e2
  · intro _
    rw [he]
    exact ⟨X, k1, k2, hx⟩
end
end Go.Proofs.Ytbhhalkpghcflaa
