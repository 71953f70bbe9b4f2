/-
  A region that draws its order, by a table of its operations' values (own law, of whatever program): what only reckons is shown for all such operations by one line; loads, calls, stores are shown one by one, by a law a kind; behind it the whole frame is told (finL).
-/
import Derived.Test.YtbhhalkpghcflaaZj6
namespace Go.Rel
open Go Go.RowKit

/-- What an operation reads, of the kinds that are known here. -/
def uses : Op → List Operand
  | .move x | .assign x | .nilCheck x | .box _ x | .load _ x | .unOp _ _ x | .convert _ _ x | .makeInterface _ x | .fieldAddr _ x _ | .field _ x _ | .extract x _ => [x]
  | .pick c a b => [c, a, b]
  | .build _ parts | .buildSlice _ _ parts => parts.toList.map (·.2)
  | .store _ a x | .binOp _ _ a x _ | .indexAddr _ a x | .index _ a x | .lookup _ a x _ | .makeSlice _ a x => [a, x]
  | .mapUpdate _ m k x => [m, k, x]
  | .makeFunc _ first captured => first.toList ++ captured.toList
  | .slice _ x lo hi mx => x :: (lo.toList ++ hi.toList ++ mx.toList)
  | .call c => (match c.callee with | .value f => [f] | .invoke r _ => [r] | .builtin _ => []) ++ c.args.toList
  | _ => []
def known : Op → Bool
  | .move _ | .assign _ | .nilCheck _ | .box _ _ | .load _ _ | .unOp _ _ _ | .convert _ _ _ | .makeInterface _ _ | .fieldAddr _ _ _ | .field _ _ _ | .extract _ _ | .pick _ _ _ | .build _ _ | .buildSlice _ _ _ | .alloc _
  | .store _ _ _ | .binOp _ _ _ _ _ | .indexAddr _ _ _ | .index _ _ _ | .lookup _ _ _ _ | .makeSlice _ _ _ | .mapUpdate _ _ _ _ | .makeFunc _ _ _ | .slice _ _ _ _ _ | .call _ => true
  | _ => false
theorem map_same {α β : Type} {f g : α → β} (l : Array α) (h : ∀ x ∈ l.toList, f x = g x) : l.map f = l.map g := by
  apply Array.ext_getElem?
  intro i
  rw [Array.getElem?_map, Array.getElem?_map]
  cases hx : l[i]? with
  | none => rfl
  | some x => rw [Option.map_some, Option.map_some, h x (by simpa using Array.mem_of_getElem? hx)]
theorem opt_same {α β : Type} {f g : α → β} (o : Option α) (h : ∀ x ∈ o.toList, f x = g x) : o.map f = o.map g := by
  cases o with
  | none => rfl
  | some x => rw [Option.map_some, Option.map_some, h x (by simp)]
theorem execOp_congr {o : Oper} {r s : Operand → Value} (hk : known o.op = true) (h : ∀ x ∈ uses o.op, r x = s x) : execOp r o = execOp s o := by
  obtain ⟨dst, op, type, pos, after, guard⟩ := o
  cases op <;> simp only [known, Bool.false_eq_true] at hk
  all_goals simp only [uses, List.mem_cons, List.mem_append, List.not_mem_nil, or_false, forall_eq_or_imp, forall_eq, List.mem_map, forall_exists_index, and_imp, forall_apply_eq_imp_iff₂] at h
  case build t parts => simp only [execOp]; rw [map_same parts (f := fun q => (q.1, r q.2)) (g := fun q => (q.1, s q.2)) fun q hq => by rw [h q hq]]
  case buildSlice t n parts => simp only [execOp]; rw [map_same parts (f := fun q => (q.1, r q.2)) (g := fun q => (q.1, s q.2)) fun q hq => by rw [h q hq]]
  case makeFunc fn first captured => simp only [execOp]; rw [map_same first fun x hx => h x (.inl hx), map_same captured fun x hx => h x (.inr hx)]
  case slice t x lo hi mx => simp only [execOp]; rw [h.1, opt_same lo fun y hy => h.2 y (.inl (.inl hy)), opt_same hi fun y hy => h.2 y (.inl (.inr hy)), opt_same mx fun y hy => h.2 y (.inr hy)]
  case call c =>
    obtain ⟨callee, args, tys⟩ := c
    have ha : args.map r = args.map s := map_same args fun x hx => h x (.inr hx)
    cases callee with
    | value f => simp only [execOp, resolve]; rw [ha, h f (.inl (by simp))]
    | invoke r2 n => simp only [execOp, resolve]; rw [ha, h r2 (.inl (by simp))]
    | builtin b => simp only [execOp, resolve]; rw [ha]
  all_goals simp only [execOp, h]
/-- The first operation that writes a slot. -/
def wrL : Nat → List Oper → Tmp → Option Nat
  | _, [], _ => none
  | i, o :: os, t => if o.dst == some t then some i else wrL (i + 1) os t
theorem wrL_some : ∀ {os : List Oper} {i j : Nat} {t : Tmp}, wrL i os t = some j → i ≤ j ∧ ∃ o, os[j - i]? = some o ∧ o.dst = some t
  | o :: os, i, j, t, h => by
    rw [wrL] at h
    split at h
    · next e =>
      cases h
      exact ⟨Nat.le_refl _, o, by simp, by simpa using e⟩
    · obtain ⟨h1, o', h2, h3⟩ := wrL_some h
      exact ⟨by omega, o', by rw [show j - i = (j - (i + 1)) + 1 by omega]; simpa using h2, h3⟩
theorem wrL_none : ∀ {os : List Oper} {i : Nat} {t : Tmp}, wrL i os t = none → os.all (fun o => o.dst != some t) = true
  | [], _, _, _ => rfl
  | o :: os, i, t, h => by
    rw [wrL] at h
    split at h
    · cases h
    · next e =>
      rw [List.all_cons, wrL_none h, Bool.and_true]
      simpa using e
/-- What an operand is, by a table of the operations' values. -/
def rho (l : List Oper) (a0 : Act) (E : Nat → Value) : Operand → Value
  | .tmp t => match wrL 0 l t with | some j => E j | none => a0.tmps.getD t undef
  | x => a0.eval x
/-- On which operations an operation hangs: those that write what it reads, and its guard. -/
def deps (l : List Oper) (o : Oper) : List Nat := ((uses o.op).filterMap fun | .tmp t => wrL 0 l t | _ => none) ++ (match o.guard with | some (j, _) => [j] | none => [])
def tied (l : List Oper) (o : Oper) : Bool := known o.op && (deps l o).all fun j => o.after.any (fun e => e.on == j && Region.binds .any e) && (((l[j]?).bind (·.dst)).isSome)
def wantE (E : Nat → Value) (o : Oper) : Bool := match o.guard with | none => true | some (j, b) => match E j with | .bool c => c == b | _ => false
/-- What the walk asks of a region once and for all. -/
def static (ops : Array Oper) (n : Nat) : Bool := orderly ops && onceEach ops && inFrame ops n && ops.toList.all (tied ops.toList)
/-- The frame behind a region. -/
def finL : Nat → List Oper → (Nat → Value) → Array Value → Array Value
  | _, [], _, t => t
  | i, o :: os, ea, t => finL (i + 1) os ea (match o.dst with | some d => t.setIfInBounds d (ea i) | none => t)
/-- What an operation has done, with what follows. -/
def Runs (P : Program) (r : Result Next) (K : Value → World → Prop) : Prop := match r with
  | .ok (.value v) w => K v w
  | .ok .skip w => K undef w
  | .ok (.enter f args) w => Calls P f args w fun | .returned v, w' => K v w' | _, _ => False
  | _ => False
/-- The same where a call may panic: PQ tells with what, and in which world. -/
def RunsQ (P : Program) (PQ : List PanicEntry → World → Prop) (r : Result Next) (K : Value → World → Prop) : Prop := match r with
  | .ok (.value v) w => K v w
  | .ok .skip w => K undef w
  | .ok (.enter f args) w => Calls P f args w fun | .returned v, w' => K v w' | .panicked c, w' => PQ c w' | _, _ => False
  | _ => False
theorem runsQ_of_runs {P : Program} {PQ : List PanicEntry → World → Prop} {r : Result Next} {K : Value → World → Prop} (h : Runs P r K) : RunsQ P PQ r K := by
  unfold Runs at h
  unfold RunsQ
  split at h
  · exact h
  · exact h
  · refine Calls.mono h fun e w' hp => ?_
    cases e with
    | returned v => exact hp
    | panicked c => exact hp.elim
    | outgrown => exact hp.elim
  · exact h.elim
theorem upon_of_runsQ {P : Program} {PQ : List PanicEntry → World → Prop} {o : Oper} {a : Act} {Q : Exit → Act → World → Prop} {K : Act → World → Prop} {r : Result Next} (hq : ∀ c w', PQ c w' → Q (.panic c) a w') (h : RunsQ P PQ r fun v w => K (a.put o.dst v) w) : o.upon P a K Q r := by
  unfold RunsQ at h
  split at h
  · exact h
  · exact h
  · rw [Oper.upon_enter]
    refine Calls.mono h fun e w' hp => ?_
    cases e with
    | returned v => exact hp
    | panicked c => exact hq c w' hp
    | outgrown => exact hp.elim
  · exact h.elim
theorem upon_of_runs {P : Program} {o : Oper} {a : Act} {Q : Exit → Act → World → Prop} {K : Act → World → Prop} {r : Result Next} (h : Runs P r fun v w => K (a.put o.dst v) w) : o.upon P a K Q r := by
  unfold Runs at h
  split at h
  · exact h
  · exact h
  · rw [Oper.upon_enter]
    refine Calls.mono h fun e w' hp => ?_
    cases e with
    | returned v => exact hp
    | panicked c => exact hp.elim
    | outgrown => exact hp.elim
  · exact h.elim
section
variable {P : Program} {ops : Array Oper} {Q : Exit → Act → World → Prop} {a0 : Act} {w0 : World} {I : (Nat → Bool) → World → Prop} {Le : World → World → Prop} {E : Nat → Value} {X : Nat → Value → World → Prop} {xs sp : Nat → Bool}
/-- What is known of an operation's value. -/
def Val (E : Nat → Value) (X : Nat → Value → World → Prop) (xs : Nat → Bool) (i : Nat) (v : Value) (w : World) : Prop := match xs i with | true => X i v w | false => v = E i
/-- An operation that only reckons. -/
def PureOk (P : Program) (l : List Oper) (a0 : Act) (E : Nat → Value) (sp : Nat → Bool) (i : Nat) (o : Oper) : Prop :=
  sp i = true ∨ (wantE E o = true ∧ ∀ w, (execOp (rho l a0 E) o).run P w = .ok (.value (E i)) w) ∨ (wantE E o = false ∧ E i = undef)
/-- An operation that does more. -/
def SpecOk (P : Program) (ops : Array Oper) (a0 : Act) (w0 : World) (I : (Nat → Bool) → World → Prop) (Le : World → World → Prop) (E : Nat → Value) (X : Nat → Value → World → Prop) (xs : Nat → Bool) (i : Nat) : Prop :=
  ∀ (f : Nat → Bool) (w : World) (e : Nat → Value), I f w → f i = false → (∀ n j, anc ops n i j = true → f j = true) → (∀ n j, anc ops n j i = true → f j = false) → Le w0 w → (∀ o, ops[i]? = some o → ∀ j, j ∈ deps ops.toList o → Val E X xs j (e j) w) →
    ∀ K : Value → World → Prop, (∀ v w', Le w w' → I (upd f i) w' → Val E X xs i v w' → K v w') → ∀ o, ops[i]? = some o → Runs P ((execOp (rho ops.toList a0 e) o).run P w) K
/-- The same where a call may panic. -/
def SpecQ (P : Program) (PQ : List PanicEntry → World → Prop) (ops : Array Oper) (a0 : Act) (w0 : World) (I : (Nat → Bool) → World → Prop) (Le : World → World → Prop) (E : Nat → Value) (X : Nat → Value → World → Prop) (xs : Nat → Bool) (i : Nat) : Prop :=
  ∀ (f : Nat → Bool) (w : World) (e : Nat → Value), I f w → f i = false → (∀ n j, anc ops n i j = true → f j = true) → (∀ n j, anc ops n j i = true → f j = false) → Le w0 w → (∀ o, ops[i]? = some o → ∀ j, j ∈ deps ops.toList o → Val E X xs j (e j) w) →
    ∀ K : Value → World → Prop, (∀ v w', Le w w' → I (upd f i) w' → Val E X xs i v w' → K v w') → ∀ o, ops[i]? = some o → RunsQ P PQ ((execOp (rho ops.toList a0 e) o).run P w) K
theorem SpecOk.q {P : Program} {ops : Array Oper} {a0 : Act} {w0 : World} {I : (Nat → Bool) → World → Prop} {Le : World → World → Prop} {E : Nat → Value} {X : Nat → Value → World → Prop} {xs : Nat → Bool} {i : Nat} (PQ : List PanicEntry → World → Prop) (h : SpecOk P ops a0 w0 I Le E X xs i) : SpecQ P PQ ops a0 w0 I Le E X xs i :=
  fun f w e h1 h2 h3 h4 h5 h6 K hK o ho => runsQ_of_runs (h f w e h1 h2 h3 h4 h5 h6 K hK o ho)
/-- Where values are told by what they are alone: which operations hang on such, and that what does more is wanted. -/
def apart (l : List Oper) (E : Nat → Value) (xs sp : Nat → Bool) : Nat → List Oper → Bool
  | _, [] => true
  | i, o :: os => (if sp i then wantE E o && (match o.guard with | some (j, _) => !xs j | none => true) else (deps l o).all (fun j => !xs j) && !xs i) && apart l E xs sp (i + 1) os
theorem apart_spec {l : List Oper} : ∀ {os : List Oper} {i : Nat}, apart l E xs sp i os = true → ∀ (j : Nat) (o : Oper), os[j]? = some o → (sp (i + j) = true → wantE E o = true ∧ (match o.guard with | some (j, _) => xs j = false | none => True)) ∧ (sp (i + j) = false → (∀ q ∈ deps l o, xs q = false) ∧ xs (i + j) = false)
  | [], _, _, _, _, h => by simp at h
  | o :: os, i, h, 0, o', h' => by
    obtain rfl : o = o' := by simpa using h'
    rw [apart, Bool.and_eq_true] at h
    refine ⟨fun e => ?_, fun e => ?_⟩
    · rw [Nat.add_zero] at e
      have h1 := h.1
      rw [if_pos e, Bool.and_eq_true] at h1
      refine ⟨h1.1, ?_⟩
      cases hg : o.guard with
      | none => trivial
      | some g =>
        have := h1.2
        rw [hg] at this
        simpa using this
    · rw [Nat.add_zero] at e ⊢
      have h1 := h.1
      rw [if_neg (by rw [e]; exact Bool.false_ne_true), Bool.and_eq_true, List.all_eq_true] at h1
      exact ⟨fun q hq => by simpa using h1.1 q hq, by simpa using h1.2⟩
  | o :: os, i, h, j + 1, o', h' => by
    rw [apart, Bool.and_eq_true] at h
    have := apart_spec h.2 j o' (by simpa using h')
    rwa [show i + 1 + j = i + (j + 1) by omega] at this
theorem finL_eq {a : Act} {e : Nat → Value} : ∀ (os : List Oper) (i : Nat) (t : Array Value), (∀ j o d, os[j]? = some o → o.dst = some d → e (i + j) = a.tmps.getD d undef) → finL i os e t = os.foldl (reset a) t
  | [], _, _, _ => rfl
  | o :: os, i, t, h => by
    rw [finL, List.foldl_cons, finL_eq os (i + 1) _ fun j o' d h1 h2 => by have := h (j + 1) o' d (by simpa using h1) h2; rwa [show i + (j + 1) = i + 1 + j by omega] at this]
    congr 1
    unfold reset
    cases hd : o.dst with
    | none => rfl
    | some d =>
      have := h 0 o d (by simp) hd
      rw [Nat.add_zero] at this
      simp only [this]
theorem Each.of {F : Nat → Oper → Prop} : ∀ {os : List Oper} {i : Nat}, (∀ j o, os[j]? = some o → F (i + j) o) → Each F i os
  | [], _, _ => trivial
  | o :: os, i, h => ⟨h 0 o (by simp), Each.of fun j o' h' => by have := h (j + 1) o' (by simpa using h'); rwa [show i + (j + 1) = i + 1 + j by omega] at this⟩
/-- The operations' values as they stand in a frame. -/
def eaOf (ops : Array Oper) (a : Act) (j : Nat) : Value := match (ops[j]?).bind (·.dst) with | some t => a.tmps.getD t undef | none => undef
theorem wrL_dst {l : List Oper} {t : Tmp} {j : Nat} (h : wrL 0 l t = some j) : ∃ o, l[j]? = some o ∧ o.dst = some t := by
  obtain ⟨_, o, h1, h2⟩ := wrL_some h
  exact ⟨o, by simpa using h1, h2⟩
/-- What an operation hangs on is known where it runs. -/
theorem dep_known {a : Act} {w : World} {R : Nat → Value → World → Prop} {o : Oper} (ht : tied ops.toList o = true) (hd : ∀ j t, needs ops o j t = true → ∃ v, a.tmps[t]? = some v ∧ R j v w) : ∀ j ∈ deps ops.toList o, R j (eaOf ops a j) w ∧ ∃ t, (ops[j]?).map (·.dst) = some (some t) ∧ a.tmps[t]? = some (eaOf ops a j) := by
  intro j hj
  unfold tied at ht
  rw [Bool.and_eq_true, List.all_eq_true] at ht
  have h1 := ht.2 j hj
  rw [Bool.and_eq_true] at h1
  obtain ⟨h1, h2⟩ := h1
  cases ho : ops.toList[j]? with
  | none => rw [ho] at h2; cases h2
  | some oj =>
    rw [ho] at h2
    obtain ⟨t, htj⟩ := Option.isSome_iff_exists.1 h2
    have htj' : oj.dst = some t := by simpa using htj
    have ho' : ops[j]? = some oj := by simpa using ho
    obtain ⟨v, hv, hr⟩ := hd j t (by unfold needs; rw [h1, ho', Option.map_some, htj']; simp)
    have e : eaOf ops a j = v := by
      unfold eaOf
      rw [ho', Option.bind_some, htj']
      simp [Array.getD_eq_getD_getElem?, hv]
    rw [e]
    exact ⟨hr, t, by rw [ho', Option.map_some, htj'], hv⟩
theorem eval_rho {a : Act} {o : Oper} (hs : Same ops a0 a) : ∀ x ∈ uses o.op, a.eval x = rho ops.toList a0 (eaOf ops a) x := by
  intro x _
  cases x with
  | tmp t =>
    show a.tmps.getD t undef = match wrL 0 ops.toList t with | some j => eaOf ops a j | none => a0.tmps.getD t undef
    cases hw : wrL 0 ops.toList t with
    | none =>
      have := hs.2.2 t (by rw [← Array.all_toList]; exact wrL_none hw)
      simp only [Array.getD_eq_getD_getElem?, this]
    | some j =>
      obtain ⟨o', h1, h2⟩ := wrL_dst hw
      have h1' : ops[j]? = some o' := by simpa using h1
      show _ = eaOf ops a j
      unfold eaOf
      rw [h1', Option.bind_some, h2]
  | const v => rfl
  | global g => rfl
  | func f => rfl
theorem want_e {a : Act} {w : World} {o : Oper} {R : Nat → Value → World → Prop} (hk : ∀ j ∈ deps ops.toList o, R j (eaOf ops a j) w ∧ ∃ t, (ops[j]?).map (·.dst) = some (some t) ∧ a.tmps[t]? = some (eaOf ops a j)) : Region.wanted o (yielded ops a.tmps) = wantE (eaOf ops a) o := by
  unfold Region.wanted wantE
  cases hg : o.guard with
  | none => rfl
  | some g =>
    obtain ⟨j, b⟩ := g
    obtain ⟨_, t, h1, h2⟩ := hk j (by unfold deps; rw [hg]; simp)
    have h3 : yielded ops a.tmps j = match some (eaOf ops a j) with | some (.bool c) => some c | _ => none := by
      unfold yielded
      cases ho : ops[j]? with
      | none => rw [ho] at h1; simp at h1
      | some oj =>
        rw [ho] at h1
        have hd : oj.dst = some t := by simpa using h1
        rw [Option.bind_some, hd, Option.bind_some, h2]
        cases eaOf ops a j <;> rfl
    simp only [h3]
    cases eaOf ops a j <;> simp
theorem rho_same {l : List Oper} {e e' : Nat → Value} {o : Oper} (h : ∀ j ∈ deps l o, e j = e' j) : ∀ x ∈ uses o.op, rho l a0 e x = rho l a0 e' x := by
  intro x hx
  cases x with
  | tmp t =>
    show (match wrL 0 l t with | some j => e j | none => _) = (match wrL 0 l t with | some j => e' j | none => _)
    cases hw : wrL 0 l t with
    | none => rfl
    | some j => exact h j (by unfold deps; rw [List.mem_append]; exact .inl (List.mem_filterMap.2 ⟨.tmp t, hx, hw⟩))
  | const v => rfl
  | global g => rfl
  | func f => rfl
theorem wantE_same {l : List Oper} {e e' : Nat → Value} {o : Oper} (h : ∀ j ∈ deps l o, e j = e' j) : wantE e o = wantE e' o := by
  unfold wantE
  cases hg : o.guard with
  | none => rfl
  | some g =>
    obtain ⟨j, b⟩ := g
    simp only
    rw [h j (by unfold deps; rw [hg]; simp)]
theorem wp_tabq {id : Nat} (hm : P.follows .mixedOrders = true) (hst : static ops a0.tmps.size = true)
    (I : (Nat → Bool) → World → Prop) (Le : World → World → Prop) (refl : ∀ w, Le w w) (trans : ∀ a b c, Le a b → Le b c → Le a c) (drew : Le w0 { w0 with drawn := w0.drawn + 1 }) (start : I (fun _ => false) { w0 with drawn := w0.drawn + 1 })
    (E : Nat → Value) (X : Nat → Value → World → Prop) (xs sp : Nat → Bool) (hap : apart ops.toList E xs sp 0 ops.toList = true)
    (stable : ∀ i v w w', X i v w → Le w w' → X i v w') (hread : ∀ f w i, sp i = false → I f w → I (upd f i) w)
    (PQ : List PanicEntry → World → Prop) (hpan : ∀ c a w, Same ops a0 a → PQ c w → Q (.panic c) a w)
    (hpure : Each (PureOk P ops.toList a0 E sp) 0 ops.toList)
    (hspec : ∀ i, sp i = true → SpecQ P PQ ops a0 w0 I Le E X xs i)
    (hend : ∀ f w (e : Nat → Value), (∀ i, i < ops.size → f i = true) → I f w → Le w0 w → (∀ (i : Nat), ((ops[i]?).bind (·.dst)).isSome = true → Val E X xs i (e i) w) → Q .normal { tmps := finL 0 ops.toList e a0.tmps, defers := a0.defers } w) :
    (Code.region id ops true).wp P Q a0 w0 := by
  simp only [static, Bool.and_eq_true] at hst
  obtain ⟨⟨⟨h1, h2⟩, h3⟩, h4⟩ := hst
  rw [List.all_eq_true] at h4
  have hE : ∀ (i : Nat) (o : Oper), ops[i]? = some o → tied ops.toList o = true := fun i o h => h4 o (by simpa using Array.mem_of_getElem? h)
  refine wp_region_states hm h1 h2 h3 I Le trans drew start (Val E X xs) (fun i v w w' h hl => ?_) ?_ ?_
  · unfold Val at h ⊢
    split at h
    · exact stable i v w w' h hl
    · exact h
  · refine Each.of fun i o ho => ?_
    rw [Nat.zero_add]
    have ho' : ops[i]? = some o := by simpa using ho
    have htd := hE i o ho'
    have hkn : known o.op = true := by unfold tied at htd; exact (Bool.and_eq_true _ _ ▸ htd).1
    have hA := apart_spec hap i o ho
    rw [Nat.zero_add] at hA
    intro f a w hI hf hanc hdesc hle hs hd K hK
    have hk := dep_known htd hd
    have hev := eval_rho (o := o) hs
    have hwt := want_e hk
    have hrun : execOp a.eval o = execOp (rho ops.toList a0 (eaOf ops a)) o := execOp_congr hkn hev
    unfold stepOf
    rw [hwt]
    cases hsp : sp i with
    | true =>
      obtain ⟨g1, g2⟩ := hA.1 hsp
      have hw : wantE (eaOf ops a) o = true := by
        rw [← g1]
        unfold wantE
        cases hg : o.guard with
        | none => rfl
        | some g =>
          obtain ⟨j, b⟩ := g
          have hj := (hk j (by unfold deps; rw [hg]; simp)).1
          rw [hg] at g2
          have g2' : xs j = false := g2
          unfold Val at hj
          rw [g2'] at hj
          simp only
          rw [show eaOf ops a j = E j from hj]
      rw [if_pos hw]
      refine upon_of_runsQ (fun c w' hp => hpan c a w' hs hp) ?_
      rw [hrun]
      exact hspec i hsp f w _ hI hf hanc hdesc hle (fun o2 h2 j hj => by
        obtain rfl : o = o2 := Option.some.inj (ho'.symm.trans h2)
        exact (hk j hj).1) _ (fun v w' a1 a2 a3 => hK v w' a1 a2 a3) o ho'
    | false =>
      obtain ⟨g1, g2⟩ := hA.2 hsp
      have hee : ∀ j ∈ deps ops.toList o, eaOf ops a j = E j := fun j hj => by
        have := (hk j hj).1
        unfold Val at this
        rw [g1 j hj] at this
        exact this
      have hv : ∀ v, v = E i → Val E X xs i v w := fun v hv => by unfold Val; rw [g2]; exact hv
      rw [wantE_same hee]
      have hp := hpure.get i o ho
      rw [Nat.zero_add] at hp
      rcases hp with hp | ⟨hw, hp⟩ | ⟨hw, hp⟩
      · rw [hsp] at hp; cases hp
      · rw [if_pos hw]
        refine upon_of_runs ?_
        rw [hrun, execOp_congr hkn (rho_same hee), hp w]
        exact hK _ _ (refl w) (hread f w i hsp hI) (hv _ rfl)
      · rw [if_neg (by rw [hw]; exact Bool.false_ne_true)]
        exact hK _ _ (refl w) (hread f w i hsp hI) (hv _ hp.symm)
  · intro f a w hall hI hle hs hR
    have he : a = { tmps := finL 0 ops.toList (eaOf ops a) a0.tmps, defers := a0.defers } := by
      have := hs.shape
      rw [finL_eq (a := a) _ 0 _ fun j o d hj hd => by
        have hj' : ops[j]? = some o := by simpa using hj
        unfold eaOf
        simp only [Nat.zero_add, hj', Option.bind_some, hd]]
      exact this
    rw [he]
    refine hend f w _ hall hI hle fun i hi => ?_
    cases hd : (ops[i]?).bind (·.dst) with
    | none => rw [hd] at hi; cases hi
    | some t =>
      obtain ⟨v, hv, hr⟩ := hR i t (by
        cases ho : ops[i]? with
        | none => rw [ho] at hd; cases hd
        | some o => rw [ho] at hd; simpa using hd)
      have e9 : eaOf ops a i = a.tmps.getD t undef := by unfold eaOf; rw [hd]
      rw [e9, show a.tmps.getD t undef = v by simp [Array.getD_eq_getD_getElem?, hv]]
      exact hr
theorem wp_tab {id : Nat} (hm : P.follows .mixedOrders = true) (hst : static ops a0.tmps.size = true)
    (I : (Nat → Bool) → World → Prop) (Le : World → World → Prop) (refl : ∀ w, Le w w) (trans : ∀ a b c, Le a b → Le b c → Le a c) (drew : Le w0 { w0 with drawn := w0.drawn + 1 }) (start : I (fun _ => false) { w0 with drawn := w0.drawn + 1 })
    (E : Nat → Value) (X : Nat → Value → World → Prop) (xs sp : Nat → Bool) (hap : apart ops.toList E xs sp 0 ops.toList = true)
    (stable : ∀ i v w w', X i v w → Le w w' → X i v w') (last : Nat) (hlast : sp last = true) (hread : ∀ f w i, i ≠ last → I f w → I (upd f i) w)
    (hpure : Each (PureOk P ops.toList a0 E sp) 0 ops.toList)
    (hspec : ∀ i, sp i = true → SpecOk P ops a0 w0 I Le E X xs i)
    (hend : ∀ f w (e : Nat → Value), (∀ i, i < ops.size → f i = true) → I f w → Le w0 w → (∀ (i : Nat), ((ops[i]?).bind (·.dst)).isSome = true → Val E X xs i (e i) w) → Q .normal { tmps := finL 0 ops.toList e a0.tmps, defers := a0.defers } w) :
    (Code.region id ops true).wp P Q a0 w0 := by
  exact wp_tabq hm hst I Le refl trans drew start E X xs sp hap stable (fun f w i h => hread f w i fun e => by rw [e, hlast] at h; cases h) (fun _ _ => False) (fun _ _ _ _ h => h.elim) hpure (fun i h => (hspec i h).q _) hend
/-! ### What is to be shown of the operations that do more -/
def AllOf (F : Nat → Prop) : List Nat → Prop
  | [] => True
  | i :: l => F i ∧ AllOf F l
theorem AllOf.get {F : Nat → Prop} : ∀ {l : List Nat}, AllOf F l → ∀ i, l.contains i = true → F i
  | [], _, i, h => by simp at h
  | j :: l, h, i, hi => by
    rw [List.contains_cons, Bool.or_eq_true, beq_iff_eq] at hi
    rcases hi with rfl | hi
    · exact h.1
    · exact AllOf.get h.2 i hi
/-- Does an operation hang on what is known by its value alone? -/
def plain (l : List Oper) (xs : Nat → Bool) (o : Oper) : Bool := (deps l o).all fun j => !xs j
theorem SpecOk.of {i : Nat} {o : Oper} (ho : ops[i]? = some o) (hk : known o.op = true) (hp : plain ops.toList xs o = true)
    (h : ∀ (f : Nat → Bool) (w : World), I f w → f i = false → (∀ n j, anc ops n j i = true → f j = false) → (∀ n j, anc ops n i j = true → f j = true) → Le w0 w → ∀ K : Value → World → Prop, (∀ v w', Le w w' → I (upd f i) w' → Val E X xs i v w' → K v w') → Runs P ((execOp (rho ops.toList a0 E) o).run P w) K) : SpecOk P ops a0 w0 I Le E X xs i := by
  intro f w e hI hf hanc hdesc hle hR K hK o' ho'
  obtain rfl : o = o' := Option.some.inj (ho.symm.trans ho')
  have hee : ∀ j ∈ deps ops.toList o, e j = E j := fun j hj => by
    have h1 := hR o ho j hj
    have h2 := List.all_eq_true.1 hp j hj
    unfold Val at h1
    rw [show xs j = false by simpa using h2] at h1
    exact h1
  rw [execOp_congr hk (rho_same hee)]
  exact h f w hI hf hdesc hanc hle K hK
/-- Values by the table, but for those that are told by what they are. -/
def mixE (E : Nat → Value) (xs : Nat → Bool) (e : Nat → Value) (j : Nat) : Value := match xs j with | true => e j | false => E j
/-- A read: of a cell, by its address. -/
theorem SpecOk.ld {i last : Nat} {o : Oper} {T : TypeId} {x : Operand} {q : Value} (hread : ∀ f w i, i ≠ last → I f w → I (upd f i) w) (refl : ∀ w, Le w w) (hl : i ≠ last := by decide) (ho : ops[i]? = some o := by rfl) (hop : o.op = .load T x := by rfl) (hx : rho ops.toList a0 E x = q := by kernel_rfl) (hp : plain ops.toList xs o = true := by kernel_rfl) (hxs : xs i = false := by rfl)
    (h : ∀ (f : Nat → Bool) (w : World), I f w → f i = false → (∀ n j, anc ops n j i = true → f j = false) → (∀ n j, anc ops n i j = true → f j = true) → Le w0 w → (Instr.loadAt T q).run P w = .ok (E i) w) : SpecOk P ops a0 w0 I Le E X xs i := by
  refine SpecOk.of ho (by rw [hop]; rfl) hp fun f w hI hf hdesc hanc hle K hK => ?_
  have e : (execOp (rho ops.toList a0 E) o).run P w = .ok (.value (E i)) w := by
    unfold execOp
    simp only [hop, hx, Sem.run_bind, Sem.run_pure, h f w hI hf hdesc hanc hle, Result.andThen_ok]
  rw [e]
  exact hK _ _ (refl w) (hread f w i hl hI) (by unfold Val; rw [hxs])
/-- A slice expression. -/
theorem SpecOk.slice {i last : Nat} {o : Oper} {T : TypeId} {x : Operand} {lo hi mx : Option Operand} {q : Value} {vlo vhi vmx : Option Value} (hread : ∀ f w i, i ≠ last → I f w → I (upd f i) w) (refl : ∀ w, Le w w) (h : ∀ w, (Instr.sliceAt T q vlo vhi vmx).run P w = .ok (E i) w) (hl : i ≠ last := by decide) (ho : ops[i]? = some o := by rfl) (hop : o.op = .slice T x lo hi mx := by rfl) (hx : rho ops.toList a0 E x = q := by kernel_rfl) (hlo : lo.map (rho ops.toList a0 E) = vlo := by kernel_rfl) (hhi : hi.map (rho ops.toList a0 E) = vhi := by kernel_rfl) (hmx : mx.map (rho ops.toList a0 E) = vmx := by kernel_rfl) (hp : plain ops.toList xs o = true := by kernel_rfl) (hxs : xs i = false := by rfl) : SpecOk P ops a0 w0 I Le E X xs i := by
  refine SpecOk.of ho (by rw [hop]; rfl) hp fun f w hI hf hdesc hanc hle K hK => ?_
  have e : (execOp (rho ops.toList a0 E) o).run P w = .ok (.value (E i)) w := by
    unfold execOp
    simp only [hop, hx, hlo, hhi, hmx, Sem.run_bind, Sem.run_pure, h w, Result.andThen_ok]
  rw [e]
  exact hK _ _ (refl w) (hread f w i hl hI) (by unfold Val; rw [hxs])
/-- A call of a function. -/
theorem SpecOk.call {i : Nat} {o : Oper} (k : Nat) (A : Array Value) (ho : ops[i]? = some o) (hp : (known o.op && plain ops.toList xs o) = true) (hr : ∀ w, (execOp (rho ops.toList a0 E) o).run P w = .ok (.enter k A) w)
    (h : ∀ (f : Nat → Bool) (w : World), I f w → f i = false → (∀ n j, anc ops n j i = true → f j = false) → (∀ n j, anc ops n i j = true → f j = true) → Le w0 w → Calls P k A w fun e w' => ∃ v, e = .returned v ∧ Le w w' ∧ I (upd f i) w' ∧ Val E X xs i v w') : SpecOk P ops a0 w0 I Le E X xs i := by
  rw [Bool.and_eq_true] at hp
  refine SpecOk.of ho hp.1 hp.2 fun f w hI hf hdesc hanc hle K hK => ?_
  rw [hr w]
  show Calls P k A w _
  refine (h f w hI hf hdesc hanc hle).mono fun e w' ⟨v, he, h1, h2, h3⟩ => ?_
  rw [he]
  exact hK v w' h1 h2 h3
theorem SpecQ.of {PQ : List PanicEntry → World → Prop} {i : Nat} {o : Oper} (ho : ops[i]? = some o) (hk : known o.op = true) (hp : plain ops.toList xs o = true)
    (h : ∀ (f : Nat → Bool) (w : World), I f w → f i = false → (∀ n j, anc ops n j i = true → f j = false) → (∀ n j, anc ops n i j = true → f j = true) → Le w0 w → ∀ K : Value → World → Prop, (∀ v w', Le w w' → I (upd f i) w' → Val E X xs i v w' → K v w') → RunsQ P PQ ((execOp (rho ops.toList a0 E) o).run P w) K) : SpecQ P PQ ops a0 w0 I Le E X xs i := by
  intro f w e hI hf hanc hdesc hle hR K hK o' ho'
  obtain rfl : o = o' := Option.some.inj (ho.symm.trans ho')
  have hee : ∀ j ∈ deps ops.toList o, e j = E j := fun j hj => by
    have h1 := hR o ho j hj
    have h2 := List.all_eq_true.1 hp j hj
    unfold Val at h1
    rw [show xs j = false by simpa using h2] at h1
    exact h1
  rw [execOp_congr hk (rho_same hee)]
  exact h f w hI hf hdesc hanc hle K hK
/-- A call that may panic. -/
theorem SpecQ.call {PQ : List PanicEntry → World → Prop} {i : Nat} {o : Oper} (k : Nat) (A : Array Value) (ho : ops[i]? = some o) (hp : (known o.op && plain ops.toList xs o) = true) (hr : ∀ w, (execOp (rho ops.toList a0 E) o).run P w = .ok (.enter k A) w)
    (h : ∀ (f : Nat → Bool) (w : World), I f w → f i = false → (∀ n j, anc ops n j i = true → f j = false) → (∀ n j, anc ops n i j = true → f j = true) → Le w0 w → Calls P k A w fun e w' => (∃ v, e = .returned v ∧ Le w w' ∧ I (upd f i) w' ∧ Val E X xs i v w') ∨ ∃ c, e = .panicked c ∧ PQ c w') : SpecQ P PQ ops a0 w0 I Le E X xs i := by
  rw [Bool.and_eq_true] at hp
  refine SpecQ.of ho hp.1 hp.2 fun f w hI hf hdesc hanc hle K hK => ?_
  rw [hr w]
  show Calls P k A w _
  refine (h f w hI hf hdesc hanc hle).mono fun e w' hp => ?_
  rcases hp with ⟨v, he, h1, h2, h3⟩ | ⟨c, he, h1⟩
  · rw [he]
    exact hK v w' h1 h2 h3
  · rw [he]
    exact h1
/-- A read, where no operation is the last. -/
theorem SpecQ.ldq {PQ : List PanicEntry → World → Prop} {i : Nat} {o : Oper} {T : TypeId} {x : Operand} {q : Value} (hread : ∀ f w, I f w → I (upd f i) w) (refl : ∀ w, Le w w) (ho : ops[i]? = some o := by rfl) (hop : o.op = .load T x := by rfl) (hx : rho ops.toList a0 E x = q := by kernel_rfl) (hp : plain ops.toList xs o = true := by kernel_rfl) (hxs : xs i = false := by rfl)
    (h : ∀ (f : Nat → Bool) (w : World), I f w → f i = false → (∀ n j, anc ops n j i = true → f j = false) → (∀ n j, anc ops n i j = true → f j = true) → Le w0 w → (Instr.loadAt T q).run P w = .ok (E i) w) : SpecQ P PQ ops a0 w0 I Le E X xs i := by
  refine SpecQ.of ho (by rw [hop]; rfl) hp fun f w hI hf hdesc hanc hle K hK => ?_
  have e : (execOp (rho ops.toList a0 E) o).run P w = .ok (.value (E i)) w := by
    unfold execOp
    simp only [hop, hx, Sem.run_bind, Sem.run_pure, h f w hI hf hdesc hanc hle, Result.andThen_ok]
  rw [e]
  exact hK _ _ (refl w) (hread f w hI) (by unfold Val; rw [hxs])
/-- A store: of a value, to an address. -/
theorem SpecQ.st {PQ : List PanicEntry → World → Prop} {i : Nat} {o : Oper} {T : TypeId} {y x : Operand} {q : Addr} {v : Value} (ho : ops[i]? = some o := by rfl) (hop : o.op = .store T y x := by rfl) (hy : rho ops.toList a0 E y = .pointer (some q) := by kernel_rfl) (hx : rho ops.toList a0 E x = v := by kernel_rfl) (hp : plain ops.toList xs o = true := by kernel_rfl) (hn : E i = undef := by rfl) (hxs : xs i = false := by rfl)
    (h : ∀ (f : Nat → Bool) (w : World), I f w → f i = false → (∀ n j, anc ops n j i = true → f j = false) → (∀ n j, anc ops n i j = true → f j = true) → Le w0 w → ∃ w', (storeVar T q v).run P w = .ok () w' ∧ Le w w' ∧ I (upd f i) w') : SpecQ P PQ ops a0 w0 I Le E X xs i := by
  refine SpecQ.of ho (by rw [hop]; rfl) hp fun f w hI hf hdesc hanc hle K hK => ?_
  obtain ⟨w', h1, h2, h3⟩ := h f w hI hf hdesc hanc hle
  have e : (execOp (rho ops.toList a0 E) o).run P w = .ok .skip w' := by
    unfold execOp
    simp only [hop, hx, hy, Instr.storeAt, Instr.sureAddr, Sem.run_bind, Sem.run_pure, Result.andThen_ok, h1]
  rw [e]
  exact hK undef w' h2 h3 (by unfold Val; rw [hxs, hn])
/-- What slots hold. -/
def asgL : List (Tmp × Value) → Tmp → Value
  | [], _ => undef
  | p :: l, u => if p.1 = u then p.2 else asgL l u
@[go_sem] theorem asgL_cons (t : Tmp) (v : Value) (l : List (Tmp × Value)) (u : Tmp) : asgL ((t, v) :: l) u = if t = u then v else asgL l u := rfl
def asg (l : List (Tmp × Value)) : Operand → Value
  | .tmp t => asgL l t
  | .const v => v
  | .global g => .pointer (some ⟨g, 0, none⟩)
  | .func f => .func (.func f) #[] #[]
@[go_sem] theorem asg_tmp (l : List (Tmp × Value)) (t : Tmp) : asg l (.tmp t) = asgL l t := rfl
@[go_sem] theorem asg_const (l : List (Tmp × Value)) (v : Value) : asg l (.const v) = v := rfl
@[go_sem] theorem asg_func (l : List (Tmp × Value)) (f : FuncId) : asg l (.func f) = .func (.func f) #[] #[] := rfl
def slotsOf (r : Operand → Value) : List Operand → List (Tmp × Value)
  | [] => []
  | .tmp t :: l => (t, r (.tmp t)) :: slotsOf r l
  | _ :: l => slotsOf r l
theorem slotsOf_get {r : Operand → Value} {t : Tmp} : ∀ {l : List Operand}, Operand.tmp t ∈ l → asgL (slotsOf r l) t = r (.tmp t)
  | x :: l, h => by
    cases x with
    | tmp u =>
      rw [slotsOf, asgL_cons]
      by_cases e : u = t
      · rw [if_pos e, e]
      · rw [if_neg e]
        rcases List.mem_cons.1 h with h | h
        · cases h; exact absurd rfl e
        · exact slotsOf_get h
    | const v =>
      rcases List.mem_cons.1 h with h | h
      · cases h
      · show asgL (slotsOf r l) t = _
        exact slotsOf_get h
    | global g =>
      rcases List.mem_cons.1 h with h | h
      · cases h
      · show asgL (slotsOf r l) t = _
        exact slotsOf_get h
    | func f =>
      rcases List.mem_cons.1 h with h | h
      · cases h
      · show asgL (slotsOf r l) t = _
        exact slotsOf_get h
theorem execOp_asg {a0 : Act} {l : List Oper} {e : Nat → Value} {o : Oper} (hk : known o.op = true) {us : List (Tmp × Value)} (hu : slotsOf (rho l a0 e) (uses o.op) = us) : execOp (rho l a0 e) o = execOp (asg us) o := by
  refine execOp_congr hk fun x hx => ?_
  cases x with
  | tmp t =>
    show _ = asgL us t
    rw [← hu, slotsOf_get hx]
  | const v => rfl
  | global g => rfl
  | func f => rfl
/-- An operation that only reads, of whatever kind. -/
theorem SpecOk.read {i : Nat} {o : Oper} (us : List (Tmp × Value)) (last : Nat) (hl : i ≠ last) (ho : ops[i]? = some o) (hp : (known o.op && plain ops.toList xs o) = true) (hu : slotsOf (rho ops.toList a0 E) (uses o.op) = us) (hxs : xs i = false)
    (hread : ∀ f w i, i ≠ last → I f w → I (upd f i) w) (refl : ∀ w, Le w w)
    (h : ∀ (f : Nat → Bool) (w : World), I f w → f i = false → (∀ n j, anc ops n j i = true → f j = false) → (∀ n j, anc ops n i j = true → f j = true) → Le w0 w → (execOp (asg us) o).run P w = .ok (.value (E i)) w) : SpecOk P ops a0 w0 I Le E X xs i := by
  rw [Bool.and_eq_true] at hp
  refine SpecOk.of ho hp.1 hp.2 fun f w hI hf hdesc hanc hle K hK => ?_
  rw [execOp_asg hp.1 hu, h f w hI hf hdesc hanc hle]
  exact hK _ _ (refl w) (hread f w i hl hI) (by unfold Val; rw [hxs])
/-- An operation that only reckons, of whatever kind, where no operation is the last. -/
theorem SpecQ.rdq {PQ : List PanicEntry → World → Prop} {i : Nat} {o : Oper} (us : List (Tmp × Value)) (hp : (known o.op && plain ops.toList xs o) = true) (hu : slotsOf (rho ops.toList a0 E) (uses o.op) = us)
    (hread : ∀ f w, I f w → I (upd f i) w) (refl : ∀ w, Le w w) (ho : ops[i]? = some o := by rfl) (hxs : xs i = false := by rfl)
    (h : ∀ (f : Nat → Bool) (w : World), I f w → f i = false → (∀ n j, anc ops n j i = true → f j = false) → (∀ n j, anc ops n i j = true → f j = true) → Le w0 w → (execOp (asg us) o).run P w = .ok (.value (E i)) w) : SpecQ P PQ ops a0 w0 I Le E X xs i := by
  rw [Bool.and_eq_true] at hp
  refine SpecQ.of ho hp.1 hp.2 fun f w hI hf hdesc hanc hle K hK => ?_
  rw [execOp_asg hp.1 hu, h f w hI hf hdesc hanc hle]
  exact hK _ _ (refl w) (hread f w hI) (by unfold Val; rw [hxs])
/-- An operation of whatever kind, by what the slots hold that it reads. -/
theorem SpecOk.gen {i : Nat} {o : Oper} (us : (Nat → Value) → List (Tmp × Value)) (ho : ops[i]? = some o) (hk : known o.op = true) (hu : ∀ e, slotsOf (rho ops.toList a0 (mixE E xs e)) (uses o.op) = us e)
    (h : ∀ (f : Nat → Bool) (w : World) (e : Nat → Value), I f w → f i = false → (∀ n j, anc ops n j i = true → f j = false) → (∀ n j, anc ops n i j = true → f j = true) → Le w0 w → (∀ j, (deps ops.toList o).contains j = true → xs j = true → X j (e j) w) →
      ∀ K : Value → World → Prop, (∀ v w', Le w w' → I (upd f i) w' → Val E X xs i v w' → K v w') → Runs P ((execOp (asg (us e)) o).run P w) K) : SpecOk P ops a0 w0 I Le E X xs i := by
  intro f w e hI hf hanc hdesc hle hR K hK o' ho'
  obtain rfl : o = o' := Option.some.inj (ho.symm.trans ho')
  have hee : ∀ j ∈ deps ops.toList o, e j = mixE E xs e j := fun j hj => by
    have h1 := hR o ho j hj
    unfold Val at h1
    unfold mixE
    cases hx : xs j with
    | true => rfl
    | false => rw [hx] at h1; exact h1
  rw [execOp_congr hk (rho_same hee), execOp_asg hk (hu e)]
  refine h f w e hI hf hdesc hanc hle (fun j hj hx => ?_) K hK
  have h1 := hR o ho j (by simpa using hj)
  unfold Val at h1
  rw [hx] at h1
  exact h1
/-- A store of what was told. -/
theorem SpecQ.stx {PQ : List PanicEntry → World → Prop} {i : Nat} {o : Oper} {T : TypeId} {y x : Operand} {q : Addr} (j : Nat) (ho : ops[i]? = some o := by rfl) (hop : o.op = .store T y x := by rfl) (hy : ∀ e, rho ops.toList a0 (mixE E xs e) y = .pointer (some q)) (hx : ∀ e, rho ops.toList a0 (mixE E xs e) x = e j) (hj : (deps ops.toList o).contains j = true := by kernel_rfl) (hxj : xs j = true := by rfl) (hn : E i = undef := by rfl) (hxs : xs i = false := by rfl)
    (h : ∀ (f : Nat → Bool) (w : World) (v : Value), I f w → f i = false → (∀ n j, anc ops n j i = true → f j = false) → (∀ n j, anc ops n i j = true → f j = true) → Le w0 w → X j v w → ∃ w', (storeVar T q v).run P w = .ok () w' ∧ Le w w' ∧ I (upd f i) w') : SpecQ P PQ ops a0 w0 I Le E X xs i := by
  intro f w e hI hf hanc hdesc hle hR K hK o' ho'
  obtain rfl : o = o' := Option.some.inj (ho.symm.trans ho')
  have hee : ∀ j ∈ deps ops.toList o, e j = mixE E xs e j := fun j hj => by
    have h1 := hR o ho j hj
    unfold Val at h1
    unfold mixE
    cases hx : xs j with
    | true => rfl
    | false => rw [hx] at h1; exact h1
  have hXj : X j (e j) w := by
    have h1 := hR o ho j (by simpa using hj)
    unfold Val at h1
    rw [hxj] at h1
    exact h1
  obtain ⟨w', h1, h2, h3⟩ := h f w (e j) hI hf hdesc hanc hle hXj
  have e1 : (execOp (rho ops.toList a0 e) o).run P w = .ok .skip w' := by
    rw [execOp_congr (by rw [hop]; rfl) (rho_same hee)]
    unfold execOp
    simp only [hop, hx e, hy e, Instr.storeAt, Instr.sureAddr, Sem.run_bind, Sem.run_pure, Result.andThen_ok, h1]
  rw [e1]
  exact hK undef w' h2 h3 (by unfold Val; rw [hxs, hn])
theorem pure_sp {l : List Oper} {i : Nat} {o : Oper} (h : sp i = true) : PureOk P l a0 E sp i o := .inl h
theorem pure_yes {l : List Oper} {i : Nat} {o : Oper} (h : wantE E o = true) (hr : ∀ w, (execOp (rho l a0 E) o).run P w = .ok (.value (E i)) w) : PureOk P l a0 E sp i o := .inr (.inl ⟨h, hr⟩)
theorem pure_no {l : List Oper} {i : Nat} {o : Oper} (h : wantE E o = false) (hr : E i = undef) : PureOk P l a0 E sp i o := .inr (.inr ⟨h, hr⟩)
end
end Go.Rel
