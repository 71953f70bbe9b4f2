import Derived.RegionTactic
import Derived.Below
import Derived.Test.YtilkbfmaofmjoaaGreatDoorZj1
import Derived.Test.YtilkbfmaofmjoaaGreatDoorZj7
import Derived.Maps.AppendAt
namespace Go.Rel
open Go Go.RowKit
section
variable {P : Program} {ops : Array Oper} {Q : Exit → Act → World → Prop}
def stepOf (P : Program) (ops : Array Oper) (Q : Exit → Act → World → Prop) (o : Oper) (K : Act → World → Prop) (a : Act) (w : World) : Prop :=
  if Region.wanted o (yielded ops a.tmps) = true then Oper.wp P o a w K Q else K (a.put o.dst undef) w
theorem stepOf_mono {o : Oper} {K K' : Act → World → Prop} {a : Act} {w : World} (h : ∀ a w, K a w → K' a w) (hs : stepOf P ops Q o K a w) : stepOf P ops Q o K' a w := by
  unfold stepOf at *
  split
  · rename_i hw; rw [if_pos hw] at hs; exact Oper.wp_mono h hs
  · rename_i hw; rw [if_neg hw] at hs; exact h _ _ hs
theorem count_set : ∀ (l : List Bool) (i : Nat), l[i]? = some false → (l.set i true).count false + 1 = l.count false
  | [], _, h => by simp at h
  | b :: l, 0, h => by
    obtain rfl : b = false := by simpa using h
    simp
  | b :: l, i + 1, h => by
    have := count_set l i (by simpa using h)
    rw [List.set_cons_succ, List.count_cons, List.count_cons]
    omega
theorem wpAny_inv {md : Region.Mode} (J : Array Bool → Act → World → Prop)
    (hstep : ∀ listed a w i o, listed.size = ops.size → J listed a w → ops[i]? = some o → i ∈ Region.ready md ops listed → stepOf P ops Q o (J (listed.setIfInBounds i true)) a w)
    (hend : ∀ listed a w, listed.size = ops.size → J listed a w → Region.ready md ops listed = [] → Q .normal a w) :
    ∀ (fuel : Nat) (listed : Array Bool) (a : Act) (w : World), listed.size = ops.size → listed.toList.count false ≤ fuel → J listed a w → wpAny P md ops Q fuel listed a w := by
  intro fuel
  induction fuel with
  | zero =>
    intro listed a w hsz hc hJ
    have hr : Region.ready md ops listed = [] := by
      rw [List.eq_nil_iff_forall_not_mem]
      intro j hj
      obtain ⟨h0, o, ho, _⟩ := mem_ready.1 hj
      have hlt : j < listed.size := by rw [hsz]; exact (Array.getElem?_eq_some_iff.1 ho).1
      have hf : false ∈ listed.toList := by
        rw [Array.getD_eq_getD_getElem?, Array.getElem?_eq_getElem hlt] at h0
        simp only [Option.getD_some] at h0
        rw [← h0]
        simp
      have := List.count_pos_iff.2 hf
      omega
    exact ⟨hr, hend _ _ _ hsz hJ hr⟩
  | succ fuel ih =>
    intro listed a w hsz hc hJ
    refine ⟨fun hr => hend _ _ _ hsz hJ hr, fun i hi => ?_⟩
    obtain ⟨h0, o, ho, _⟩ := mem_ready.1 hi
    have hlt : i < listed.size := by rw [hsz]; exact (Array.getElem?_eq_some_iff.1 ho).1
    have hif : listed.toList[i]? = some false := by
      rw [Array.getD_eq_getD_getElem?, Array.getElem?_eq_getElem hlt] at h0
      simp only [Option.getD_some] at h0
      rw [Array.getElem?_toList, Array.getElem?_eq_getElem hlt, h0]
    have hcnt := count_set listed.toList i hif
    refine wpOp_step ho fun K' hK' => ?_
    exact stepOf_mono (fun a w hj => hK' a w (ih _ a w (by rw [Array.size_setIfInBounds]; exact hsz) (by rw [Array.toList_setIfInBounds]; omega) hj)) (hstep listed a w i o hsz hJ ho hi)
def orderly (ops : Array Oper) : Bool := (List.range ops.size).all fun i => ((ops[i]?).map fun o => o.after.toList.all fun e => !Region.binds .any e || decide (e.on < i)).getD true
def onceEach (ops : Array Oper) : Bool := (List.range ops.size).all fun i => (List.range ops.size).all fun j => i == j || ((ops[i]?).bind (·.dst)).isNone || ((ops[i]?).bind (·.dst)) != ((ops[j]?).bind (·.dst))
theorem onceEach_spec (h : onceEach ops = true) {i j : Nat} {o o' : Oper} (hi : ops[i]? = some o) (hj : ops[j]? = some o') (hne : i ≠ j) {t : Tmp} (ht : o.dst = some t) : o'.dst ≠ some t := by
  have hli := (Array.getElem?_eq_some_iff.1 hi).1
  have hlj := (Array.getElem?_eq_some_iff.1 hj).1
  have h1 := List.all_eq_true.1 h i (List.mem_range.2 hli)
  have h2 := List.all_eq_true.1 h1 j (List.mem_range.2 hlj)
  intro e
  simp [hi, hj, ht, e, hne] at h2
theorem all_listed (h : orderly ops = true) {listed : Array Bool} (hsz : listed.size = ops.size) (hr : Region.ready .any ops listed = []) : ∀ i, i < ops.size → listed.getD i false = true := by
  intro i
  induction i using Nat.strongRecOn with
  | ind i ih =>
    intro hi
    cases hb : listed.getD i false with
    | true => rfl
    | false =>
      exfalso
      have hl : i < listed.size := by rw [hsz]; exact hi
      have hmem : i ∈ Region.ready .any ops listed := by
        rw [mem_ready]
        refine ⟨?_, ops[i], Array.getElem?_eq_getElem hi, fun e he hbd => ?_⟩
        · rw [Array.getD_eq_getD_getElem?, Array.getElem?_eq_getElem hl] at hb ⊢
          exact hb
        · have h1 := List.all_eq_true.1 h i (List.mem_range.2 hi)
          rw [Array.getElem?_eq_getElem hi] at h1
          have h2 := List.all_eq_true.1 (by simpa using h1 : ops[i].after.toList.all (fun e => !Region.binds .any e || decide (e.on < i)) = true) e (by simpa using he)
          have h3 : e.on < i := by simpa [hbd] using h2
          exact ih e.on h3 (by omega)
      rw [hr] at hmem
      cases hmem
def needs (ops : Array Oper) (o : Oper) (j : Nat) (t : Tmp) : Bool := o.after.any (fun e => e.on == j && Region.binds .any e) && ((ops[j]?).map (·.dst) == some (some t))
def Same (ops : Array Oper) (a0 a : Act) : Prop := a.defers = a0.defers ∧ a.tmps.size = a0.tmps.size ∧ ∀ t : Nat, (ops.all fun o => o.dst != some t) = true → a.tmps[t]? = a0.tmps[t]?
theorem Same.put {a0 a : Act} {i : Nat} {o : Oper} (h : Same ops a0 a) (ho : ops[i]? = some o) (v : Value) : Same ops a0 (a.put o.dst v) := by
  cases hd : o.dst with
  | none => exact h
  | some d =>
    refine ⟨h.1, by simp [Act.put, h.2.1], fun t ht => ?_⟩
    have hne : d ≠ t := by
      rintro rfl
      have := Array.all_eq_true_iff_forall_mem.1 ht o (Array.mem_of_getElem? ho)
      simp [hd] at this
    rw [show (a.put (some d) v).tmps = a.tmps.setIfInBounds d v from rfl, Array.getElem?_setIfInBounds_ne hne]
    exact h.2.2 t ht
def inFrame (ops : Array Oper) (n : Nat) : Bool := ops.all fun o => match o.dst with | some d => decide (d < n) | none => true
def Each (F : Nat → Oper → Prop) : Nat → List Oper → Prop
  | _, [] => True
  | i, o :: os => F i o ∧ Each F (i + 1) os
theorem Each.nil {F : Nat → Oper → Prop} {i : Nat} : Each F i [] := trivial
theorem Each.cons {F : Nat → Oper → Prop} {i : Nat} {o : Oper} {os : List Oper} (h : F i o) (hs : Each F (i + 1) os) : Each F i (o :: os) := ⟨h, hs⟩
theorem Each.get {F : Nat → Oper → Prop} : ∀ {os : List Oper} {k : Nat}, Each F k os → ∀ (i : Nat) (o : Oper), os[i]? = some o → F (k + i) o
  | [], _, _, i, o, h => by simp at h
  | o' :: os, k, h, 0, o, ho => by
    obtain rfl : o' = o := by simpa using ho
    exact h.1
  | o' :: os, k, h, i + 1, o, ho => by
    have := Each.get h.2 i o (by simpa using ho)
    rwa [show k + 1 + i = k + (i + 1) by omega] at this
def Grew (w w' : World) : Prop := Below w.heap.size w w'
theorem Grew.refl (w : World) : Grew w w := Below.refl _ w
theorem Grew.trans {a b c : World} (h : Grew a b) (k : Grew b c) : Grew a c := Below.trans h (Below.mono k h.size)
theorem some_getD {a0 a : Act} (hs : Same ops a0 a) (hin : inFrame ops a0.tmps.size = true) {j : Nat} {o : Oper} {t : Tmp} (ho : ops[j]? = some o) (ht : o.dst = some t) : a.tmps[t]? = some (a.tmps.getD t undef) := by
  have hlt : t < a.tmps.size := by
    have := Array.all_eq_true_iff_forall_mem.1 hin o (Array.mem_of_getElem? ho)
    rw [ht] at this
    rw [hs.2.1]
    simpa using this
  simp [Array.getD_eq_getD_getElem?, hlt]
end
end Go.Rel
namespace Go.Rel
open Go Go.RowKit
def reset (a : Act) (t : Array Value) (o : Oper) : Array Value := match o.dst with | some d => t.setIfInBounds d (a.tmps.getD d undef) | none => t
theorem reset_size (a : Act) (t : Array Value) (o : Oper) : (reset a t o).size = t.size := by unfold reset; split <;> simp
theorem reset_all (a : Act) : ∀ (l : List Oper) (t : Array Value), (l.foldl (reset a) t).size = t.size ∧ ∀ i, (l.foldl (reset a) t)[i]? = if (l.any fun o => o.dst == some i) = true ∧ i < t.size then some (a.tmps.getD i undef) else t[i]?
  | [], t => ⟨rfl, fun i => by simp⟩
  | o :: l, t => by
    obtain ⟨h1, h2⟩ := reset_all a l (reset a t o)
    refine ⟨by rw [List.foldl_cons, h1, reset_size], fun i => ?_⟩
    rw [List.foldl_cons, h2, reset_size, List.any_cons]
    by_cases hl : (l.any fun o => o.dst == some i) = true
    · by_cases hi : i < t.size
      · rw [if_pos ⟨hl, hi⟩, if_pos ⟨by rw [hl, Bool.or_true], hi⟩]
      · rw [if_neg (fun h => hi h.2), if_neg (fun h => hi h.2)]
        have k1 : (reset a t o)[i]? = none := Array.getElem?_eq_none (by rw [reset_size]; exact Nat.le_of_not_lt hi)
        have k2 : t[i]? = none := Array.getElem?_eq_none (Nat.le_of_not_lt hi)
        rw [k1, k2]
    · rw [if_neg (fun h => hl h.1)]
      have hl' : (l.any fun o => o.dst == some i) = false := by simpa using hl
      rw [hl', Bool.or_false]
      unfold reset
      cases hd : o.dst with
      | none => simp
      | some d =>
        by_cases e : d = i
        · subst e
          by_cases hi : d < t.size
          · simp [hi]
          · simp [hi]
        · have hb : (some d == some i) = false := by simpa using e
          simp [Array.getElem?_setIfInBounds_ne e, hb]
theorem Same.shape {ops : Array Oper} {a0 a : Act} (h : Same ops a0 a) : a = { tmps := ops.toList.foldl (reset a) a0.tmps, defers := a0.defers } := by
  obtain ⟨h1, h2, h3⟩ := h
  obtain ⟨k1, k2⟩ := reset_all a ops.toList a0.tmps
  have e : a.tmps = ops.toList.foldl (reset a) a0.tmps := by
    apply Array.ext_getElem?
    intro i
    rw [k2]
    by_cases hi : (ops.toList.any fun o => o.dst == some i) = true
    · by_cases hs : i < a0.tmps.size
      · rw [if_pos ⟨hi, hs⟩]
        simp [Array.getD_eq_getD_getElem?, show i < a.tmps.size by omega]
      · rw [if_neg (fun h => hs h.2), Array.getElem?_eq_none (by omega), Array.getElem?_eq_none (by omega)]
    · rw [if_neg (fun h => hi h.1)]
      refine h3 i ?_
      have hi' : (ops.toList.any fun o => o.dst == some i) = false := by simpa using hi
      rw [List.any_eq_false] at hi'
      rw [Array.all_eq_true_iff_forall_mem]
      intro o ho
      have := hi' o (by simpa using ho)
      simpa using this
  cases a
  simp only at h1 e
  rw [← h1, ← e]
end Go.Rel
namespace Go.Rel
open Go Go.RowKit
section
variable {P : Program} {ops : Array Oper} {Q : Exit → Act → World → Prop}
def anc (ops : Array Oper) : Nat → Nat → Nat → Bool
  | 0, _, _ => false
  | n + 1, i, j => match ops[i]? with
    | none => false
    | some o => o.after.toList.any fun e => Region.binds .any e && (e.on == j || anc ops n e.on j)
def upd (f : Nat → Bool) (i : Nat) : Nat → Bool := fun k => k == i || f k
def Closed (ops : Array Oper) (f : Nat → Bool) : Prop := ∀ i o, f i = true → ops[i]? = some o → ∀ e ∈ o.after, Region.binds .any e = true → f e.on = true
theorem anc_of {f : Nat → Bool} (hc : Closed ops f) : ∀ (n i j : Nat) (o : Oper), ops[i]? = some o → (∀ e ∈ o.after, Region.binds .any e = true → f e.on = true) → anc ops n i j = true → f j = true
  | 0, _, _, _, _, _, h => by cases h
  | n + 1, i, j, o, ho, hd, h => by
    rw [anc, ho] at h
    obtain ⟨e, he, h1⟩ := List.any_eq_true.1 h
    simp only [Bool.and_eq_true, Bool.or_eq_true, beq_iff_eq] at h1
    have he' : e ∈ o.after := by simpa using he
    rcases h1.2 with rfl | h2
    · exact hd e he' h1.1
    · have hf := hd e he' h1.1
      cases hoi : ops[e.on]? with
      | none =>
        exfalso
        cases n with
        | zero => cases h2
        | succ n => rw [anc, hoi] at h2; cases h2
      | some o2 => exact anc_of hc n e.on j o2 hoi (fun e2 he2 hb2 => hc e.on o2 hf hoi e2 he2 hb2) h2
theorem upd_getD {listed : Array Bool} {i : Nat} (h : i < listed.size) : (fun k => (listed.setIfInBounds i true).getD k false) = upd (fun k => listed.getD k false) i := by
  funext k
  unfold upd
  by_cases e : k = i
  · subst e
    simp [Array.getD_eq_getD_getElem?, h]
  · have : (k == i) = false := by simpa using e
    rw [this, Bool.false_or, getD_set_ne false (fun h => e h.symm)]
def StepIn (P : Program) (ops : Array Oper) (Q : Exit → Act → World → Prop) (a0 : Act) (w0 : World) (I : (Nat → Bool) → World → Prop) (Le : World → World → Prop) (R : Nat → Value → World → Prop) (i : Nat) (o : Oper) : Prop :=
  ∀ (f : Nat → Bool) (a : Act) (w : World), I f w → f i = false → (∀ n j, anc ops n i j = true → f j = true) → (∀ n j, anc ops n j i = true → f j = false) → Le w0 w → Same ops a0 a → (∀ j t, needs ops o j t = true → ∃ v, a.tmps[t]? = some v ∧ R j v w) →
    ∀ K : Act → World → Prop, (∀ v w', Le w w' → I (upd f i) w' → R i v w' → K (a.put o.dst v) w') → stepOf P ops Q o K a w
theorem wp_region_states {id : Nat} {a0 : Act} {w0 : World} (hm : P.follows .mixedOrders = true) (hord : orderly ops = true) (honce : onceEach ops = true) (hin : inFrame ops a0.tmps.size = true)
    (I : (Nat → Bool) → World → Prop) (Le : World → World → Prop) (trans : ∀ a b c, Le a b → Le b c → Le a c) (drew : Le w0 { w0 with drawn := w0.drawn + 1 }) (start : I (fun _ => false) { w0 with drawn := w0.drawn + 1 })
    (R : Nat → Value → World → Prop) (stable : ∀ i v w w', R i v w → Le w w' → R i v w')
    (hstep : Each (StepIn P ops Q a0 w0 I Le R) 0 ops.toList)
    (hend : ∀ f a w, (∀ i, i < ops.size → f i = true) → I f w → Le w0 w → Same ops a0 a → (∀ (i : Nat) t, (ops[i]?).map (·.dst) = some (some t) → ∃ v, a.tmps[t]? = some v ∧ R i v w) → Q .normal a w) :
    (Code.region id ops true).wp P Q a0 w0 := by
  have fin : ∀ (listed : Array Bool) (a : Act) (w : World), Same ops a0 a → (∀ (j : Nat) o t, ops[j]? = some o → o.dst = some t → listed.getD j false = true → R j (a.tmps.getD t undef) w) → ∀ (j : Nat) (t : Tmp), (ops[j]?).map (·.dst) = some (some t) → listed.getD j false = true → ∃ v, a.tmps[t]? = some v ∧ R j v w := by
    intro listed a w hs hR j t hj hl
    cases hoj : ops[j]? with
    | none => rw [hoj] at hj; simp at hj
    | some oj =>
      rw [hoj] at hj
      have ht : oj.dst = some t := by simpa using hj
      exact ⟨_, some_getD hs hin hoj ht, hR j oj t hoj ht hl⟩
  refine wp_region_any hm (wpAny_inv (fun listed a w => (Le w0 w ∧ I (fun k => listed.getD k false) w ∧ Closed ops (fun k => listed.getD k false)) ∧ Same ops a0 a ∧ ∀ (j : Nat) o t, ops[j]? = some o → o.dst = some t → listed.getD j false = true → R j (a.tmps.getD t undef) w) ?_ ?_ ops.size _ a0 _ (by simp) ?_ ⟨⟨drew, ?_, ?_⟩, ⟨rfl, rfl, fun _ _ => rfl⟩, fun j o t ho _ hl => ?_⟩)
  · rintro listed a w i o hsz ⟨⟨hle, hI, hC⟩, hs, hR⟩ ho hi
    obtain ⟨h0, o', ho', hdep⟩ := mem_ready.1 hi
    obtain rfl : o = o' := Option.some.inj (ho.symm.trans ho')
    have hlt : i < listed.size := by rw [hsz]; exact (Array.getElem?_eq_some_iff.1 ho).1
    have h0' : listed.getD i false = false := by
      rw [Array.getD_eq_getD_getElem?, Array.getElem?_eq_getElem hlt] at h0 ⊢
      exact h0
    have hst := hstep.get i o (by rw [Array.getElem?_toList]; exact ho)
    rw [Nat.zero_add] at hst
    refine hst _ a w hI h0' (fun n j h => anc_of hC n i j o ho (fun e he hb => hdep e he hb) h) (fun n j h => ?_) hle hs (fun j t hn => ?_) _ (fun v w' hw hI' hv => ⟨⟨trans _ _ _ hle hw, ?_, ?_⟩, hs.put ho v, fun j oj t hj ht hl => ?_⟩)
    · cases hj : listed.getD j false with
      | false => rfl
      | true =>
        exfalso
        cases hoj : ops[j]? with
        | none =>
          cases n with
          | zero => cases h
          | succ n => rw [anc, hoj] at h; cases h
        | some oj =>
          have := anc_of hC n j i oj hoj (fun e he hb => hC j oj hj hoj e he hb) h
          rw [h0'] at this
          cases this
    · have hn' := hn
      simp only [needs, Bool.and_eq_true, beq_iff_eq] at hn'
      obtain ⟨hn1, hn2⟩ := hn'
      obtain ⟨e, he, h1⟩ := Array.any_eq_true'.1 hn1
      simp only [Bool.and_eq_true, beq_iff_eq] at h1
      exact fin listed a w hs hR j t hn2 (h1.1 ▸ hdep e he h1.2)
    · rw [upd_getD hlt]; exact hI'
    · rw [upd_getD hlt]
      intro k ok hk hok e he hb
      unfold upd at hk ⊢
      simp only [Bool.or_eq_true, beq_iff_eq] at hk ⊢
      rcases hk with rfl | hk
      · obtain rfl : o = ok := Option.some.inj (ho.symm.trans hok)
        exact .inr (hdep e he hb)
      · exact .inr (hC k ok hk hok e he hb)
    · by_cases hij : i = j
      · subst hij
        obtain rfl : o = oj := Option.some.inj (ho.symm.trans hj)
        have hlt' : t < a.tmps.size := by
          have := Array.all_eq_true_iff_forall_mem.1 hin o (Array.mem_of_getElem? ho)
          rw [ht] at this
          rw [hs.2.1]
          simpa using this
        rw [ht, show (a.put (some t) v).tmps = a.tmps.setIfInBounds t v from rfl]
        simp only [Array.getD_eq_getD_getElem?, Array.getElem?_setIfInBounds_self_of_lt hlt', Option.getD_some]
        exact hv
      · have hold : listed.getD j false = true := by rw [getD_set_ne false hij] at hl; exact hl
        have e : (a.put o.dst v).tmps.getD t undef = a.tmps.getD t undef := by
          cases hd : o.dst with
          | none => rfl
          | some d =>
            have hne : d ≠ t := fun hdt => onceEach_spec honce ho hj hij hd (hdt ▸ ht)
            rw [show (a.put (some d) v).tmps = a.tmps.setIfInBounds d v from rfl]
            simp [Array.getElem?_setIfInBounds_ne hne]
        rw [e]
        exact stable j _ _ _ (hR j oj t hj ht hold) hw
  · rintro listed a w hsz ⟨⟨hle, hI, hC⟩, hs, hR⟩ hr
    have hall := all_listed hord hsz hr
    exact hend _ a w hall hI hle hs fun i t hi => fin listed a w hs hR i t hi (hall i (by
      cases hoi : ops[i]? with
      | none => rw [hoi] at hi; simp at hi
      | some oi => exact (Array.getElem?_eq_some_iff.1 hoi).1))
  · rw [Array.toList_replicate, List.count_replicate_self]; exact Nat.le_refl _
  · have e : (fun k => (Array.replicate ops.size false).getD k false) = fun _ => false := by
      funext k
      by_cases h : k < ops.size <;> simp [Array.getD_eq_getD_getElem?, h]
    rw [e]; exact start
  · intro i o h
    by_cases hlt : i < ops.size <;> simp [Array.getD_eq_getD_getElem?, hlt] at h
  · have hlt := (Array.getElem?_eq_some_iff.1 ho).1
    simp [Array.getD_eq_getD_getElem?, hlt] at hl
end
end Go.Rel
namespace Go.Rel
open Go Go.RowKit
section
variable {P : Program} {ops : Array Oper} {Q : Exit → Act → World → Prop}
def StepAct (P : Program) (ops : Array Oper) (Q : Exit → Act → World → Prop) (a0 : Act) (w0 : World) (I : (Nat → Bool) → Act → World → Prop) (Le : World → World → Prop) (R : Nat → Value → World → Prop) (i : Nat) (o : Oper) : Prop :=
  ∀ (f : Nat → Bool) (a : Act) (w : World), I f a w → f i = false → (∀ n j, anc ops n i j = true → f j = true) → (∀ n j, anc ops n j i = true → f j = false) → Le w0 w → Same ops a0 a → (∀ j t, needs ops o j t = true → ∃ v, a.tmps[t]? = some v ∧ R j v w) →
    ∀ K : Act → World → Prop, (∀ v w', Le w w' → I (upd f i) (a.put o.dst v) w' → R i v w' → K (a.put o.dst v) w') → stepOf P ops Q o K a w
theorem acts_to {C : Prop} {a0 : Act} {w0 : World} (hord : orderly ops = true) (honce : onceEach ops = true) (hin : inFrame ops a0.tmps.size = true)
    (I : (Nat → Bool) → Act → World → Prop) (Le : World → World → Prop) (trans : ∀ a b c, Le a b → Le b c → Le a c) (drew : Le w0 { w0 with drawn := w0.drawn + 1 }) (start : I (fun _ => false) a0 { w0 with drawn := w0.drawn + 1 })
    (R : Nat → Value → World → Prop) (stable : ∀ i v w w', R i v w → Le w w' → R i v w')
    (hstep : Each (StepAct P ops Q a0 w0 I Le R) 0 ops.toList)
    (hend : ∀ f a w, (∀ i, i < ops.size → f i = true) → I f a w → Le w0 w → Same ops a0 a → (∀ (i : Nat) t, (ops[i]?).map (·.dst) = some (some t) → ∃ v, a.tmps[t]? = some v ∧ R i v w) → Q .normal a w)
    (to : ∀ J : Array Bool → Act → World → Prop, (∀ listed a w i o, listed.size = ops.size → J listed a w → ops[i]? = some o → i ∈ Region.ready .any ops listed → stepOf P ops Q o (J (listed.setIfInBounds i true)) a w) → (∀ listed a w, listed.size = ops.size → J listed a w → Region.ready .any ops listed = [] → Q .normal a w) → J (Array.replicate ops.size false) a0 { w0 with drawn := w0.drawn + 1 } → C) : C := by
  have fin : ∀ (listed : Array Bool) (a : Act) (w : World), Same ops a0 a → (∀ (j : Nat) o t, ops[j]? = some o → o.dst = some t → listed.getD j false = true → R j (a.tmps.getD t undef) w) → ∀ (j : Nat) (t : Tmp), (ops[j]?).map (·.dst) = some (some t) → listed.getD j false = true → ∃ v, a.tmps[t]? = some v ∧ R j v w := by
    intro listed a w hs hR j t hj hl
    cases hoj : ops[j]? with
    | none => rw [hoj] at hj; simp at hj
    | some oj =>
      rw [hoj] at hj
      have ht : oj.dst = some t := by simpa using hj
      exact ⟨_, some_getD hs hin hoj ht, hR j oj t hoj ht hl⟩
  refine to (fun listed a w => (Le w0 w ∧ I (fun k => listed.getD k false) a w ∧ Closed ops (fun k => listed.getD k false)) ∧ Same ops a0 a ∧ ∀ (j : Nat) o t, ops[j]? = some o → o.dst = some t → listed.getD j false = true → R j (a.tmps.getD t undef) w) ?_ ?_ ⟨⟨drew, ?_, ?_⟩, ⟨rfl, rfl, fun _ _ => rfl⟩, fun j o t ho _ hl => ?_⟩
  · rintro listed a w i o hsz ⟨⟨hle, hI, hC⟩, hs, hR⟩ ho hi
    obtain ⟨h0, o', ho', hdep⟩ := mem_ready.1 hi
    obtain rfl : o = o' := Option.some.inj (ho.symm.trans ho')
    have hlt : i < listed.size := by rw [hsz]; exact (Array.getElem?_eq_some_iff.1 ho).1
    have h0' : listed.getD i false = false := by
      rw [Array.getD_eq_getD_getElem?, Array.getElem?_eq_getElem hlt] at h0 ⊢
      exact h0
    have hst := hstep.get i o (by rw [Array.getElem?_toList]; exact ho)
    rw [Nat.zero_add] at hst
    refine hst _ a w hI h0' (fun n j h => anc_of hC n i j o ho (fun e he hb => hdep e he hb) h) (fun n j h => ?_) hle hs (fun j t hn => ?_) _ (fun v w' hw hI' hv => ⟨⟨trans _ _ _ hle hw, ?_, ?_⟩, hs.put ho v, fun j oj t hj ht hl => ?_⟩)
    · cases hj : listed.getD j false with
      | false => rfl
      | true =>
        exfalso
        cases hoj : ops[j]? with
        | none =>
          cases n with
          | zero => cases h
          | succ n => rw [anc, hoj] at h; cases h
        | some oj =>
          have := anc_of hC n j i oj hoj (fun e he hb => hC j oj hj hoj e he hb) h
          rw [h0'] at this
          cases this
    · have hn' := hn
      simp only [needs, Bool.and_eq_true, beq_iff_eq] at hn'
      obtain ⟨hn1, hn2⟩ := hn'
      obtain ⟨e, he, h1⟩ := Array.any_eq_true'.1 hn1
      simp only [Bool.and_eq_true, beq_iff_eq] at h1
      exact fin listed a w hs hR j t hn2 (h1.1 ▸ hdep e he h1.2)
    · rw [upd_getD hlt]; exact hI'
    · rw [upd_getD hlt]
      intro k ok hk hok e he hb
      unfold upd at hk ⊢
      simp only [Bool.or_eq_true, beq_iff_eq] at hk ⊢
      rcases hk with rfl | hk
      · obtain rfl : o = ok := Option.some.inj (ho.symm.trans hok)
        exact .inr (hdep e he hb)
      · exact .inr (hC k ok hk hok e he hb)
    · by_cases hij : i = j
      · subst hij
        obtain rfl : o = oj := Option.some.inj (ho.symm.trans hj)
        have hlt' : t < a.tmps.size := by
          have := Array.all_eq_true_iff_forall_mem.1 hin o (Array.mem_of_getElem? ho)
          rw [ht] at this
          rw [hs.2.1]
          simpa using this
        rw [ht, show (a.put (some t) v).tmps = a.tmps.setIfInBounds t v from rfl]
        simp only [Array.getD_eq_getD_getElem?, Array.getElem?_setIfInBounds_self_of_lt hlt', Option.getD_some]
        exact hv
      · have hold : listed.getD j false = true := by rw [getD_set_ne false hij] at hl; exact hl
        have e : (a.put o.dst v).tmps.getD t undef = a.tmps.getD t undef := by
          cases hd : o.dst with
          | none => rfl
          | some d =>
            have hne : d ≠ t := fun hdt => onceEach_spec honce ho hj hij hd (hdt ▸ ht)
            rw [show (a.put (some d) v).tmps = a.tmps.setIfInBounds d v from rfl]
            simp [Array.getElem?_setIfInBounds_ne hne]
        rw [e]
        exact stable j _ _ _ (hR j oj t hj ht hold) hw
  · rintro listed a w hsz ⟨⟨hle, hI, hC⟩, hs, hR⟩ hr
    have hall := all_listed hord hsz hr
    exact hend _ a w hall hI hle hs fun i t hi => fin listed a w hs hR i t hi (hall i (by
      cases hoi : ops[i]? with
      | none => rw [hoi] at hi; simp at hi
      | some oi => exact (Array.getElem?_eq_some_iff.1 hoi).1))
  · have e : (fun k => (Array.replicate ops.size false).getD k false) = fun _ => false := by
      funext k
      by_cases h : k < ops.size <;> simp [Array.getD_eq_getD_getElem?, h]
    rw [e]; exact start
  · intro i o h
    by_cases hlt : i < ops.size <;> simp [Array.getD_eq_getD_getElem?, hlt] at h
  · have hlt := (Array.getElem?_eq_some_iff.1 ho).1
    simp [Array.getD_eq_getD_getElem?, hlt] at hl
theorem wp_region_acts {id : Nat} {a0 : Act} {w0 : World} (hm : P.follows .mixedOrders = true) (hord : orderly ops = true) (honce : onceEach ops = true) (hin : inFrame ops a0.tmps.size = true)
    (I : (Nat → Bool) → Act → World → Prop) (Le : World → World → Prop) (trans : ∀ a b c, Le a b → Le b c → Le a c) (drew : Le w0 { w0 with drawn := w0.drawn + 1 }) (start : I (fun _ => false) a0 { w0 with drawn := w0.drawn + 1 })
    (R : Nat → Value → World → Prop) (stable : ∀ i v w w', R i v w → Le w w' → R i v w')
    (hstep : Each (StepAct P ops Q a0 w0 I Le R) 0 ops.toList)
    (hend : ∀ f a w, (∀ i, i < ops.size → f i = true) → I f a w → Le w0 w → Same ops a0 a → (∀ (i : Nat) t, (ops[i]?).map (·.dst) = some (some t) → ∃ v, a.tmps[t]? = some v ∧ R i v w) → Q .normal a w) :
    (Code.region id ops true).wp P Q a0 w0 :=
  acts_to hord honce hin I Le trans drew start R stable hstep hend fun J h1 h2 h3 => wp_region_any hm (wpAny_inv J h1 h2 ops.size _ a0 _ (by simp) (by rw [Array.toList_replicate, List.count_replicate_self]; exact Nat.le_refl _) h3)
end
end Go.Rel
namespace Go.Proofs.YtilkbfmaofmjoaaGreatDoor
open Go.RowKit
set_option linter.unusedSimpArgs false
theorem acc_put_at {a : Act} {t : Nat} {v u : Value} (h : (a.put (some t) v).tmps[t]? = some u) : u = v := by
  rw [show (a.put (some t) v).tmps = a.tmps.setIfInBounds t v from rfl, Array.getElem?_setIfInBounds_self] at h
  split at h
  · exact (Option.some.inj h).symm
  · cases h
theorem acc_put_off {a : Act} {t s : Nat} {v : Value} (h : t ≠ s) : (a.put (some t) v).tmps[s]? = a.tmps[s]? := by
  rw [show (a.put (some t) v).tmps = a.tmps.setIfInBounds t v from rfl, Array.getElem?_setIfInBounds_ne h]
theorem acc_upd_off {f : Nat → Bool} {j m : Nat} (h : j ≠ m) : Go.Rel.upd f j m = f m := by
  unfold Go.Rel.upd
  have : (m == j) = false := by rw [beq_eq_false_iff_ne]; exact fun e => h e.symm
  rw [this, Bool.false_or]
theorem acc_upd_on {f : Nat → Bool} (j : Nat) : Go.Rel.upd f j j = true := by unfold Go.Rel.upd; simp
def UpB (base : Nat) : Nat → Prop := fun k => base ≤ k
theorem But.upB {base : Nat} {w w' : World} (h : Below base w w') : But (UpB base) w w' := ⟨h.os, h.tape, h.output, h.size, fun k _ hn => h.block k (Nat.lt_of_not_le hn)⟩
structure AccJ (E : TypeId) (base iB iA iS tB tA tX : Nat) (v0 : Value) (n : Nat) (xs : List Value) (u : Value) (w0 : World) (f : Nat → Bool) (a : Act) (w : World) : Prop where
  bel : Below base w0 w
  old : f iA = false → w.ownsRow base E 1 v0 n xs
  slot : f iS = false → a.tmps[tX]? = some v0
  built : f iB = true → f iA = false → ∀ v, a.tmps[tB]? = some v → ∃ X, v = .slice (some ⟨X, 0, none⟩) 1 1 ∧ w.heap[X]? = some (.cells #[u] E (0, 0))
  app : f iA = true → ∀ v, a.tmps[tA]? = some v → w.ownsRow base E 1 v (n + 1) (xs ++ [u])
  fin : f iS = true → ∀ v, a.tmps[tX]? = some v → w.ownsRow base E 1 v (n + 1) (xs ++ [u])
section
variable {E : TypeId} {base iB iA iS tB tA tX : Nat} {v0 : Value} {n : Nat} {xs : List Value} {u : Value} {w0 : World} {f : Nat → Bool} {a : Act} {w : World}
theorem AccJ.start (h : w0.ownsRow base E 1 v0 n xs) (ha : a.tmps[tX]? = some v0) : AccJ E base iB iA iS tB tA tX v0 n xs u w0 (fun _ => false) a { w0 with drawn := w0.drawn + 1 } :=
  ⟨⟨rfl, rfl, rfl, Nat.le_refl _, fun _ _ => rfl⟩, fun _ => h, fun _ => ha, (fun h => by cases h), (fun h => by cases h), (fun h => by cases h)⟩
theorem AccJ.keep (h : AccJ E base iB iA iS tB tA tX v0 n xs u w0 f a w) {j t : Nat} (hj : j ≠ iB ∧ j ≠ iA ∧ j ≠ iS) (ht : t ≠ tB ∧ t ≠ tA ∧ t ≠ tX) (v : Value) : AccJ E base iB iA iS tB tA tX v0 n xs u w0 (Go.Rel.upd f j) (a.put (some t) v) w := by
  obtain ⟨j1, j2, j3⟩ := hj
  obtain ⟨t1, t2, t3⟩ := ht
  refine ⟨h.bel, ?_, ?_, ?_, ?_, ?_⟩
  · rw [acc_upd_off j2]; exact h.old
  · rw [acc_upd_off j3, acc_put_off t3]; exact h.slot
  · rw [acc_upd_off j1, acc_upd_off j2, acc_put_off t1]; exact h.built
  · rw [acc_upd_off j2, acc_put_off t2]; exact h.app
  · rw [acc_upd_off j3, acc_put_off t3]; exact h.fin
theorem AccJ.lay (h : AccJ E base iB iA iS tB tA tX v0 n xs u w0 f a w) (hbase : base ≤ w0.heap.size) (h1 : iB ≠ iA ∧ iB ≠ iS ∧ tB ≠ tA ∧ tB ≠ tX) (zA : f iA = false) (zS : f iS = false) :
    AccJ E base iB iA iS tB tA tX v0 n xs u w0 (Go.Rel.upd f iB) (a.put (some tB) (.slice (some ⟨w.heap.size, 0, none⟩) 1 1)) (w.alloc (.cells #[u] E)) := by
  obtain ⟨i1, i2, t1, t2⟩ := h1
  refine ⟨h.bel.alloc (Nat.le_trans hbase h.bel.size) _, fun _ => (h.old zA).alloc _, ?_, fun _ _ v hv => ⟨w.heap.size, acc_put_at hv, heap_alloc_new w _⟩, ?_, ?_⟩
  · rw [acc_upd_off i2, acc_put_off t2]; exact h.slot
  · rw [acc_upd_off i1, zA]; exact fun h => by cases h
  · rw [acc_upd_off i2, zS]; exact fun h => by cases h
theorem AccJ.append {P : Program} (h : AccJ E base iB iA iS tB tA tX v0 n xs u w0 f a w) (hbase : base ≤ w0.heap.size) (h1 : iA ≠ iS ∧ tA ≠ tX) (zB : f iB = true) (zA : f iA = false) (zS : f iS = false) (T : TypeId) (ty : TypeId) (i : TypeInfo) (z : Value) (bytes : Nat) (ht : P.underlying T = some (.slice E)) (hi : P.info? E = some i) (hz : i.zero = some z) (hsize : i.size = 1) (hby : i.bytes = bytes) (hzs : z.cells.size = 1)
    (hone : u.oneCell' = true) (h63 : n + 1 ≤ maxLen) (hbytes : (n + 1) * bytes ≤ 140737488355328) {vx : Value} (hx : a.tmps[tB]? = some vx) :
    ∃ v' w', (Builtin.append_ #[T, T] ty #[v0, vx]).run P w = .ok v' w' ∧ But (UpB base) w w' ∧ AccJ E base iB iA iS tB tA tX v0 n xs u w0 (Go.Rel.upd f iA) (a.put (some tA) v') w' := by
  obtain ⟨i1, t1⟩ := h1
  obtain ⟨X, rfl, hX⟩ := h.built zB zA vx hx
  have hown := h.old zA
  have hb := Nat.le_trans hbase h.bel.size
  obtain ⟨v', w', hrun, ho, hg, _⟩ := run_append_own (P := P) w base T ty E i z 1 bytes ht hi hz hsize hby hzs (by decide) v0 n xs hown ⟨X, 0, none⟩ 1 1 [u] rfl (fun j u' hu => by
    have hj : j = 0 := by
      have := (List.getElem?_eq_some_iff.1 hu).1
      simpa using this
    subst hj
    simp only [List.getElem?_cons_zero, Option.some.injEq] at hu
    subst hu
    rw [plain_add, cell_of_row _ _ _ _ _ _ hX]
    rfl) (fun u' hu => by
      obtain rfl := List.mem_singleton.1 hu
      exact hone) h63 hbytes hb
  have hb' : Below base w w' := (Below.refl _ _).grown hg hb (fun j hj => (hown.lt j hj).1)
  refine ⟨v', w', hrun, But.upB hb', h.bel.trans hb', ?_, ?_, ?_, ?_, ?_⟩
  · rw [acc_upd_on]; exact fun h => by cases h
  · rw [acc_upd_off i1, acc_put_off t1]; exact h.slot
  · rw [acc_upd_on]; exact fun _ h => by cases h
  · intro _ v hv
    rw [acc_put_at hv]
    exact ho
  · rw [acc_upd_off i1, zS]; exact fun h => by cases h
theorem AccJ.set (h : AccJ E base iB iA iS tB tA tX v0 n xs u w0 f a w) (h1 : iA ≠ iS ∧ tA ≠ tX) (h2 : iB ≠ iS ∧ tB ≠ tX) (zA : f iA = true) {v : Value} (hv : a.tmps[tA]? = some v) : AccJ E base iB iA iS tB tA tX v0 n xs u w0 (Go.Rel.upd f iS) (a.put (some tX) v) w := by
  have ho := h.app zA v hv
  refine ⟨h.bel, ?_, ?_, ?_, ?_, ?_⟩
  · rw [acc_upd_off (Ne.symm h1.1), zA]; exact fun h => by cases h
  · rw [acc_upd_on]; exact fun h => by cases h
  · rw [acc_upd_off (Ne.symm h2.1), acc_upd_off (Ne.symm h1.1), zA]; exact fun _ h => by cases h
  · intro _ v2 hv2
    rw [acc_put_off (Ne.symm h1.2), hv] at hv2
    rw [← Option.some.inj hv2]
    exact ho
  · intro _ v2 hv2
    rw [acc_put_at hv2]
    exact ho
end
end Go.Proofs.YtilkbfmaofmjoaaGreatDoor
namespace Go.Proofs.YtilkbfmaofmjoaaGreatDoor
open Go.RowKit
set_option linter.unusedSimpArgs false
set_option linter.unusedVariables false
structure TI (n : Nat) (w0 : World) (P : World → Prop) (f : Nat → Bool) (w : World) : Prop where
  ahead : f n = false → Below w0.heap.size w0 w
  done_ : f n = true → P w
def OldB (w0 : World) : Nat → Prop := fun k => k < w0.heap.size
section
variable {n : Nat} {w0 w w' : World} {P : World → Prop} {f : Nat → Bool}
theorem TI.start : TI n w0 P (fun _ => false) { w0 with drawn := w0.drawn + 1 } := ⟨fun _ => ⟨rfl, rfl, rfl, Nat.le_refl _, fun _ _ => rfl⟩, (fun h => by cases h)⟩
theorem TI.read (h : TI n w0 P f w) {j : Nat} (hj : j ≠ n) : TI n w0 P (Go.Rel.upd f j) w := ⟨by rw [acc_upd_off hj]; exact h.ahead, by rw [acc_upd_off hj]; exact h.done_⟩
theorem TI.below (h : TI n w0 P f w) (zn : f n = false) (hb : Below w.heap.size w w') {j : Nat} (hj : j ≠ n) : TI n w0 P (Go.Rel.upd f j) w' :=
  ⟨fun _ => (h.ahead zn).trans (hb.mono (h.ahead zn).size), (fun e => by rw [acc_upd_off hj, zn] at e; cases e)⟩
theorem TI.last (h : P w') : TI n w0 P (Go.Rel.upd f n) w' := ⟨(fun e => by rw [acc_upd_on] at e; cases e), fun _ => h⟩
theorem OldB.of_below (h : Below w0.heap.size w0 w) (hb : Below w.heap.size w w') : But (OldB w0) w w' := But.of_below hb
theorem OldB.drew : But (OldB w0) w0 { w0 with drawn := w0.drawn + 1 } := (But.refl _ _).drew
end
theorem own_old {w0 w w' : World} {e : TypeId} {sz m : Nat} {v : Value} {xs : List Value} (h : w.ownsRow w0.heap.size e sz v m xs) (g : But (OldB w0) w w') : w'.ownsRow w0.heap.size e sz v m xs :=
  own_but h g (fun j hj hs => by
    rcases h.2 with ⟨rfl, _⟩ | ⟨b, _, _, rfl, hb, _⟩
    · cases hj
    · cases hj; exact absurd hs (Nat.not_lt.2 hb))
theorem But.oldB {w0 w w' : World} {T : Nat → Prop} (h : But T w w') (hT : ∀ k, T k → k < w0.heap.size) : But (OldB w0) w w' := h.mono hT
structure TI2 (r n : Nat) (w0 : World) (A P : World → Prop) (f : Nat → Bool) (w : World) : Prop where
  ahead : f r = false → Below w0.heap.size w0 w
  mid : f r = true → f n = false → A w
  done_ : f n = true → P w
section
variable {r n : Nat} {w0 w w' : World} {A P : World → Prop} {f : Nat → Bool}
theorem TI2.start : TI2 r n w0 A P (fun _ => false) { w0 with drawn := w0.drawn + 1 } := ⟨fun _ => ⟨rfl, rfl, rfl, Nat.le_refl _, fun _ _ => rfl⟩, (fun h => by cases h), (fun h => by cases h)⟩
theorem TI2.read (h : TI2 r n w0 A P f w) {j : Nat} (hj : j ≠ r ∧ j ≠ n) : TI2 r n w0 A P (Go.Rel.upd f j) w := ⟨by rw [acc_upd_off hj.1]; exact h.ahead, by rw [acc_upd_off hj.1, acc_upd_off hj.2]; exact h.mid, by rw [acc_upd_off hj.2]; exact h.done_⟩
theorem TI2.below (h : TI2 r n w0 A P f w) (zn : f n = false) (hb : Below w.heap.size w w') (hA : ∀ w w', A w → Below w.heap.size w w' → A w') {j : Nat} (hj : j ≠ r ∧ j ≠ n) : TI2 r n w0 A P (Go.Rel.upd f j) w' :=
  ⟨fun z => by rw [acc_upd_off hj.1] at z; exact (h.ahead z).trans (hb.mono (h.ahead z).size), fun z _ => by rw [acc_upd_off hj.1] at z; exact hA _ _ (h.mid z zn) hb, (fun e => by rw [acc_upd_off hj.2, zn] at e; cases e)⟩
theorem TI2.first (h : TI2 r n w0 A P f w) (zn : f n = false) (hne : r ≠ n) (hA : A w') : TI2 r n w0 A P (Go.Rel.upd f r) w' :=
  ⟨(fun e => by rw [acc_upd_on] at e; cases e), fun _ _ => hA, (fun e => by rw [acc_upd_off hne, zn] at e; cases e)⟩
theorem TI2.last (zr : f r = true) (hne : r ≠ n) (h : P w') : TI2 r n w0 A P (Go.Rel.upd f n) w' :=
  ⟨(fun e => by rw [acc_upd_off (Ne.symm hne), zr] at e; cases e), (fun _ e => by rw [acc_upd_on] at e; cases e), fun _ => h⟩
theorem TI2.but {S : Nat → Prop} (h : TI2 r n w0 A P f w) (zn : f n = false) (hA : ∀ w, A w → But S w0 w) : But S w0 w := by
  cases z : f r with
  | false => exact But.of_below (h.ahead z)
  | true => exact hA _ (h.mid z zn)
end
structure ApF {α : Type} (enc : α → List Value) (E : TypeId) (k B off iB iA iS tB tA : Nat) (v0 : Value) (L : List α) (y : α) (w0 : World) (f : Nat → Bool) (a : Act) (w : World) : Prop where
  pre : f iA = false → Below w0.heap.size w0 w
  but : But (fun j => v0.ownBlock = some j ∨ j = B) w0 w
  blk : f iS = false → w.heap[B]? = w0.heap[B]?
  built : f iB = true → f iA = false → ∀ v, a.tmps[tB]? = some v → ∃ X, v = .slice (some ⟨X, 0, none⟩) 1 1 ∧ ItAt enc w X 0 y
  app : f iA = true → ∀ v, a.tmps[tA]? = some v → rowK enc E k w 0 v (L ++ [y]) ∧ (v.ownBlock = v0.ownBlock ∨ ∃ b, v.ownBlock = some b ∧ w0.heap.size ≤ b)
  fin : f iS = true → ∃ v, rowK enc E k w 0 v (L ++ [y]) ∧ (v.ownBlock = v0.ownBlock ∨ ∃ b, v.ownBlock = some b ∧ w0.heap.size ≤ b) ∧ ∀ cs t fr, w0.heap[B]? = some (.cells cs t fr) → w.heap[B]? = some (.cells (cs.setIfInBounds off v) t fr)
section
variable {α : Type} {enc : α → List Value} {E : TypeId} {k B off iB iA iS tB tA : Nat} {v0 : Value} {L : List α} {y : α} {w0 : World} {f : Nat → Bool} {a : Act} {w : World}
theorem ApF.start : ApF enc E k B off iB iA iS tB tA v0 L y w0 (fun _ => false) a { w0 with drawn := w0.drawn + 1 } :=
  ⟨fun _ => ⟨rfl, rfl, rfl, Nat.le_refl _, fun _ _ => rfl⟩, (But.refl _ _).drew, fun _ => rfl, (fun h => by cases h), (fun h => by cases h), (fun h => by cases h)⟩
theorem ApF.keep (h : ApF enc E k B off iB iA iS tB tA v0 L y w0 f a w) {j t : Nat} (hj : j ≠ iB ∧ j ≠ iA ∧ j ≠ iS) (ht : t ≠ tB ∧ t ≠ tA) (v : Value) : ApF enc E k B off iB iA iS tB tA v0 L y w0 (Go.Rel.upd f j) (a.put (some t) v) w := by
  obtain ⟨j1, j2, j3⟩ := hj
  obtain ⟨t1, t2⟩ := ht
  refine ⟨?_, h.but, ?_, ?_, ?_, ?_⟩
  · rw [acc_upd_off j2]; exact h.pre
  · rw [acc_upd_off j3]; exact h.blk
  · rw [acc_upd_off j1, acc_upd_off j2, acc_put_off t1]; exact h.built
  · rw [acc_upd_off j2, acc_put_off t2]; exact h.app
  · rw [acc_upd_off j3]; exact h.fin
theorem ApF.lay (h : ApF enc E k B off iB iA iS tB tA v0 L y w0 f a w) (h1 : iB ≠ iA ∧ iB ≠ iS ∧ tB ≠ tA) (zA : f iA = false) (zS : f iS = false) (hB : B < w0.heap.size) (cs : Array Value) (hcs : cs.toList = enc y) (T : TypeId) :
    ApF enc E k B off iB iA iS tB tA v0 L y w0 (Go.Rel.upd f iB) (a.put (some tB) (.slice (some ⟨w.heap.size, 0, none⟩) 1 1)) (w.alloc (.cells cs T)) := by
  obtain ⟨i1, i2, t1⟩ := h1
  have hp := h.pre zA
  refine ⟨fun _ => hp.alloc hp.size _, h.but.alloc _, ?_, fun _ _ v hv => ⟨w.heap.size, acc_put_at hv, ItAt.of_new y cs hcs T⟩, ?_, ?_⟩
  · intro _
    rw [heap_alloc_old _ _ (Nat.lt_of_lt_of_le hB hp.size)]
    exact h.blk zS
  · rw [acc_upd_off i1, zA]; exact fun h => by cases h
  · rw [acc_upd_off i2, zS]; exact fun h => by cases h
theorem ApF.append {P : Program} (h : ApF enc E k B off iB iA iS tB tA v0 L y w0 f a w) (h1 : iA ≠ iS ∧ iB ≠ iA) (zB : f iB = true) (zA : f iA = false) (zS : f iS = false) (hown : rowK enc E k w0 0 v0 L) (hne : v0.ownBlock ≠ some B) (hB : B < w0.heap.size)
    (T ty : TypeId) (i : TypeInfo) (z : Value) (bytes : Nat) (ht : P.underlying T = some (.slice E)) (hi : P.info? E = some i) (hz : i.zero = some z) (hsize : i.size = k) (hby : i.bytes = bytes) (hzs : z.cells.size = k) (hk0 : 0 < k)
    (hk : ∀ x, (enc x).length = k) (h1' : ∀ x, ∀ u ∈ enc x, u.oneCell' = true) (h63 : L.length + 1 ≤ maxLen) (hbytes : (L.length + 1) * bytes ≤ 140737488355328) {vx : Value} (hx : a.tmps[tB]? = some vx) :
    ∃ v' w', (Builtin.append_ #[T, T] ty #[v0, vx]).run P w = .ok v' w' ∧ But (fun j => v0.ownBlock = some j ∨ j = B) w w' ∧ ApF enc E k B off iB iA iS tB tA v0 L y w0 (Go.Rel.upd f iA) (a.put (some tA) v') w' := by
  obtain ⟨i1, i2⟩ := h1
  obtain ⟨X, rfl, hX⟩ := h.built zB zA vx hx
  have hp := h.pre zA
  have ho : rowK enc E k w 0 v0 L := bown_keep hown hp
  obtain ⟨v', w', hrun, ho', hg, _, hloc⟩ := run_append_own_at (P := P) w 0 T ty E i z k bytes ht hi hz hsize hby hzs hk0 v0 L.length (L.flatMap enc) ho ⟨X, 0, none⟩ 1 1 (enc y) (by rw [hk]; omega) (fun j u hu => by
    rw [plain_add]
    exact hX j u hu) (h1' y) h63 hbytes (Nat.zero_le _)
  have hb : But (fun j => v0.ownBlock = some j ∨ j = B) w w' := But.of_grown hg (fun r e _ => .inl e)
  have hB' : w'.heap[B]? = w.heap[B]? := hg.block B (Nat.lt_of_lt_of_le hB hp.size) (fun e => hne e.symm)
  refine ⟨v', w', hrun, hb, ?_, h.but.trans hb, fun _ => hB'.trans (h.blk zS), ?_, ?_, ?_⟩
  · rw [acc_upd_on]; exact fun h => by cases h
  · rw [acc_upd_on]; exact fun _ h => by cases h
  · intro _ v hv
    rw [acc_put_at hv]
    refine ⟨?_, ?_⟩
    · unfold rowK
      rw [List.flatMap_append, List.length_append, List.flatMap_cons, List.flatMap_nil, List.append_nil]
      exact ho'
    · rcases hloc with e | e
      · exact .inl e
      · exact .inr ⟨_, e, hp.size⟩
  · rw [acc_upd_off i1, zS]; exact fun h => by cases h
theorem ApF.store (h : ApF enc E k B off iB iA iS tB tA v0 L y w0 f a w) (h1 : iA ≠ iS) (zA : f iA = true) (zS : f iS = false) (hne : v0.ownBlock ≠ some B) (hB : B < w0.heap.size) {v : Value} (hv : a.tmps[tA]? = some v) (o : Option Nat) (ho : o = none) (u : Value) :
    But (fun j => v0.ownBlock = some j ∨ j = B) w (w.setCell ⟨B, off, none⟩ v) ∧ ApF enc E k B off iB iA iS tB tA v0 L y w0 (Go.Rel.upd f iS) (a.put o u) (w.setCell ⟨B, off, none⟩ v) := by
  subst ho
  obtain ⟨hr, hl⟩ := h.app zA v hv
  have hb : But (fun j => v0.ownBlock = some j ∨ j = B) w (w.setCell ⟨B, off, none⟩ v) := But.set (S := fun j => v0.ownBlock = some j ∨ j = B) w (p := ⟨B, off, none⟩) (.inr rfl) v
  have hb1 : But (· = B) w (w.setCell ⟨B, off, none⟩ v) := But.set (S := (· = B)) w (p := ⟨B, off, none⟩) rfl v
  have hvB : ∀ j, v.ownBlock = some j → ¬ j = B := fun j hj e => by
    subst e
    rcases hl with e | ⟨b, e, hb⟩
    · exact hne (e.symm.trans hj)
    · rw [hj] at e; cases e; omega
  refine ⟨hb, ?_, h.but.trans hb, ?_, ?_, ?_, ?_⟩
  · rw [acc_upd_off (Ne.symm h1), zA]; exact fun h => by cases h
  · rw [acc_upd_on]; exact fun h => by cases h
  · intro e1 e2
    rw [acc_upd_off (Ne.symm h1), zA] at e2; cases e2
  · intro _ v2 hv2
    have : v2 = v := by
      have h3 : (a.put none u).tmps[tA]? = a.tmps[tA]? := rfl
      rw [h3, hv] at hv2
      exact (Option.some.inj hv2).symm
    subst this
    exact ⟨hr.but hb1 hvB, hl⟩
  · intro _
    refine ⟨v, hr.but hb1 hvB, hl, fun cs t fr hcs => ?_⟩
    exact block_set ((h.blk zS).trans hcs) off v
end
end Go.Proofs.YtilkbfmaofmjoaaGreatDoor
namespace Go.Rel
open Go Go.RowKit
def uses : Op → List Operand
  | .move x | .assign x | .nilCheck x | .box _ x | .load _ x | .unOp _ _ x | .convert _ _ x | .makeInterface _ x | .fieldAddr _ x _ | .field _ x _ | .extract x _ => [x]
  | .pick c a b => [c, a, b]
  | .build _ parts | .buildSlice _ _ parts => parts.toList.map (·.2)
  | .store _ a x | .binOp _ _ a x _ | .indexAddr _ a x | .index _ a x | .lookup _ a x _ | .makeSlice _ a x => [a, x]
  | .mapUpdate _ m k x => [m, k, x]
  | .makeFunc _ first captured => first.toList ++ captured.toList
  | .slice _ x lo hi mx => x :: (lo.toList ++ hi.toList ++ mx.toList)
  | .call c => (match c.callee with | .value f => [f] | .invoke r _ => [r] | .builtin _ => []) ++ c.args.toList
  | _ => []
def known : Op → Bool
  | .move _ | .assign _ | .nilCheck _ | .box _ _ | .load _ _ | .unOp _ _ _ | .convert _ _ _ | .makeInterface _ _ | .fieldAddr _ _ _ | .field _ _ _ | .extract _ _ | .pick _ _ _ | .build _ _ | .buildSlice _ _ _ | .alloc _
  | .store _ _ _ | .binOp _ _ _ _ _ | .indexAddr _ _ _ | .index _ _ _ | .lookup _ _ _ _ | .makeSlice _ _ _ | .mapUpdate _ _ _ _ | .makeFunc _ _ _ | .slice _ _ _ _ _ | .call _ => true
  | _ => false
theorem map_same {α β : Type} {f g : α → β} (l : Array α) (h : ∀ x ∈ l.toList, f x = g x) : l.map f = l.map g := by
  apply Array.ext_getElem?
  intro i
  rw [Array.getElem?_map, Array.getElem?_map]
  cases hx : l[i]? with
  | none => rfl
  | some x => rw [Option.map_some, Option.map_some, h x (by simpa using Array.mem_of_getElem? hx)]
theorem opt_same {α β : Type} {f g : α → β} (o : Option α) (h : ∀ x ∈ o.toList, f x = g x) : o.map f = o.map g := by
  cases o with
  | none => rfl
  | some x => rw [Option.map_some, Option.map_some, h x (by simp)]
theorem execOp_congr {o : Oper} {r s : Operand → Value} (hk : known o.op = true) (h : ∀ x ∈ uses o.op, r x = s x) : execOp r o = execOp s o := by
  obtain ⟨dst, op, type, pos, after, guard⟩ := o
  cases op <;> simp only [known, Bool.false_eq_true] at hk
  all_goals simp only [uses, List.mem_cons, List.mem_append, List.not_mem_nil, or_false, forall_eq_or_imp, forall_eq, List.mem_map, forall_exists_index, and_imp, forall_apply_eq_imp_iff₂] at h
  case build t parts => simp only [execOp]; rw [map_same parts (f := fun q => (q.1, r q.2)) (g := fun q => (q.1, s q.2)) fun q hq => by rw [h q hq]]
  case buildSlice t n parts => simp only [execOp]; rw [map_same parts (f := fun q => (q.1, r q.2)) (g := fun q => (q.1, s q.2)) fun q hq => by rw [h q hq]]
  case makeFunc fn first captured => simp only [execOp]; rw [map_same first fun x hx => h x (.inl hx), map_same captured fun x hx => h x (.inr hx)]
  case slice t x lo hi mx => simp only [execOp]; rw [h.1, opt_same lo fun y hy => h.2 y (.inl (.inl hy)), opt_same hi fun y hy => h.2 y (.inl (.inr hy)), opt_same mx fun y hy => h.2 y (.inr hy)]
  case call c =>
    obtain ⟨callee, args, tys⟩ := c
    have ha : args.map r = args.map s := map_same args fun x hx => h x (.inr hx)
    cases callee with
    | value f => simp only [execOp, resolve]; rw [ha, h f (.inl (by simp))]
    | invoke r2 n => simp only [execOp, resolve]; rw [ha, h r2 (.inl (by simp))]
    | builtin b => simp only [execOp, resolve]; rw [ha]
  all_goals simp only [execOp, h]
def wrL : Nat → List Oper → Tmp → Option Nat
  | _, [], _ => none
  | i, o :: os, t => if o.dst == some t then some i else wrL (i + 1) os t
theorem wrL_some : ∀ {os : List Oper} {i j : Nat} {t : Tmp}, wrL i os t = some j → i ≤ j ∧ ∃ o, os[j - i]? = some o ∧ o.dst = some t
  | o :: os, i, j, t, h => by
    rw [wrL] at h
    split at h
    · next e =>
      cases h
      exact ⟨Nat.le_refl _, o, by simp, by simpa using e⟩
    · obtain ⟨h1, o', h2, h3⟩ := wrL_some h
      exact ⟨by omega, o', by rw [show j - i = (j - (i + 1)) + 1 by omega]; simpa using h2, h3⟩
theorem wrL_none : ∀ {os : List Oper} {i : Nat} {t : Tmp}, wrL i os t = none → os.all (fun o => o.dst != some t) = true
  | [], _, _, _ => rfl
  | o :: os, i, t, h => by
    rw [wrL] at h
    split at h
    · cases h
    · next e =>
      rw [List.all_cons, wrL_none h, Bool.and_true]
      simpa using e
def rho (l : List Oper) (a0 : Act) (E : Nat → Value) : Operand → Value
  | .tmp t => match wrL 0 l t with | some j => E j | none => a0.tmps.getD t undef
  | x => a0.eval x
def deps (l : List Oper) (o : Oper) : List Nat := ((uses o.op).filterMap fun | .tmp t => wrL 0 l t | _ => none) ++ (match o.guard with | some (j, _) => [j] | none => [])
def tied (l : List Oper) (o : Oper) : Bool := known o.op && (deps l o).all fun j => o.after.any (fun e => e.on == j && Region.binds .any e) && (((l[j]?).bind (·.dst)).isSome)
def wantE (E : Nat → Value) (o : Oper) : Bool := match o.guard with | none => true | some (j, b) => match E j with | .bool c => c == b | _ => false
def static (ops : Array Oper) (n : Nat) : Bool := orderly ops && onceEach ops && inFrame ops n && ops.toList.all (tied ops.toList)
def finL : Nat → List Oper → (Nat → Value) → Array Value → Array Value
  | _, [], _, t => t
  | i, o :: os, ea, t => finL (i + 1) os ea (match o.dst with | some d => t.setIfInBounds d (ea i) | none => t)
def Runs (P : Program) (r : Result Next) (K : Value → World → Prop) : Prop := match r with
  | .ok (.value v) w => K v w
  | .ok .skip w => K undef w
  | .ok (.enter f args) w => Calls P f args w fun | .returned v, w' => K v w' | _, _ => False
  | _ => False
theorem upon_of_runs {P : Program} {o : Oper} {a : Act} {Q : Exit → Act → World → Prop} {K : Act → World → Prop} {r : Result Next} (h : Runs P r fun v w => K (a.put o.dst v) w) : o.upon P a K Q r := by
  unfold Runs at h
  split at h
  · exact h
  · exact h
  · rw [Oper.upon_enter]
    refine Calls.mono h fun e w' hp => ?_
    cases e with
    | returned v => exact hp
    | panicked c => exact hp.elim
    | outgrown => exact hp.elim
  · exact h.elim
section
variable {P : Program} {ops : Array Oper} {Q : Exit → Act → World → Prop} {a0 : Act} {w0 : World} {I : (Nat → Bool) → World → Prop} {Le : World → World → Prop} {E : Nat → Value} {X : Nat → Value → World → Prop} {xs sp : Nat → Bool}
def Val (E : Nat → Value) (X : Nat → Value → World → Prop) (xs : Nat → Bool) (i : Nat) (v : Value) (w : World) : Prop := match xs i with | true => X i v w | false => v = E i
def PureOk (P : Program) (l : List Oper) (a0 : Act) (E : Nat → Value) (sp : Nat → Bool) (i : Nat) (o : Oper) : Prop :=
  sp i = true ∨ (wantE E o = true ∧ ∀ w, (execOp (rho l a0 E) o).run P w = .ok (.value (E i)) w) ∨ (wantE E o = false ∧ E i = undef)
def SpecOk (P : Program) (ops : Array Oper) (a0 : Act) (w0 : World) (I : (Nat → Bool) → World → Prop) (Le : World → World → Prop) (E : Nat → Value) (X : Nat → Value → World → Prop) (xs : Nat → Bool) (i : Nat) : Prop :=
  ∀ (f : Nat → Bool) (w : World) (e : Nat → Value), I f w → f i = false → (∀ n j, anc ops n i j = true → f j = true) → (∀ n j, anc ops n j i = true → f j = false) → Le w0 w → (∀ o, ops[i]? = some o → ∀ j, j ∈ deps ops.toList o → Val E X xs j (e j) w) →
    ∀ K : Value → World → Prop, (∀ v w', Le w w' → I (upd f i) w' → Val E X xs i v w' → K v w') → ∀ o, ops[i]? = some o → Runs P ((execOp (rho ops.toList a0 e) o).run P w) K
def apart (l : List Oper) (E : Nat → Value) (xs sp : Nat → Bool) : Nat → List Oper → Bool
  | _, [] => true
  | i, o :: os => (if sp i then wantE E o && (match o.guard with | some (j, _) => !xs j | none => true) else (deps l o).all (fun j => !xs j) && !xs i) && apart l E xs sp (i + 1) os
theorem apart_spec {l : List Oper} : ∀ {os : List Oper} {i : Nat}, apart l E xs sp i os = true → ∀ (j : Nat) (o : Oper), os[j]? = some o → (sp (i + j) = true → wantE E o = true ∧ (match o.guard with | some (j, _) => xs j = false | none => True)) ∧ (sp (i + j) = false → (∀ q ∈ deps l o, xs q = false) ∧ xs (i + j) = false)
  | [], _, _, _, _, h => by simp at h
  | o :: os, i, h, 0, o', h' => by
    obtain rfl : o = o' := by simpa using h'
    rw [apart, Bool.and_eq_true] at h
    refine ⟨fun e => ?_, fun e => ?_⟩
    · rw [Nat.add_zero] at e
      have h1 := h.1
      rw [if_pos e, Bool.and_eq_true] at h1
      refine ⟨h1.1, ?_⟩
      cases hg : o.guard with
      | none => trivial
      | some g =>
        have := h1.2
        rw [hg] at this
        simpa using this
    · rw [Nat.add_zero] at e ⊢
      have h1 := h.1
      rw [if_neg (by rw [e]; exact Bool.false_ne_true), Bool.and_eq_true, List.all_eq_true] at h1
      exact ⟨fun q hq => by simpa using h1.1 q hq, by simpa using h1.2⟩
  | o :: os, i, h, j + 1, o', h' => by
    rw [apart, Bool.and_eq_true] at h
    have := apart_spec h.2 j o' (by simpa using h')
    rwa [show i + 1 + j = i + (j + 1) by omega] at this
theorem finL_eq {a : Act} {e : Nat → Value} : ∀ (os : List Oper) (i : Nat) (t : Array Value), (∀ j o d, os[j]? = some o → o.dst = some d → e (i + j) = a.tmps.getD d undef) → finL i os e t = os.foldl (reset a) t
  | [], _, _, _ => rfl
  | o :: os, i, t, h => by
    rw [finL, List.foldl_cons, finL_eq os (i + 1) _ fun j o' d h1 h2 => by have := h (j + 1) o' d (by simpa using h1) h2; rwa [show i + (j + 1) = i + 1 + j by omega] at this]
    congr 1
    unfold reset
    cases hd : o.dst with
    | none => rfl
    | some d =>
      have := h 0 o d (by simp) hd
      rw [Nat.add_zero] at this
      simp only [this]
theorem Each.of {F : Nat → Oper → Prop} : ∀ {os : List Oper} {i : Nat}, (∀ j o, os[j]? = some o → F (i + j) o) → Each F i os
  | [], _, _ => trivial
  | o :: os, i, h => ⟨h 0 o (by simp), Each.of fun j o' h' => by have := h (j + 1) o' (by simpa using h'); rwa [show i + (j + 1) = i + 1 + j by omega] at this⟩
def eaOf (ops : Array Oper) (a : Act) (j : Nat) : Value := match (ops[j]?).bind (·.dst) with | some t => a.tmps.getD t undef | none => undef
theorem wrL_dst {l : List Oper} {t : Tmp} {j : Nat} (h : wrL 0 l t = some j) : ∃ o, l[j]? = some o ∧ o.dst = some t := by
  obtain ⟨_, o, h1, h2⟩ := wrL_some h
  exact ⟨o, by simpa using h1, h2⟩
theorem dep_known {a : Act} {w : World} {R : Nat → Value → World → Prop} {o : Oper} (ht : tied ops.toList o = true) (hd : ∀ j t, needs ops o j t = true → ∃ v, a.tmps[t]? = some v ∧ R j v w) : ∀ j ∈ deps ops.toList o, R j (eaOf ops a j) w ∧ ∃ t, (ops[j]?).map (·.dst) = some (some t) ∧ a.tmps[t]? = some (eaOf ops a j) := by
  intro j hj
  unfold tied at ht
  rw [Bool.and_eq_true, List.all_eq_true] at ht
  have h1 := ht.2 j hj
  rw [Bool.and_eq_true] at h1
  obtain ⟨h1, h2⟩ := h1
  cases ho : ops.toList[j]? with
  | none => rw [ho] at h2; cases h2
  | some oj =>
    rw [ho] at h2
    obtain ⟨t, htj⟩ := Option.isSome_iff_exists.1 h2
    have htj' : oj.dst = some t := by simpa using htj
    have ho' : ops[j]? = some oj := by simpa using ho
    obtain ⟨v, hv, hr⟩ := hd j t (by unfold needs; rw [h1, ho', Option.map_some, htj']; simp)
    have e : eaOf ops a j = v := by
      unfold eaOf
      rw [ho', Option.bind_some, htj']
      simp [Array.getD_eq_getD_getElem?, hv]
    rw [e]
    exact ⟨hr, t, by rw [ho', Option.map_some, htj'], hv⟩
theorem eval_rho {a : Act} {o : Oper} (hs : Same ops a0 a) : ∀ x ∈ uses o.op, a.eval x = rho ops.toList a0 (eaOf ops a) x := by
  intro x _
  cases x with
  | tmp t =>
    show a.tmps.getD t undef = match wrL 0 ops.toList t with | some j => eaOf ops a j | none => a0.tmps.getD t undef
    cases hw : wrL 0 ops.toList t with
    | none =>
      have := hs.2.2 t (by rw [← Array.all_toList]; exact wrL_none hw)
      simp only [Array.getD_eq_getD_getElem?, this]
    | some j =>
      obtain ⟨o', h1, h2⟩ := wrL_dst hw
      have h1' : ops[j]? = some o' := by simpa using h1
      show _ = eaOf ops a j
      unfold eaOf
      rw [h1', Option.bind_some, h2]
  | const v => rfl
  | global g => rfl
  | func f => rfl
theorem want_e {a : Act} {w : World} {o : Oper} {R : Nat → Value → World → Prop} (hk : ∀ j ∈ deps ops.toList o, R j (eaOf ops a j) w ∧ ∃ t, (ops[j]?).map (·.dst) = some (some t) ∧ a.tmps[t]? = some (eaOf ops a j)) : Region.wanted o (yielded ops a.tmps) = wantE (eaOf ops a) o := by
  unfold Region.wanted wantE
  cases hg : o.guard with
  | none => rfl
  | some g =>
    obtain ⟨j, b⟩ := g
    obtain ⟨_, t, h1, h2⟩ := hk j (by unfold deps; rw [hg]; simp)
    have h3 : yielded ops a.tmps j = match some (eaOf ops a j) with | some (.bool c) => some c | _ => none := by
      unfold yielded
      cases ho : ops[j]? with
      | none => rw [ho] at h1; simp at h1
      | some oj =>
        rw [ho] at h1
        have hd : oj.dst = some t := by simpa using h1
        rw [Option.bind_some, hd, Option.bind_some, h2]
        cases eaOf ops a j <;> rfl
    simp only [h3]
    cases eaOf ops a j <;> simp
theorem rho_same {l : List Oper} {e e' : Nat → Value} {o : Oper} (h : ∀ j ∈ deps l o, e j = e' j) : ∀ x ∈ uses o.op, rho l a0 e x = rho l a0 e' x := by
  intro x hx
  cases x with
  | tmp t =>
    show (match wrL 0 l t with | some j => e j | none => _) = (match wrL 0 l t with | some j => e' j | none => _)
    cases hw : wrL 0 l t with
    | none => rfl
    | some j => exact h j (by unfold deps; rw [List.mem_append]; exact .inl (List.mem_filterMap.2 ⟨.tmp t, hx, hw⟩))
  | const v => rfl
  | global g => rfl
  | func f => rfl
theorem wantE_same {l : List Oper} {e e' : Nat → Value} {o : Oper} (h : ∀ j ∈ deps l o, e j = e' j) : wantE e o = wantE e' o := by
  unfold wantE
  cases hg : o.guard with
  | none => rfl
  | some g =>
    obtain ⟨j, b⟩ := g
    simp only
    rw [h j (by unfold deps; rw [hg]; simp)]
theorem wp_tab {id : Nat} (hm : P.follows .mixedOrders = true) (hst : static ops a0.tmps.size = true)
    (I : (Nat → Bool) → World → Prop) (Le : World → World → Prop) (refl : ∀ w, Le w w) (trans : ∀ a b c, Le a b → Le b c → Le a c) (drew : Le w0 { w0 with drawn := w0.drawn + 1 }) (start : I (fun _ => false) { w0 with drawn := w0.drawn + 1 })
    (E : Nat → Value) (X : Nat → Value → World → Prop) (xs sp : Nat → Bool) (hap : apart ops.toList E xs sp 0 ops.toList = true)
    (stable : ∀ i v w w', X i v w → Le w w' → X i v w') (last : Nat) (hlast : sp last = true) (hread : ∀ f w i, i ≠ last → I f w → I (upd f i) w)
    (hpure : Each (PureOk P ops.toList a0 E sp) 0 ops.toList)
    (hspec : ∀ i, sp i = true → SpecOk P ops a0 w0 I Le E X xs i)
    (hend : ∀ f w (e : Nat → Value), (∀ i, i < ops.size → f i = true) → I f w → Le w0 w → (∀ (i : Nat), ((ops[i]?).bind (·.dst)).isSome = true → Val E X xs i (e i) w) → Q .normal { tmps := finL 0 ops.toList e a0.tmps, defers := a0.defers } w) :
    (Code.region id ops true).wp P Q a0 w0 := by
  simp only [static, Bool.and_eq_true] at hst
  obtain ⟨⟨⟨h1, h2⟩, h3⟩, h4⟩ := hst
  rw [List.all_eq_true] at h4
  have hE : ∀ (i : Nat) (o : Oper), ops[i]? = some o → tied ops.toList o = true := fun i o h => h4 o (by simpa using Array.mem_of_getElem? h)
  refine wp_region_states hm h1 h2 h3 I Le trans drew start (Val E X xs) (fun i v w w' h hl => ?_) ?_ ?_
  · unfold Val at h ⊢
    split at h
    · exact stable i v w w' h hl
    · exact h
  · refine Each.of fun i o ho => ?_
    rw [Nat.zero_add]
    have ho' : ops[i]? = some o := by simpa using ho
    have htd := hE i o ho'
    have hkn : known o.op = true := by unfold tied at htd; exact (Bool.and_eq_true _ _ ▸ htd).1
    have hA := apart_spec hap i o ho
    rw [Nat.zero_add] at hA
    intro f a w hI hf hanc hdesc hle hs hd K hK
    have hk := dep_known htd hd
    have hev := eval_rho (o := o) hs
    have hwt := want_e hk
    have hrun : execOp a.eval o = execOp (rho ops.toList a0 (eaOf ops a)) o := execOp_congr hkn hev
    unfold stepOf
    rw [hwt]
    cases hsp : sp i with
    | true =>
      obtain ⟨g1, g2⟩ := hA.1 hsp
      have hw : wantE (eaOf ops a) o = true := by
        rw [← g1]
        unfold wantE
        cases hg : o.guard with
        | none => rfl
        | some g =>
          obtain ⟨j, b⟩ := g
          have hj := (hk j (by unfold deps; rw [hg]; simp)).1
          rw [hg] at g2
          have g2' : xs j = false := g2
          unfold Val at hj
          rw [g2'] at hj
          simp only
          rw [show eaOf ops a j = E j from hj]
      rw [if_pos hw]
      refine upon_of_runs ?_
      rw [hrun]
      exact hspec i hsp f w _ hI hf hanc hdesc hle (fun o2 h2 j hj => by
        obtain rfl : o = o2 := Option.some.inj (ho'.symm.trans h2)
        exact (hk j hj).1) _ (fun v w' a1 a2 a3 => hK v w' a1 a2 a3) o ho'
    | false =>
      obtain ⟨g1, g2⟩ := hA.2 hsp
      have hee : ∀ j ∈ deps ops.toList o, eaOf ops a j = E j := fun j hj => by
        have := (hk j hj).1
        unfold Val at this
        rw [g1 j hj] at this
        exact this
      have hv : ∀ v, v = E i → Val E X xs i v w := fun v hv => by unfold Val; rw [g2]; exact hv
      rw [wantE_same hee]
      have hp := hpure.get i o ho
      rw [Nat.zero_add] at hp
      rcases hp with hp | ⟨hw, hp⟩ | ⟨hw, hp⟩
      · rw [hsp] at hp; cases hp
      · rw [if_pos hw]
        refine upon_of_runs ?_
        rw [hrun, execOp_congr hkn (rho_same hee), hp w]
        exact hK _ _ (refl w) (hread f w i (fun e => by rw [e, hlast] at hsp; cases hsp) hI) (hv _ rfl)
      · rw [if_neg (by rw [hw]; exact Bool.false_ne_true)]
        exact hK _ _ (refl w) (hread f w i (fun e => by rw [e, hlast] at hsp; cases hsp) hI) (hv _ hp.symm)
  · intro f a w hall hI hle hs hR
    have he : a = { tmps := finL 0 ops.toList (eaOf ops a) a0.tmps, defers := a0.defers } := by
      have := hs.shape
      rw [finL_eq (a := a) _ 0 _ fun j o d hj hd => by
        have hj' : ops[j]? = some o := by simpa using hj
        unfold eaOf
        simp only [Nat.zero_add, hj', Option.bind_some, hd]]
      exact this
    rw [he]
    refine hend f w _ hall hI hle fun i hi => ?_
    cases hd : (ops[i]?).bind (·.dst) with
    | none => rw [hd] at hi; cases hi
    | some t =>
      obtain ⟨v, hv, hr⟩ := hR i t (by
        cases ho : ops[i]? with
        | none => rw [ho] at hd; cases hd
        | some o => rw [ho] at hd; simpa using hd)
      have e9 : eaOf ops a i = a.tmps.getD t undef := by unfold eaOf; rw [hd]
      rw [e9, show a.tmps.getD t undef = v by simp [Array.getD_eq_getD_getElem?, hv]]
      exact hr
def AllOf (F : Nat → Prop) : List Nat → Prop
  | [] => True
  | i :: l => F i ∧ AllOf F l
theorem AllOf.get {F : Nat → Prop} : ∀ {l : List Nat}, AllOf F l → ∀ i, l.contains i = true → F i
  | [], _, i, h => by simp at h
  | j :: l, h, i, hi => by
    rw [List.contains_cons, Bool.or_eq_true, beq_iff_eq] at hi
    rcases hi with rfl | hi
    · exact h.1
    · exact AllOf.get h.2 i hi
def plain (l : List Oper) (xs : Nat → Bool) (o : Oper) : Bool := (deps l o).all fun j => !xs j
theorem SpecOk.of {i : Nat} {o : Oper} (ho : ops[i]? = some o) (hk : known o.op = true) (hp : plain ops.toList xs o = true)
    (h : ∀ (f : Nat → Bool) (w : World), I f w → f i = false → (∀ n j, anc ops n j i = true → f j = false) → (∀ n j, anc ops n i j = true → f j = true) → Le w0 w → ∀ K : Value → World → Prop, (∀ v w', Le w w' → I (upd f i) w' → Val E X xs i v w' → K v w') → Runs P ((execOp (rho ops.toList a0 E) o).run P w) K) : SpecOk P ops a0 w0 I Le E X xs i := by
  intro f w e hI hf hanc hdesc hle hR K hK o' ho'
  obtain rfl : o = o' := Option.some.inj (ho.symm.trans ho')
  have hee : ∀ j ∈ deps ops.toList o, e j = E j := fun j hj => by
    have h1 := hR o ho j hj
    have h2 := List.all_eq_true.1 hp j hj
    unfold Val at h1
    rw [show xs j = false by simpa using h2] at h1
    exact h1
  rw [execOp_congr hk (rho_same hee)]
  exact h f w hI hf hdesc hanc hle K hK
def mixE (E : Nat → Value) (xs : Nat → Bool) (e : Nat → Value) (j : Nat) : Value := match xs j with | true => e j | false => E j
theorem SpecOk.ld {i last : Nat} {o : Oper} {T : TypeId} {x : Operand} {q : Value} (hread : ∀ f w i, i ≠ last → I f w → I (upd f i) w) (refl : ∀ w, Le w w) (hl : i ≠ last := by decide) (ho : ops[i]? = some o := by rfl) (hop : o.op = .load T x := by rfl) (hx : rho ops.toList a0 E x = q := by kernel_rfl) (hp : plain ops.toList xs o = true := by kernel_rfl) (hxs : xs i = false := by rfl)
    (h : ∀ (f : Nat → Bool) (w : World), I f w → f i = false → (∀ n j, anc ops n j i = true → f j = false) → (∀ n j, anc ops n i j = true → f j = true) → Le w0 w → (Instr.loadAt T q).run P w = .ok (E i) w) : SpecOk P ops a0 w0 I Le E X xs i := by
  refine SpecOk.of ho (by rw [hop]; rfl) hp fun f w hI hf hdesc hanc hle K hK => ?_
  have e : (execOp (rho ops.toList a0 E) o).run P w = .ok (.value (E i)) w := by
    unfold execOp
    simp only [hop, hx, Sem.run_bind, Sem.run_pure, h f w hI hf hdesc hanc hle, Result.andThen_ok]
  rw [e]
  exact hK _ _ (refl w) (hread f w i hl hI) (by unfold Val; rw [hxs])
theorem SpecOk.slice {i last : Nat} {o : Oper} {T : TypeId} {x : Operand} {lo hi mx : Option Operand} {q : Value} {vlo vhi vmx : Option Value} (hread : ∀ f w i, i ≠ last → I f w → I (upd f i) w) (refl : ∀ w, Le w w) (h : ∀ w, (Instr.sliceAt T q vlo vhi vmx).run P w = .ok (E i) w) (hl : i ≠ last := by decide) (ho : ops[i]? = some o := by rfl) (hop : o.op = .slice T x lo hi mx := by rfl) (hx : rho ops.toList a0 E x = q := by kernel_rfl) (hlo : lo.map (rho ops.toList a0 E) = vlo := by kernel_rfl) (hhi : hi.map (rho ops.toList a0 E) = vhi := by kernel_rfl) (hmx : mx.map (rho ops.toList a0 E) = vmx := by kernel_rfl) (hp : plain ops.toList xs o = true := by kernel_rfl) (hxs : xs i = false := by rfl) : SpecOk P ops a0 w0 I Le E X xs i := by
  refine SpecOk.of ho (by rw [hop]; rfl) hp fun f w hI hf hdesc hanc hle K hK => ?_
  have e : (execOp (rho ops.toList a0 E) o).run P w = .ok (.value (E i)) w := by
    unfold execOp
    simp only [hop, hx, hlo, hhi, hmx, Sem.run_bind, Sem.run_pure, h w, Result.andThen_ok]
  rw [e]
  exact hK _ _ (refl w) (hread f w i hl hI) (by unfold Val; rw [hxs])
theorem SpecOk.call {i : Nat} {o : Oper} (k : Nat) (A : Array Value) (ho : ops[i]? = some o) (hp : (known o.op && plain ops.toList xs o) = true) (hr : ∀ w, (execOp (rho ops.toList a0 E) o).run P w = .ok (.enter k A) w)
    (h : ∀ (f : Nat → Bool) (w : World), I f w → f i = false → (∀ n j, anc ops n j i = true → f j = false) → (∀ n j, anc ops n i j = true → f j = true) → Le w0 w → Calls P k A w fun e w' => ∃ v, e = .returned v ∧ Le w w' ∧ I (upd f i) w' ∧ Val E X xs i v w') : SpecOk P ops a0 w0 I Le E X xs i := by
  rw [Bool.and_eq_true] at hp
  refine SpecOk.of ho hp.1 hp.2 fun f w hI hf hdesc hanc hle K hK => ?_
  rw [hr w]
  show Calls P k A w _
  refine (h f w hI hf hdesc hanc hle).mono fun e w' ⟨v, he, h1, h2, h3⟩ => ?_
  rw [he]
  exact hK v w' h1 h2 h3
def asgL : List (Tmp × Value) → Tmp → Value
  | [], _ => undef
  | p :: l, u => if p.1 = u then p.2 else asgL l u
@[go_sem] theorem asgL_cons (t : Tmp) (v : Value) (l : List (Tmp × Value)) (u : Tmp) : asgL ((t, v) :: l) u = if t = u then v else asgL l u := rfl
def asg (l : List (Tmp × Value)) : Operand → Value
  | .tmp t => asgL l t
  | .const v => v
  | .global g => .pointer (some ⟨g, 0, none⟩)
  | .func f => .func (.func f) #[] #[]
@[go_sem] theorem asg_tmp (l : List (Tmp × Value)) (t : Tmp) : asg l (.tmp t) = asgL l t := rfl
@[go_sem] theorem asg_const (l : List (Tmp × Value)) (v : Value) : asg l (.const v) = v := rfl
@[go_sem] theorem asg_func (l : List (Tmp × Value)) (f : FuncId) : asg l (.func f) = .func (.func f) #[] #[] := rfl
def slotsOf (r : Operand → Value) : List Operand → List (Tmp × Value)
  | [] => []
  | .tmp t :: l => (t, r (.tmp t)) :: slotsOf r l
  | _ :: l => slotsOf r l
theorem slotsOf_get {r : Operand → Value} {t : Tmp} : ∀ {l : List Operand}, Operand.tmp t ∈ l → asgL (slotsOf r l) t = r (.tmp t)
  | x :: l, h => by
    cases x with
    | tmp u =>
      rw [slotsOf, asgL_cons]
      by_cases e : u = t
      · rw [if_pos e, e]
      · rw [if_neg e]
        rcases List.mem_cons.1 h with h | h
        · cases h; exact absurd rfl e
        · exact slotsOf_get h
    | const v =>
      rcases List.mem_cons.1 h with h | h
      · cases h
      · show asgL (slotsOf r l) t = _
        exact slotsOf_get h
    | global g =>
      rcases List.mem_cons.1 h with h | h
      · cases h
      · show asgL (slotsOf r l) t = _
        exact slotsOf_get h
    | func f =>
      rcases List.mem_cons.1 h with h | h
      · cases h
      · show asgL (slotsOf r l) t = _
        exact slotsOf_get h
theorem execOp_asg {a0 : Act} {l : List Oper} {e : Nat → Value} {o : Oper} (hk : known o.op = true) {us : List (Tmp × Value)} (hu : slotsOf (rho l a0 e) (uses o.op) = us) : execOp (rho l a0 e) o = execOp (asg us) o := by
  refine execOp_congr hk fun x hx => ?_
  cases x with
  | tmp t =>
    show _ = asgL us t
    rw [← hu, slotsOf_get hx]
  | const v => rfl
  | global g => rfl
  | func f => rfl
theorem SpecOk.read {i : Nat} {o : Oper} (us : List (Tmp × Value)) (last : Nat) (hl : i ≠ last) (ho : ops[i]? = some o) (hp : (known o.op && plain ops.toList xs o) = true) (hu : slotsOf (rho ops.toList a0 E) (uses o.op) = us) (hxs : xs i = false)
    (hread : ∀ f w i, i ≠ last → I f w → I (upd f i) w) (refl : ∀ w, Le w w)
    (h : ∀ (f : Nat → Bool) (w : World), I f w → f i = false → (∀ n j, anc ops n j i = true → f j = false) → (∀ n j, anc ops n i j = true → f j = true) → Le w0 w → (execOp (asg us) o).run P w = .ok (.value (E i)) w) : SpecOk P ops a0 w0 I Le E X xs i := by
  rw [Bool.and_eq_true] at hp
  refine SpecOk.of ho hp.1 hp.2 fun f w hI hf hdesc hanc hle K hK => ?_
  rw [execOp_asg hp.1 hu, h f w hI hf hdesc hanc hle]
  exact hK _ _ (refl w) (hread f w i hl hI) (by unfold Val; rw [hxs])
theorem SpecOk.gen {i : Nat} {o : Oper} (us : (Nat → Value) → List (Tmp × Value)) (ho : ops[i]? = some o) (hk : known o.op = true) (hu : ∀ e, slotsOf (rho ops.toList a0 (mixE E xs e)) (uses o.op) = us e)
    (h : ∀ (f : Nat → Bool) (w : World) (e : Nat → Value), I f w → f i = false → (∀ n j, anc ops n j i = true → f j = false) → (∀ n j, anc ops n i j = true → f j = true) → Le w0 w → (∀ j, (deps ops.toList o).contains j = true → xs j = true → X j (e j) w) →
      ∀ K : Value → World → Prop, (∀ v w', Le w w' → I (upd f i) w' → Val E X xs i v w' → K v w') → Runs P ((execOp (asg (us e)) o).run P w) K) : SpecOk P ops a0 w0 I Le E X xs i := by
  intro f w e hI hf hanc hdesc hle hR K hK o' ho'
  obtain rfl : o = o' := Option.some.inj (ho.symm.trans ho')
  have hee : ∀ j ∈ deps ops.toList o, e j = mixE E xs e j := fun j hj => by
    have h1 := hR o ho j hj
    unfold Val at h1
    unfold mixE
    cases hx : xs j with
    | true => rfl
    | false => rw [hx] at h1; exact h1
  rw [execOp_congr hk (rho_same hee), execOp_asg hk (hu e)]
  refine h f w e hI hf hdesc hanc hle (fun j hj hx => ?_) K hK
  have h1 := hR o ho j (by simpa using hj)
  unfold Val at h1
  rw [hx] at h1
  exact h1
theorem pure_sp {l : List Oper} {i : Nat} {o : Oper} (h : sp i = true) : PureOk P l a0 E sp i o := .inl h
theorem pure_yes {l : List Oper} {i : Nat} {o : Oper} (h : wantE E o = true) (hr : ∀ w, (execOp (rho l a0 E) o).run P w = .ok (.value (E i)) w) : PureOk P l a0 E sp i o := .inr (.inl ⟨h, hr⟩)
theorem pure_no {l : List Oper} {i : Nat} {o : Oper} (h : wantE E o = false) (hr : E i = undef) : PureOk P l a0 E sp i o := .inr (.inr ⟨h, hr⟩)
end
end Go.Rel
