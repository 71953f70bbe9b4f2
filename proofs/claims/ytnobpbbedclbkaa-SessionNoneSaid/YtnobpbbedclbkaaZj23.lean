/-
  As RelI, where the word I speaks of the frame too: what an operation without a slot of its own (a store) did, at the address that another operation's slot holds (own law, of whatever program).
-/
import Derived.Test.YtnobpbbedclbkaaZj22
import Derived.Test.YtnobpbbedclbkaaZj1
namespace Go.Rel
open Go Go.RowKit

section
variable {P : Program} {ops : Array Oper} {Q : Exit → Act → World → Prop}

/-- What is to be shown of one operation. -/
def StepAct (P : Program) (ops : Array Oper) (Q : Exit → Act → World → Prop) (a0 : Act) (w0 : World) (I : (Nat → Bool) → Act → World → Prop) (Le : World → World → Prop) (R : Nat → Value → World → Prop) (i : Nat) (o : Oper) : Prop :=
  ∀ (f : Nat → Bool) (a : Act) (w : World), I f a w → f i = false → (∀ n j, anc ops n i j = true → f j = true) → (∀ n j, anc ops n j i = true → f j = false) → Le w0 w → Same ops a0 a → (∀ j t, needs ops o j t = true → ∃ v, a.tmps[t]? = some v ∧ R j v w) →
    ∀ K : Act → World → Prop, (∀ v w', Le w w' → I (upd f i) (a.put o.dst v) w' → R i v w' → K (a.put o.dst v) w') → stepOf P ops Q o K a w

/-- What the steps keep, whatever the walk over the orders (W) is. -/
theorem acts_to {C : Prop} {a0 : Act} {w0 : World} (hord : orderly ops = true) (honce : onceEach ops = true) (hin : inFrame ops a0.tmps.size = true)
    (I : (Nat → Bool) → Act → World → Prop) (Le : World → World → Prop) (trans : ∀ a b c, Le a b → Le b c → Le a c) (drew : Le w0 { w0 with drawn := w0.drawn + 1 }) (start : I (fun _ => false) a0 { w0 with drawn := w0.drawn + 1 })
    (R : Nat → Value → World → Prop) (stable : ∀ i v w w', R i v w → Le w w' → R i v w')
    (hstep : Each (StepAct P ops Q a0 w0 I Le R) 0 ops.toList)
    (hend : ∀ f a w, (∀ i, i < ops.size → f i = true) → I f a w → Le w0 w → Same ops a0 a → (∀ (i : Nat) t, (ops[i]?).map (·.dst) = some (some t) → ∃ v, a.tmps[t]? = some v ∧ R i v w) → Q .normal a w)
    (to : ∀ J : Array Bool → Act → World → Prop, (∀ listed a w i o, listed.size = ops.size → J listed a w → ops[i]? = some o → i ∈ Region.ready .any ops listed → stepOf P ops Q o (J (listed.setIfInBounds i true)) a w) → (∀ listed a w, listed.size = ops.size → J listed a w → Region.ready .any ops listed = [] → Q .normal a w) → J (Array.replicate ops.size false) a0 { w0 with drawn := w0.drawn + 1 } → C) : C := by
  have fin : ∀ (listed : Array Bool) (a : Act) (w : World), Same ops a0 a → (∀ (j : Nat) o t, ops[j]? = some o → o.dst = some t → listed.getD j false = true → R j (a.tmps.getD t undef) w) → ∀ (j : Nat) (t : Tmp), (ops[j]?).map (·.dst) = some (some t) → listed.getD j false = true → ∃ v, a.tmps[t]? = some v ∧ R j v w := by
    intro listed a w hs hR j t hj hl
    cases hoj : ops[j]? with
    | none => rw [hoj] at hj; simp at hj
    | some oj =>
      rw [hoj] at hj
      have ht : oj.dst = some t := by simpa using hj
      exact ⟨_, some_getD hs hin hoj ht, hR j oj t hoj ht hl⟩
  refine to (fun listed a w => (Le w0 w ∧ I (fun k => listed.getD k false) a w ∧ Closed ops (fun k => listed.getD k false)) ∧ Same ops a0 a ∧ ∀ (j : Nat) o t, ops[j]? = some o → o.dst = some t → listed.getD j false = true → R j (a.tmps.getD t undef) w) ?_ ?_ ⟨⟨drew, ?_, ?_⟩, ⟨rfl, rfl, fun _ _ => rfl⟩, fun j o t ho _ hl => ?_⟩
  · rintro listed a w i o hsz ⟨⟨hle, hI, hC⟩, hs, hR⟩ ho hi
    obtain ⟨h0, o', ho', hdep⟩ := mem_ready.1 hi
    obtain rfl : o = o' := Option.some.inj (ho.symm.trans ho')
    have hlt : i < listed.size := by rw [hsz]; exact (Array.getElem?_eq_some_iff.1 ho).1
    have h0' : listed.getD i false = false := by
      rw [Array.getD_eq_getD_getElem?, Array.getElem?_eq_getElem hlt] at h0 ⊢
      exact h0
    have hst := hstep.get i o (by rw [Array.getElem?_toList]; exact ho)
    rw [Nat.zero_add] at hst
    refine hst _ a w hI h0' (fun n j h => anc_of hC n i j o ho (fun e he hb => hdep e he hb) h) (fun n j h => ?_) hle hs (fun j t hn => ?_) _ (fun v w' hw hI' hv => ⟨⟨trans _ _ _ hle hw, ?_, ?_⟩, hs.put ho v, fun j oj t hj ht hl => ?_⟩)
    · cases hj : listed.getD j false with
      | false => rfl
      | true =>
        exfalso
        cases hoj : ops[j]? with
        | none =>
          cases n with
          | zero => cases h
          | succ n => rw [anc, hoj] at h; cases h
        | some oj =>
          have := anc_of hC n j i oj hoj (fun e he hb => hC j oj hj hoj e he hb) h
          rw [h0'] at this
          cases this
    · have hn' := hn
      simp only [needs, Bool.and_eq_true, beq_iff_eq] at hn'
      obtain ⟨hn1, hn2⟩ := hn'
      obtain ⟨e, he, h1⟩ := Array.any_eq_true'.1 hn1
      simp only [Bool.and_eq_true, beq_iff_eq] at h1
      exact fin listed a w hs hR j t hn2 (h1.1 ▸ hdep e he h1.2)
    · rw [upd_getD hlt]; exact hI'
    · rw [upd_getD hlt]
      intro k ok hk hok e he hb
      unfold upd at hk ⊢
      simp only [Bool.or_eq_true, beq_iff_eq] at hk ⊢
      rcases hk with rfl | hk
      · obtain rfl : o = ok := Option.some.inj (ho.symm.trans hok)
        exact .inr (hdep e he hb)
      · exact .inr (hC k ok hk hok e he hb)
    · by_cases hij : i = j
      · subst hij
        obtain rfl : o = oj := Option.some.inj (ho.symm.trans hj)
        have hlt' : t < a.tmps.size := by
          have := Array.all_eq_true_iff_forall_mem.1 hin o (Array.mem_of_getElem? ho)
          rw [ht] at this
          rw [hs.2.1]
          simpa using this
        rw [ht, show (a.put (some t) v).tmps = a.tmps.setIfInBounds t v from rfl]
        simp only [Array.getD_eq_getD_getElem?, Array.getElem?_setIfInBounds_self_of_lt hlt', Option.getD_some]
        exact hv
      · have hold : listed.getD j false = true := by rw [getD_set_ne false hij] at hl; exact hl
        have e : (a.put o.dst v).tmps.getD t undef = a.tmps.getD t undef := by
          cases hd : o.dst with
          | none => rfl
          | some d =>
            have hne : d ≠ t := fun hdt => onceEach_spec honce ho hj hij hd (hdt ▸ ht)
            rw [show (a.put (some d) v).tmps = a.tmps.setIfInBounds d v from rfl]
            simp [Array.getElem?_setIfInBounds_ne hne]
        rw [e]
        exact stable j _ _ _ (hR j oj t hj ht hold) hw
  · rintro listed a w hsz ⟨⟨hle, hI, hC⟩, hs, hR⟩ hr
    have hall := all_listed hord hsz hr
    exact hend _ a w hall hI hle hs fun i t hi => fin listed a w hs hR i t hi (hall i (by
      cases hoi : ops[i]? with
      | none => rw [hoi] at hi; simp at hi
      | some oi => exact (Array.getElem?_eq_some_iff.1 hoi).1))
  · have e : (fun k => (Array.replicate ops.size false).getD k false) = fun _ => false := by
      funext k
      by_cases h : k < ops.size <;> simp [Array.getD_eq_getD_getElem?, h]
    rw [e]; exact start
  · intro i o h
    by_cases hlt : i < ops.size <;> simp [Array.getD_eq_getD_getElem?, hlt] at h
  · have hlt := (Array.getElem?_eq_some_iff.1 ho).1
    simp [Array.getD_eq_getD_getElem?, hlt] at hl
theorem wp_region_acts {id : Nat} {a0 : Act} {w0 : World} (hm : P.follows .mixedOrders = true) (hord : orderly ops = true) (honce : onceEach ops = true) (hin : inFrame ops a0.tmps.size = true)
    (I : (Nat → Bool) → Act → World → Prop) (Le : World → World → Prop) (trans : ∀ a b c, Le a b → Le b c → Le a c) (drew : Le w0 { w0 with drawn := w0.drawn + 1 }) (start : I (fun _ => false) a0 { w0 with drawn := w0.drawn + 1 })
    (R : Nat → Value → World → Prop) (stable : ∀ i v w w', R i v w → Le w w' → R i v w')
    (hstep : Each (StepAct P ops Q a0 w0 I Le R) 0 ops.toList)
    (hend : ∀ f a w, (∀ i, i < ops.size → f i = true) → I f a w → Le w0 w → Same ops a0 a → (∀ (i : Nat) t, (ops[i]?).map (·.dst) = some (some t) → ∃ v, a.tmps[t]? = some v ∧ R i v w) → Q .normal a w) :
    (Code.region id ops true).wp P Q a0 w0 :=
  acts_to hord honce hin I Le trans drew start R stable hstep hend fun J h1 h2 h3 => wp_region_any hm (wpAny_inv J h1 h2 ops.size _ a0 _ (by simp) (by rw [Array.toList_replicate, List.count_replicate_self]; exact Nat.le_refl _) h3)
end
end Go.Rel
/-
  'xs = append(xs, u)' as a region that draws its order, u read off memory that the append leaves alone: what has been done, for wp_region_acts (own law's words, of whatever program). Rows of one-cell elements.
-/
namespace Go.Proofs.Ytnobpbbedclbkaa
open Go.RowKit
set_option linter.unusedSimpArgs false

theorem acc_stepOf_append {P : Program} {ops : Array Oper} {Q : Exit → Act → World → Prop} {o : Oper} {K : Act → World → Prop} {a : Act} {w w' : World} {v vx v' : Value} (s x : Operand) (t : TypeId)
    (ho : o.op = .call { callee := .builtin .append, args := #[s, x], argTypes := #[t, t] }) (hg : o.guard = none) (hs : a.eval s = v) (hx : a.eval x = vx)
    (hr : (Builtin.append_ #[t, t] o.type #[v, vx]).run P w = .ok v' w') (h : K (a.put o.dst v') w') : Go.Rel.stepOf P ops Q o K a w := by
  unfold Go.Rel.stepOf
  rw [if_pos (by simp [Region.wanted, hg])]
  unfold Oper.wp execOp
  simp only [ho, resolve, invoke, builtin, Sem.run_bind, Sem.run_pure, Result.andThen_ok, List.map_toArray, List.map_cons, List.map_nil, hs, hx, hr]
  exact h
theorem acc_put_at {a : Act} {t : Nat} {v u : Value} (h : (a.put (some t) v).tmps[t]? = some u) : u = v := by
  rw [show (a.put (some t) v).tmps = a.tmps.setIfInBounds t v from rfl, Array.getElem?_setIfInBounds_self] at h
  split at h
  · exact (Option.some.inj h).symm
  · cases h
theorem acc_put_off {a : Act} {t s : Nat} {v : Value} (h : t ≠ s) : (a.put (some t) v).tmps[s]? = a.tmps[s]? := by
  rw [show (a.put (some t) v).tmps = a.tmps.setIfInBounds t v from rfl, Array.getElem?_setIfInBounds_ne h]
theorem acc_upd_off {f : Nat → Bool} {j m : Nat} (h : j ≠ m) : Go.Rel.upd f j m = f m := by
  unfold Go.Rel.upd
  have : (m == j) = false := by rw [beq_eq_false_iff_ne]; exact fun e => h e.symm
  rw [this, Bool.false_or]
theorem acc_upd_on {f : Nat → Bool} (j : Nat) : Go.Rel.upd f j j = true := by unfold Go.Rel.upd; simp
/-- Blocks from base on. -/
def UpB (base : Nat) : Nat → Prop := fun k => base ≤ k
theorem But.upB {base : Nat} {w w' : World} (h : Below base w w') : But (UpB base) w w' := ⟨h.os, h.tape, h.output, h.size, fun k _ hn => h.block k (Nat.lt_of_not_le hn)⟩
/-- The operations iB (the element is laid), iA (it is appended), iS (the slot tX gets the row); their slots tB, tA, tX. -/
structure AccJ (E : TypeId) (base iB iA iS tB tA tX : Nat) (v0 : Value) (n : Nat) (xs : List Value) (u : Value) (w0 : World) (f : Nat → Bool) (a : Act) (w : World) : Prop where
  bel : Below base w0 w
  old : f iA = false → w.ownsRow base E 1 v0 n xs
  slot : f iS = false → a.tmps[tX]? = some v0
  built : f iB = true → f iA = false → ∀ v, a.tmps[tB]? = some v → ∃ X, v = .slice (some ⟨X, 0, none⟩) 1 1 ∧ w.heap[X]? = some (.cells #[u] E (0, 0))
  app : f iA = true → ∀ v, a.tmps[tA]? = some v → w.ownsRow base E 1 v (n + 1) (xs ++ [u])
  fin : f iS = true → ∀ v, a.tmps[tX]? = some v → w.ownsRow base E 1 v (n + 1) (xs ++ [u])
section
variable {E : TypeId} {base iB iA iS tB tA tX : Nat} {v0 : Value} {n : Nat} {xs : List Value} {u : Value} {w0 : World} {f : Nat → Bool} {a : Act} {w : World}
theorem AccJ.start (h : w0.ownsRow base E 1 v0 n xs) (ha : a.tmps[tX]? = some v0) : AccJ E base iB iA iS tB tA tX v0 n xs u w0 (fun _ => false) a { w0 with drawn := w0.drawn + 1 } :=
  ⟨⟨rfl, rfl, rfl, Nat.le_refl _, fun _ _ => rfl⟩, fun _ => h, fun _ => ha, (fun h => by cases h), (fun h => by cases h), (fun h => by cases h)⟩
theorem AccJ.keep (h : AccJ E base iB iA iS tB tA tX v0 n xs u w0 f a w) {j t : Nat} (hj : j ≠ iB ∧ j ≠ iA ∧ j ≠ iS) (ht : t ≠ tB ∧ t ≠ tA ∧ t ≠ tX) (v : Value) : AccJ E base iB iA iS tB tA tX v0 n xs u w0 (Go.Rel.upd f j) (a.put (some t) v) w := by
  obtain ⟨j1, j2, j3⟩ := hj
  obtain ⟨t1, t2, t3⟩ := ht
  refine ⟨h.bel, ?_, ?_, ?_, ?_, ?_⟩
  · rw [acc_upd_off j2]; exact h.old
  · rw [acc_upd_off j3, acc_put_off t3]; exact h.slot
  · rw [acc_upd_off j1, acc_upd_off j2, acc_put_off t1]; exact h.built
  · rw [acc_upd_off j2, acc_put_off t2]; exact h.app
  · rw [acc_upd_off j3, acc_put_off t3]; exact h.fin
/-- The element is laid. -/
theorem AccJ.lay (h : AccJ E base iB iA iS tB tA tX v0 n xs u w0 f a w) (hbase : base ≤ w0.heap.size) (h1 : iB ≠ iA ∧ iB ≠ iS ∧ tB ≠ tA ∧ tB ≠ tX) (zA : f iA = false) (zS : f iS = false) :
    AccJ E base iB iA iS tB tA tX v0 n xs u w0 (Go.Rel.upd f iB) (a.put (some tB) (.slice (some ⟨w.heap.size, 0, none⟩) 1 1)) (w.alloc (.cells #[u] E)) := by
  obtain ⟨i1, i2, t1, t2⟩ := h1
  refine ⟨h.bel.alloc (Nat.le_trans hbase h.bel.size) _, fun _ => (h.old zA).alloc _, ?_, fun _ _ v hv => ⟨w.heap.size, acc_put_at hv, heap_alloc_new w _⟩, ?_, ?_⟩
  · rw [acc_upd_off i2, acc_put_off t2]; exact h.slot
  · rw [acc_upd_off i1, zA]; exact fun h => by cases h
  · rw [acc_upd_off i2, zS]; exact fun h => by cases h
/-- It is appended. -/
theorem AccJ.append {P : Program} (h : AccJ E base iB iA iS tB tA tX v0 n xs u w0 f a w) (hbase : base ≤ w0.heap.size) (h1 : iA ≠ iS ∧ tA ≠ tX) (zB : f iB = true) (zA : f iA = false) (zS : f iS = false) (T : TypeId) (ty : TypeId) (i : TypeInfo) (z : Value) (bytes : Nat) (ht : P.underlying T = some (.slice E)) (hi : P.info? E = some i) (hz : i.zero = some z) (hsize : i.size = 1) (hby : i.bytes = bytes) (hzs : z.cells.size = 1)
    (hone : u.oneCell' = true) (h63 : n + 1 ≤ maxLen) (hbytes : (n + 1) * bytes ≤ 140737488355328) {vx : Value} (hx : a.tmps[tB]? = some vx) :
    ∃ v' w', (Builtin.append_ #[T, T] ty #[v0, vx]).run P w = .ok v' w' ∧ But (UpB base) w w' ∧ AccJ E base iB iA iS tB tA tX v0 n xs u w0 (Go.Rel.upd f iA) (a.put (some tA) v') w' := by
  obtain ⟨i1, t1⟩ := h1
  obtain ⟨X, rfl, hX⟩ := h.built zB zA vx hx
  have hown := h.old zA
  have hb := Nat.le_trans hbase h.bel.size
  obtain ⟨v', w', hrun, ho, hg, _⟩ := run_append_own (P := P) w base T ty E i z 1 bytes ht hi hz hsize hby hzs (by decide) v0 n xs hown ⟨X, 0, none⟩ 1 1 [u] rfl (fun j u' hu => by
    have hj : j = 0 := by
      have := (List.getElem?_eq_some_iff.1 hu).1
      simpa using this
    subst hj
    simp only [List.getElem?_cons_zero, Option.some.injEq] at hu
    subst hu
    rw [plain_add, cell_of_row _ _ _ _ _ _ hX]
    rfl) (fun u' hu => by
      obtain rfl := List.mem_singleton.1 hu
      exact hone) h63 hbytes hb
  have hb' : Below base w w' := (Below.refl _ _).grown hg hb (fun j hj => (hown.lt j hj).1)
  refine ⟨v', w', hrun, But.upB hb', h.bel.trans hb', ?_, ?_, ?_, ?_, ?_⟩
  · rw [acc_upd_on]; exact fun h => by cases h
  · rw [acc_upd_off i1, acc_put_off t1]; exact h.slot
  · rw [acc_upd_on]; exact fun _ h => by cases h
  · intro _ v hv
    rw [acc_put_at hv]
    exact ho
  · rw [acc_upd_off i1, zS]; exact fun h => by cases h
/-- The slot gets the row. -/
theorem AccJ.set (h : AccJ E base iB iA iS tB tA tX v0 n xs u w0 f a w) (h1 : iA ≠ iS ∧ tA ≠ tX) (h2 : iB ≠ iS ∧ tB ≠ tX) (zA : f iA = true) {v : Value} (hv : a.tmps[tA]? = some v) : AccJ E base iB iA iS tB tA tX v0 n xs u w0 (Go.Rel.upd f iS) (a.put (some tX) v) w := by
  have ho := h.app zA v hv
  refine ⟨h.bel, ?_, ?_, ?_, ?_, ?_⟩
  · rw [acc_upd_off (Ne.symm h1.1), zA]; exact fun h => by cases h
  · rw [acc_upd_on]; exact fun h => by cases h
  · rw [acc_upd_off (Ne.symm h2.1), acc_upd_off (Ne.symm h1.1), zA]; exact fun _ h => by cases h
  · intro _ v2 hv2
    rw [acc_put_off (Ne.symm h1.2), hv] at hv2
    rw [← Option.some.inj hv2]
    exact ho
  · intro _ v2 hv2
    rw [acc_put_at hv2]
    exact ho
end
end Go.Proofs.Ytnobpbbedclbkaa
