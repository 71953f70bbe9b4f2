import Derived.Test.YtaicipldjmngaaaGreatDoorZj2
import Derived.Test.YtaicipldjmngaaaGreatDoorZj1
import Derived.Test.YtaicipldjmngaaaGreatDoorZj21
import Derived.Maps.AppendAt
namespace Go.Rel
open Go Go.RowKit
section
variable {P : Program} {ops : Array Oper} {Q : Exit → Act → World → Prop}
def StepAct (P : Program) (ops : Array Oper) (Q : Exit → Act → World → Prop) (a0 : Act) (w0 : World) (I : (Nat → Bool) → Act → World → Prop) (Le : World → World → Prop) (R : Nat → Value → World → Prop) (i : Nat) (o : Oper) : Prop :=
  ∀ (f : Nat → Bool) (a : Act) (w : World), I f a w → f i = false → (∀ n j, anc ops n i j = true → f j = true) → (∀ n j, anc ops n j i = true → f j = false) → Le w0 w → Same ops a0 a → (∀ j t, needs ops o j t = true → ∃ v, a.tmps[t]? = some v ∧ R j v w) →
    ∀ K : Act → World → Prop, (∀ v w', Le w w' → I (upd f i) (a.put o.dst v) w' → R i v w' → K (a.put o.dst v) w') → stepOf P ops Q o K a w
theorem wp_region_acts {id : Nat} {a0 : Act} {w0 : World} (hm : P.follows .mixedOrders = true) (hord : orderly ops = true) (honce : onceEach ops = true) (hin : inFrame ops a0.tmps.size = true)
    (I : (Nat → Bool) → Act → World → Prop) (Le : World → World → Prop) (trans : ∀ a b c, Le a b → Le b c → Le a c) (drew : Le w0 { w0 with drawn := w0.drawn + 1 }) (start : I (fun _ => false) a0 { w0 with drawn := w0.drawn + 1 })
    (R : Nat → Value → World → Prop) (stable : ∀ i v w w', R i v w → Le w w' → R i v w')
    (hstep : Each (StepAct P ops Q a0 w0 I Le R) 0 ops.toList)
    (hend : ∀ f a w, (∀ i, i < ops.size → f i = true) → I f a w → Le w0 w → Same ops a0 a → (∀ (i : Nat) t, (ops[i]?).map (·.dst) = some (some t) → ∃ v, a.tmps[t]? = some v ∧ R i v w) → Q .normal a w) :
    (Code.region id ops true).wp P Q a0 w0 := by
  have fin : ∀ (listed : Array Bool) (a : Act) (w : World), Same ops a0 a → (∀ (j : Nat) o t, ops[j]? = some o → o.dst = some t → listed.getD j false = true → R j (a.tmps.getD t undef) w) → ∀ (j : Nat) (t : Tmp), (ops[j]?).map (·.dst) = some (some t) → listed.getD j false = true → ∃ v, a.tmps[t]? = some v ∧ R j v w := by
    intro listed a w hs hR j t hj hl
    cases hoj : ops[j]? with
    | none => rw [hoj] at hj; simp at hj
    | some oj =>
      rw [hoj] at hj
      have ht : oj.dst = some t := by simpa using hj
      exact ⟨_, some_getD hs hin hoj ht, hR j oj t hoj ht hl⟩
  refine wp_region_any hm (wpAny_inv (fun listed a w => (Le w0 w ∧ I (fun k => listed.getD k false) a w ∧ Closed ops (fun k => listed.getD k false)) ∧ Same ops a0 a ∧ ∀ (j : Nat) o t, ops[j]? = some o → o.dst = some t → listed.getD j false = true → R j (a.tmps.getD t undef) w) ?_ ?_ ops.size _ a0 _ (by simp) ?_ ⟨⟨drew, ?_, ?_⟩, ⟨rfl, rfl, fun _ _ => rfl⟩, fun j o t ho _ hl => ?_⟩)
  · rintro listed a w i o hsz ⟨⟨hle, hI, hC⟩, hs, hR⟩ ho hi
    obtain ⟨h0, o', ho', hdep⟩ := mem_ready.1 hi
    obtain rfl : o = o' := Option.some.inj (ho.symm.trans ho')
    have hlt : i < listed.size := by rw [hsz]; exact (Array.getElem?_eq_some_iff.1 ho).1
    have h0' : listed.getD i false = false := by
      rw [Array.getD_eq_getD_getElem?, Array.getElem?_eq_getElem hlt] at h0 ⊢
      exact h0
    have hst := hstep.get i o (by rw [Array.getElem?_toList]; exact ho)
    rw [Nat.zero_add] at hst
    refine hst _ a w hI h0' (fun n j h => anc_of hC n i j o ho (fun e he hb => hdep e he hb) h) (fun n j h => ?_) hle hs (fun j t hn => ?_) _ (fun v w' hw hI' hv => ⟨⟨trans _ _ _ hle hw, ?_, ?_⟩, hs.put ho v, fun j oj t hj ht hl => ?_⟩)
    · cases hj : listed.getD j false with
      | false => rfl
      | true =>
        exfalso
        cases hoj : ops[j]? with
        | none =>
          cases n with
          | zero => cases h
          | succ n => rw [anc, hoj] at h; cases h
        | some oj =>
          have := anc_of hC n j i oj hoj (fun e he hb => hC j oj hj hoj e he hb) h
          rw [h0'] at this
          cases this
    · have hn' := hn
      simp only [needs, Bool.and_eq_true, beq_iff_eq] at hn'
      obtain ⟨hn1, hn2⟩ := hn'
      obtain ⟨e, he, h1⟩ := Array.any_eq_true'.1 hn1
      simp only [Bool.and_eq_true, beq_iff_eq] at h1
      exact fin listed a w hs hR j t hn2 (h1.1 ▸ hdep e he h1.2)
    · rw [upd_getD hlt]; exact hI'
    · rw [upd_getD hlt]
      intro k ok hk hok e he hb
      unfold upd at hk ⊢
      simp only [Bool.or_eq_true, beq_iff_eq] at hk ⊢
      rcases hk with rfl | hk
      · obtain rfl : o = ok := Option.some.inj (ho.symm.trans hok)
        exact .inr (hdep e he hb)
      · exact .inr (hC k ok hk hok e he hb)
    · by_cases hij : i = j
      · subst hij
        obtain rfl : o = oj := Option.some.inj (ho.symm.trans hj)
        have hlt' : t < a.tmps.size := by
          have := Array.all_eq_true_iff_forall_mem.1 hin o (Array.mem_of_getElem? ho)
          rw [ht] at this
          rw [hs.2.1]
          simpa using this
        rw [ht, show (a.put (some t) v).tmps = a.tmps.setIfInBounds t v from rfl]
        simp only [Array.getD_eq_getD_getElem?, Array.getElem?_setIfInBounds_self_of_lt hlt', Option.getD_some]
        exact hv
      · have hold : listed.getD j false = true := by rw [getD_set_ne false hij] at hl; exact hl
        have e : (a.put o.dst v).tmps.getD t undef = a.tmps.getD t undef := by
          cases hd : o.dst with
          | none => rfl
          | some d =>
            have hne : d ≠ t := fun hdt => onceEach_spec honce ho hj hij hd (hdt ▸ ht)
            rw [show (a.put (some d) v).tmps = a.tmps.setIfInBounds d v from rfl]
            simp [Array.getElem?_setIfInBounds_ne hne]
        rw [e]
        exact stable j _ _ _ (hR j oj t hj ht hold) hw
  · rintro listed a w hsz ⟨⟨hle, hI, hC⟩, hs, hR⟩ hr
    have hall := all_listed hord hsz hr
    exact hend _ a w hall hI hle hs fun i t hi => fin listed a w hs hR i t hi (hall i (by
      cases hoi : ops[i]? with
      | none => rw [hoi] at hi; simp at hi
      | some oi => exact (Array.getElem?_eq_some_iff.1 hoi).1))
  · rw [Array.toList_replicate, List.count_replicate_self]; exact Nat.le_refl _
  · have e : (fun k => (Array.replicate ops.size false).getD k false) = fun _ => false := by
      funext k
      by_cases h : k < ops.size <;> simp [Array.getD_eq_getD_getElem?, h]
    rw [e]; exact start
  · intro i o h
    by_cases hlt : i < ops.size <;> simp [Array.getD_eq_getD_getElem?, hlt] at h
  · have hlt := (Array.getElem?_eq_some_iff.1 ho).1
    simp [Array.getD_eq_getD_getElem?, hlt] at hl
end
end Go.Rel

namespace Go.Proofs.YtaicipldjmngaaaGreatDoor
open Go.RowKit
set_option linter.unusedSimpArgs false
theorem acc_stepOf_append {P : Program} {ops : Array Oper} {Q : Exit → Act → World → Prop} {o : Oper} {K : Act → World → Prop} {a : Act} {w w' : World} {v vx v' : Value} (s x : Operand) (t : TypeId)
    (ho : o.op = .call { callee := .builtin .append, args := #[s, x], argTypes := #[t, t] }) (hg : o.guard = none) (hs : a.eval s = v) (hx : a.eval x = vx)
    (hr : (Builtin.append_ #[t, t] o.type #[v, vx]).run P w = .ok v' w') (h : K (a.put o.dst v') w') : Go.Rel.stepOf P ops Q o K a w := by
  unfold Go.Rel.stepOf
  rw [if_pos (by simp [Region.wanted, hg])]
  unfold Oper.wp execOp
  simp only [ho, resolve, invoke, builtin, Sem.run_bind, Sem.run_pure, Result.andThen_ok, List.map_toArray, List.map_cons, List.map_nil, hs, hx, hr]
  exact h
theorem acc_put_at {a : Act} {t : Nat} {v u : Value} (h : (a.put (some t) v).tmps[t]? = some u) : u = v := by
  rw [show (a.put (some t) v).tmps = a.tmps.setIfInBounds t v from rfl, Array.getElem?_setIfInBounds_self] at h
  split at h
  · exact (Option.some.inj h).symm
  · cases h
theorem acc_put_off {a : Act} {t s : Nat} {v : Value} (h : t ≠ s) : (a.put (some t) v).tmps[s]? = a.tmps[s]? := by
  rw [show (a.put (some t) v).tmps = a.tmps.setIfInBounds t v from rfl, Array.getElem?_setIfInBounds_ne h]
theorem acc_upd_off {f : Nat → Bool} {j m : Nat} (h : j ≠ m) : Go.Rel.upd f j m = f m := by
  unfold Go.Rel.upd
  have : (m == j) = false := by rw [beq_eq_false_iff_ne]; exact fun e => h e.symm
  rw [this, Bool.false_or]
theorem acc_upd_on {f : Nat → Bool} (j : Nat) : Go.Rel.upd f j j = true := by unfold Go.Rel.upd; simp
def UpB (base : Nat) : Nat → Prop := fun k => base ≤ k
theorem But.upB {base : Nat} {w w' : World} (h : Below base w w') : But (UpB base) w w' := ⟨h.os, h.tape, h.output, h.size, fun k _ hn => h.block k (Nat.lt_of_not_le hn)⟩
structure AccJ (E : TypeId) (base iB iA iS tB tA tX : Nat) (v0 : Value) (n : Nat) (xs : List Value) (u : Value) (w0 : World) (f : Nat → Bool) (a : Act) (w : World) : Prop where
  bel : Below base w0 w
  old : f iA = false → w.ownsRow base E 1 v0 n xs
  slot : f iS = false → a.tmps[tX]? = some v0
  built : f iB = true → f iA = false → ∀ v, a.tmps[tB]? = some v → ∃ X, v = .slice (some ⟨X, 0, none⟩) 1 1 ∧ w.heap[X]? = some (.cells #[u] E (0, 0))
  app : f iA = true → ∀ v, a.tmps[tA]? = some v → w.ownsRow base E 1 v (n + 1) (xs ++ [u])
  fin : f iS = true → ∀ v, a.tmps[tX]? = some v → w.ownsRow base E 1 v (n + 1) (xs ++ [u])
section
variable {E : TypeId} {base iB iA iS tB tA tX : Nat} {v0 : Value} {n : Nat} {xs : List Value} {u : Value} {w0 : World} {f : Nat → Bool} {a : Act} {w : World}
theorem AccJ.start (h : w0.ownsRow base E 1 v0 n xs) (ha : a.tmps[tX]? = some v0) : AccJ E base iB iA iS tB tA tX v0 n xs u w0 (fun _ => false) a { w0 with drawn := w0.drawn + 1 } :=
  ⟨⟨rfl, rfl, rfl, Nat.le_refl _, fun _ _ => rfl⟩, fun _ => h, fun _ => ha, (fun h => by cases h), (fun h => by cases h), (fun h => by cases h)⟩
theorem AccJ.keep (h : AccJ E base iB iA iS tB tA tX v0 n xs u w0 f a w) {j t : Nat} (hj : j ≠ iB ∧ j ≠ iA ∧ j ≠ iS) (ht : t ≠ tB ∧ t ≠ tA ∧ t ≠ tX) (v : Value) : AccJ E base iB iA iS tB tA tX v0 n xs u w0 (Go.Rel.upd f j) (a.put (some t) v) w := by
  obtain ⟨j1, j2, j3⟩ := hj
  obtain ⟨t1, t2, t3⟩ := ht
  refine ⟨h.bel, ?_, ?_, ?_, ?_, ?_⟩
  · rw [acc_upd_off j2]; exact h.old
  · rw [acc_upd_off j3, acc_put_off t3]; exact h.slot
  · rw [acc_upd_off j1, acc_upd_off j2, acc_put_off t1]; exact h.built
  · rw [acc_upd_off j2, acc_put_off t2]; exact h.app
  · rw [acc_upd_off j3, acc_put_off t3]; exact h.fin
theorem AccJ.lay (h : AccJ E base iB iA iS tB tA tX v0 n xs u w0 f a w) (hbase : base ≤ w0.heap.size) (h1 : iB ≠ iA ∧ iB ≠ iS ∧ tB ≠ tA ∧ tB ≠ tX) (zA : f iA = false) (zS : f iS = false) :
    AccJ E base iB iA iS tB tA tX v0 n xs u w0 (Go.Rel.upd f iB) (a.put (some tB) (.slice (some ⟨w.heap.size, 0, none⟩) 1 1)) (w.alloc (.cells #[u] E)) := by
  obtain ⟨i1, i2, t1, t2⟩ := h1
  refine ⟨h.bel.alloc (Nat.le_trans hbase h.bel.size) _, fun _ => (h.old zA).alloc _, ?_, fun _ _ v hv => ⟨w.heap.size, acc_put_at hv, heap_alloc_new w _⟩, ?_, ?_⟩
  · rw [acc_upd_off i2, acc_put_off t2]; exact h.slot
  · rw [acc_upd_off i1, zA]; exact fun h => by cases h
  · rw [acc_upd_off i2, zS]; exact fun h => by cases h
theorem AccJ.append {P : Program} (h : AccJ E base iB iA iS tB tA tX v0 n xs u w0 f a w) (hbase : base ≤ w0.heap.size) (h1 : iA ≠ iS ∧ tA ≠ tX) (zB : f iB = true) (zA : f iA = false) (zS : f iS = false) (T : TypeId) (ty : TypeId) (i : TypeInfo) (z : Value) (bytes : Nat) (ht : P.underlying T = some (.slice E)) (hi : P.info? E = some i) (hz : i.zero = some z) (hsize : i.size = 1) (hby : i.bytes = bytes) (hzs : z.cells.size = 1)
    (hone : u.oneCell' = true) (h63 : n + 1 ≤ maxLen) (hbytes : (n + 1) * bytes ≤ 140737488355328) {vx : Value} (hx : a.tmps[tB]? = some vx) :
    ∃ v' w', (Builtin.append_ #[T, T] ty #[v0, vx]).run P w = .ok v' w' ∧ But (UpB base) w w' ∧ AccJ E base iB iA iS tB tA tX v0 n xs u w0 (Go.Rel.upd f iA) (a.put (some tA) v') w' := by
  obtain ⟨i1, t1⟩ := h1
  obtain ⟨X, rfl, hX⟩ := h.built zB zA vx hx
  have hown := h.old zA
  have hb := Nat.le_trans hbase h.bel.size
  obtain ⟨v', w', hrun, ho, hg, _⟩ := run_append_own (P := P) w base T ty E i z 1 bytes ht hi hz hsize hby hzs (by decide) v0 n xs hown ⟨X, 0, none⟩ 1 1 [u] rfl (fun j u' hu => by
    have hj : j = 0 := by
      have := (List.getElem?_eq_some_iff.1 hu).1
      simpa using this
    subst hj
    simp only [List.getElem?_cons_zero, Option.some.injEq] at hu
    subst hu
    rw [plain_add, cell_of_row _ _ _ _ _ _ hX]
    rfl) (fun u' hu => by
      obtain rfl := List.mem_singleton.1 hu
      exact hone) h63 hbytes hb
  have hb' : Below base w w' := (Below.refl _ _).grown hg hb (fun j hj => (hown.lt j hj).1)
  refine ⟨v', w', hrun, But.upB hb', h.bel.trans hb', ?_, ?_, ?_, ?_, ?_⟩
  · rw [acc_upd_on]; exact fun h => by cases h
  · rw [acc_upd_off i1, acc_put_off t1]; exact h.slot
  · rw [acc_upd_on]; exact fun _ h => by cases h
  · intro _ v hv
    rw [acc_put_at hv]
    exact ho
  · rw [acc_upd_off i1, zS]; exact fun h => by cases h
theorem AccJ.set (h : AccJ E base iB iA iS tB tA tX v0 n xs u w0 f a w) (h1 : iA ≠ iS ∧ tA ≠ tX) (h2 : iB ≠ iS ∧ tB ≠ tX) (zA : f iA = true) {v : Value} (hv : a.tmps[tA]? = some v) : AccJ E base iB iA iS tB tA tX v0 n xs u w0 (Go.Rel.upd f iS) (a.put (some tX) v) w := by
  have ho := h.app zA v hv
  refine ⟨h.bel, ?_, ?_, ?_, ?_, ?_⟩
  · rw [acc_upd_off (Ne.symm h1.1), zA]; exact fun h => by cases h
  · rw [acc_upd_on]; exact fun h => by cases h
  · rw [acc_upd_off (Ne.symm h2.1), acc_upd_off (Ne.symm h1.1), zA]; exact fun _ h => by cases h
  · intro _ v2 hv2
    rw [acc_put_off (Ne.symm h1.2), hv] at hv2
    rw [← Option.some.inj hv2]
    exact ho
  · intro _ v2 hv2
    rw [acc_put_at hv2]
    exact ho
end
end Go.Proofs.YtaicipldjmngaaaGreatDoor

namespace Go.Proofs.YtaicipldjmngaaaGreatDoor
open Go.RowKit
set_option linter.unusedSimpArgs false
set_option linter.unusedVariables false
structure TI (n : Nat) (w0 : World) (P : World → Prop) (f : Nat → Bool) (w : World) : Prop where
  ahead : f n = false → Below w0.heap.size w0 w
  done_ : f n = true → P w
def OldB (w0 : World) : Nat → Prop := fun k => k < w0.heap.size
section
variable {n : Nat} {w0 w w' : World} {P : World → Prop} {f : Nat → Bool}
theorem TI.start : TI n w0 P (fun _ => false) { w0 with drawn := w0.drawn + 1 } := ⟨fun _ => ⟨rfl, rfl, rfl, Nat.le_refl _, fun _ _ => rfl⟩, (fun h => by cases h)⟩
theorem TI.read (h : TI n w0 P f w) {j : Nat} (hj : j ≠ n) : TI n w0 P (Go.Rel.upd f j) w := ⟨by rw [acc_upd_off hj]; exact h.ahead, by rw [acc_upd_off hj]; exact h.done_⟩
theorem TI.below (h : TI n w0 P f w) (zn : f n = false) (hb : Below w.heap.size w w') {j : Nat} (hj : j ≠ n) : TI n w0 P (Go.Rel.upd f j) w' :=
  ⟨fun _ => (h.ahead zn).trans (hb.mono (h.ahead zn).size), (fun e => by rw [acc_upd_off hj, zn] at e; cases e)⟩
theorem TI.last (h : P w') : TI n w0 P (Go.Rel.upd f n) w' := ⟨(fun e => by rw [acc_upd_on] at e; cases e), fun _ => h⟩
theorem OldB.of_below (h : Below w0.heap.size w0 w) (hb : Below w.heap.size w w') : But (OldB w0) w w' := But.of_below hb
theorem OldB.drew : But (OldB w0) w0 { w0 with drawn := w0.drawn + 1 } := (But.refl _ _).drew
end
theorem own_old {w0 w w' : World} {e : TypeId} {sz m : Nat} {v : Value} {xs : List Value} (h : w.ownsRow w0.heap.size e sz v m xs) (g : But (OldB w0) w w') : w'.ownsRow w0.heap.size e sz v m xs :=
  own_but h g (fun j hj hs => by
    rcases h.2 with ⟨rfl, _⟩ | ⟨b, _, _, rfl, hb, _⟩
    · cases hj
    · cases hj; exact absurd hs (Nat.not_lt.2 hb))
theorem But.oldB {w0 w w' : World} {T : Nat → Prop} (h : But T w w') (hT : ∀ k, T k → k < w0.heap.size) : But (OldB w0) w w' := h.mono hT
structure TI2 (r n : Nat) (w0 : World) (A P : World → Prop) (f : Nat → Bool) (w : World) : Prop where
  ahead : f r = false → Below w0.heap.size w0 w
  mid : f r = true → f n = false → A w
  done_ : f n = true → P w
section
variable {r n : Nat} {w0 w w' : World} {A P : World → Prop} {f : Nat → Bool}
theorem TI2.start : TI2 r n w0 A P (fun _ => false) { w0 with drawn := w0.drawn + 1 } := ⟨fun _ => ⟨rfl, rfl, rfl, Nat.le_refl _, fun _ _ => rfl⟩, (fun h => by cases h), (fun h => by cases h)⟩
theorem TI2.read (h : TI2 r n w0 A P f w) {j : Nat} (hj : j ≠ r ∧ j ≠ n) : TI2 r n w0 A P (Go.Rel.upd f j) w := ⟨by rw [acc_upd_off hj.1]; exact h.ahead, by rw [acc_upd_off hj.1, acc_upd_off hj.2]; exact h.mid, by rw [acc_upd_off hj.2]; exact h.done_⟩
theorem TI2.below (h : TI2 r n w0 A P f w) (zn : f n = false) (hb : Below w.heap.size w w') (hA : ∀ w w', A w → Below w.heap.size w w' → A w') {j : Nat} (hj : j ≠ r ∧ j ≠ n) : TI2 r n w0 A P (Go.Rel.upd f j) w' :=
  ⟨fun z => by rw [acc_upd_off hj.1] at z; exact (h.ahead z).trans (hb.mono (h.ahead z).size), fun z _ => by rw [acc_upd_off hj.1] at z; exact hA _ _ (h.mid z zn) hb, (fun e => by rw [acc_upd_off hj.2, zn] at e; cases e)⟩
theorem TI2.first (h : TI2 r n w0 A P f w) (zn : f n = false) (hne : r ≠ n) (hA : A w') : TI2 r n w0 A P (Go.Rel.upd f r) w' :=
  ⟨(fun e => by rw [acc_upd_on] at e; cases e), fun _ _ => hA, (fun e => by rw [acc_upd_off hne, zn] at e; cases e)⟩
theorem TI2.last (zr : f r = true) (hne : r ≠ n) (h : P w') : TI2 r n w0 A P (Go.Rel.upd f n) w' :=
  ⟨(fun e => by rw [acc_upd_off (Ne.symm hne), zr] at e; cases e), (fun _ e => by rw [acc_upd_on] at e; cases e), fun _ => h⟩
theorem TI2.but {S : Nat → Prop} (h : TI2 r n w0 A P f w) (zn : f n = false) (hA : ∀ w, A w → But S w0 w) : But S w0 w := by
  cases z : f r with
  | false => exact But.of_below (h.ahead z)
  | true => exact hA _ (h.mid z zn)
end
structure ApF {α : Type} (enc : α → List Value) (E : TypeId) (k B off iB iA iS tB tA : Nat) (v0 : Value) (L : List α) (y : α) (w0 : World) (f : Nat → Bool) (a : Act) (w : World) : Prop where
  pre : f iA = false → Below w0.heap.size w0 w
  but : But (fun j => v0.ownBlock = some j ∨ j = B) w0 w
  blk : f iS = false → w.heap[B]? = w0.heap[B]?
  built : f iB = true → f iA = false → ∀ v, a.tmps[tB]? = some v → ∃ X, v = .slice (some ⟨X, 0, none⟩) 1 1 ∧ ItAt enc w X 0 y
  app : f iA = true → ∀ v, a.tmps[tA]? = some v → rowK enc E k w 0 v (L ++ [y]) ∧ (v.ownBlock = v0.ownBlock ∨ ∃ b, v.ownBlock = some b ∧ w0.heap.size ≤ b)
  fin : f iS = true → ∃ v, rowK enc E k w 0 v (L ++ [y]) ∧ (v.ownBlock = v0.ownBlock ∨ ∃ b, v.ownBlock = some b ∧ w0.heap.size ≤ b) ∧ ∀ cs t fr, w0.heap[B]? = some (.cells cs t fr) → w.heap[B]? = some (.cells (cs.setIfInBounds off v) t fr)
section
variable {α : Type} {enc : α → List Value} {E : TypeId} {k B off iB iA iS tB tA : Nat} {v0 : Value} {L : List α} {y : α} {w0 : World} {f : Nat → Bool} {a : Act} {w : World}
theorem ApF.start : ApF enc E k B off iB iA iS tB tA v0 L y w0 (fun _ => false) a { w0 with drawn := w0.drawn + 1 } :=
  ⟨fun _ => ⟨rfl, rfl, rfl, Nat.le_refl _, fun _ _ => rfl⟩, (But.refl _ _).drew, fun _ => rfl, (fun h => by cases h), (fun h => by cases h), (fun h => by cases h)⟩
theorem ApF.keep (h : ApF enc E k B off iB iA iS tB tA v0 L y w0 f a w) {j t : Nat} (hj : j ≠ iB ∧ j ≠ iA ∧ j ≠ iS) (ht : t ≠ tB ∧ t ≠ tA) (v : Value) : ApF enc E k B off iB iA iS tB tA v0 L y w0 (Go.Rel.upd f j) (a.put (some t) v) w := by
  obtain ⟨j1, j2, j3⟩ := hj
  obtain ⟨t1, t2⟩ := ht
  refine ⟨?_, h.but, ?_, ?_, ?_, ?_⟩
  · rw [acc_upd_off j2]; exact h.pre
  · rw [acc_upd_off j3]; exact h.blk
  · rw [acc_upd_off j1, acc_upd_off j2, acc_put_off t1]; exact h.built
  · rw [acc_upd_off j2, acc_put_off t2]; exact h.app
  · rw [acc_upd_off j3]; exact h.fin
theorem ApF.lay (h : ApF enc E k B off iB iA iS tB tA v0 L y w0 f a w) (h1 : iB ≠ iA ∧ iB ≠ iS ∧ tB ≠ tA) (zA : f iA = false) (zS : f iS = false) (hB : B < w0.heap.size) (cs : Array Value) (hcs : cs.toList = enc y) (T : TypeId) :
    ApF enc E k B off iB iA iS tB tA v0 L y w0 (Go.Rel.upd f iB) (a.put (some tB) (.slice (some ⟨w.heap.size, 0, none⟩) 1 1)) (w.alloc (.cells cs T)) := by
  obtain ⟨i1, i2, t1⟩ := h1
  have hp := h.pre zA
  refine ⟨fun _ => hp.alloc hp.size _, h.but.alloc _, ?_, fun _ _ v hv => ⟨w.heap.size, acc_put_at hv, ItAt.of_new y cs hcs T⟩, ?_, ?_⟩
  · intro _
    rw [heap_alloc_old _ _ (Nat.lt_of_lt_of_le hB hp.size)]
    exact h.blk zS
  · rw [acc_upd_off i1, zA]; exact fun h => by cases h
  · rw [acc_upd_off i2, zS]; exact fun h => by cases h
theorem ApF.append {P : Program} (h : ApF enc E k B off iB iA iS tB tA v0 L y w0 f a w) (h1 : iA ≠ iS ∧ iB ≠ iA) (zB : f iB = true) (zA : f iA = false) (zS : f iS = false) (hown : rowK enc E k w0 0 v0 L) (hne : v0.ownBlock ≠ some B) (hB : B < w0.heap.size)
    (T ty : TypeId) (i : TypeInfo) (z : Value) (bytes : Nat) (ht : P.underlying T = some (.slice E)) (hi : P.info? E = some i) (hz : i.zero = some z) (hsize : i.size = k) (hby : i.bytes = bytes) (hzs : z.cells.size = k) (hk0 : 0 < k)
    (hk : ∀ x, (enc x).length = k) (h1' : ∀ x, ∀ u ∈ enc x, u.oneCell' = true) (h63 : L.length + 1 ≤ maxLen) (hbytes : (L.length + 1) * bytes ≤ 140737488355328) {vx : Value} (hx : a.tmps[tB]? = some vx) :
    ∃ v' w', (Builtin.append_ #[T, T] ty #[v0, vx]).run P w = .ok v' w' ∧ But (fun j => v0.ownBlock = some j ∨ j = B) w w' ∧ ApF enc E k B off iB iA iS tB tA v0 L y w0 (Go.Rel.upd f iA) (a.put (some tA) v') w' := by
  obtain ⟨i1, i2⟩ := h1
  obtain ⟨X, rfl, hX⟩ := h.built zB zA vx hx
  have hp := h.pre zA
  have ho : rowK enc E k w 0 v0 L := bown_keep hown hp
  obtain ⟨v', w', hrun, ho', hg, _, hloc⟩ := run_append_own_at (P := P) w 0 T ty E i z k bytes ht hi hz hsize hby hzs hk0 v0 L.length (L.flatMap enc) ho ⟨X, 0, none⟩ 1 1 (enc y) (by rw [hk]; omega) (fun j u hu => by
    rw [plain_add]
    exact hX j u hu) (h1' y) h63 hbytes (Nat.zero_le _)
  have hb : But (fun j => v0.ownBlock = some j ∨ j = B) w w' := But.of_grown hg (fun r e _ => .inl e)
  have hB' : w'.heap[B]? = w.heap[B]? := hg.block B (Nat.lt_of_lt_of_le hB hp.size) (fun e => hne e.symm)
  refine ⟨v', w', hrun, hb, ?_, h.but.trans hb, fun _ => hB'.trans (h.blk zS), ?_, ?_, ?_⟩
  · rw [acc_upd_on]; exact fun h => by cases h
  · rw [acc_upd_on]; exact fun _ h => by cases h
  · intro _ v hv
    rw [acc_put_at hv]
    refine ⟨?_, ?_⟩
    · unfold rowK
      rw [List.flatMap_append, List.length_append, List.flatMap_cons, List.flatMap_nil, List.append_nil]
      exact ho'
    · rcases hloc with e | e
      · exact .inl e
      · exact .inr ⟨_, e, hp.size⟩
  · rw [acc_upd_off i1, zS]; exact fun h => by cases h
theorem ApF.store (h : ApF enc E k B off iB iA iS tB tA v0 L y w0 f a w) (h1 : iA ≠ iS) (zA : f iA = true) (zS : f iS = false) (hne : v0.ownBlock ≠ some B) (hB : B < w0.heap.size) {v : Value} (hv : a.tmps[tA]? = some v) (o : Option Nat) (ho : o = none) (u : Value) :
    But (fun j => v0.ownBlock = some j ∨ j = B) w (w.setCell ⟨B, off, none⟩ v) ∧ ApF enc E k B off iB iA iS tB tA v0 L y w0 (Go.Rel.upd f iS) (a.put o u) (w.setCell ⟨B, off, none⟩ v) := by
  subst ho
  obtain ⟨hr, hl⟩ := h.app zA v hv
  have hb : But (fun j => v0.ownBlock = some j ∨ j = B) w (w.setCell ⟨B, off, none⟩ v) := But.set (S := fun j => v0.ownBlock = some j ∨ j = B) w (p := ⟨B, off, none⟩) (.inr rfl) v
  have hb1 : But (· = B) w (w.setCell ⟨B, off, none⟩ v) := But.set (S := (· = B)) w (p := ⟨B, off, none⟩) rfl v
  have hvB : ∀ j, v.ownBlock = some j → ¬ j = B := fun j hj e => by
    subst e
    rcases hl with e | ⟨b, e, hb⟩
    · exact hne (e.symm.trans hj)
    · rw [hj] at e; cases e; omega
  refine ⟨hb, ?_, h.but.trans hb, ?_, ?_, ?_, ?_⟩
  · rw [acc_upd_off (Ne.symm h1), zA]; exact fun h => by cases h
  · rw [acc_upd_on]; exact fun h => by cases h
  · intro e1 e2
    rw [acc_upd_off (Ne.symm h1), zA] at e2; cases e2
  · intro _ v2 hv2
    have : v2 = v := by
      have h3 : (a.put none u).tmps[tA]? = a.tmps[tA]? := rfl
      rw [h3, hv] at hv2
      exact (Option.some.inj hv2).symm
    subst this
    exact ⟨hr.but hb1 hvB, hl⟩
  · intro _
    refine ⟨v, hr.but hb1 hvB, hl, fun cs t fr hcs => ?_⟩
    exact block_set ((h.blk zS).trans hcs) off v
end
theorem stepOf_build {P : Program} {ops : Array Oper} {Q : Exit → Act → World → Prop} {o : Oper} {K : Act → World → Prop} {a : Act} {w : World} (t : TypeId) (parts : Array (Nat × Operand)) (ho : o.op = .build t parts) (hg : o.guard = none) (cs : Array Value)
    (hb : P.built t (parts.map fun (i, x) => (i, a.eval x)).toList = some cs) (h : K (a.put o.dst (.agg cs)) w) : Go.Rel.stepOf P ops Q o K a w := by
  unfold Go.Rel.stepOf
  rw [if_pos (by simp [Region.wanted, hg])]
  exact wp_build t parts ho (by rw [hb]; rfl) (by rw [hb]; exact h)
theorem stepOf_box {P : Program} {ops : Array Oper} {Q : Exit → Act → World → Prop} {o : Oper} {K : Act → World → Prop} {a : Act} {w : World} (t : TypeId) (x : Operand) (ho : o.op = .box t x) (hg : o.guard = none) (cs : Array Value) (hx : a.eval x = .agg cs)
    (h : K (a.put o.dst (.pointer (some ⟨w.heap.size, 0, none⟩))) (w.alloc (.cells cs t))) : Go.Rel.stepOf P ops Q o K a w := by
  unfold Go.Rel.stepOf
  rw [if_pos (by simp [Region.wanted, hg])]
  unfold Oper.wp execOp
  simp only [ho, hx]
  simp [Instr.box, newVar, newRow, Value.cells, go_sem]
  exact h
end Go.Proofs.YtaicipldjmngaaaGreatDoor
