/-
  The program's store in memory (layer 16): a pointer to its table; entries and checks as values.
-/
import Derived.Test.YtohnkagabpefdaaDoorZj12
import Derived.Test.YtohnkagabpefdaaDoorZj23
import Derived.Test.YtohnkagabpefdaaDoorZj24
import Derived.Test.YtohnkagabpefdaaDoorZj26
import Derived.Laws.StructEq
namespace Go.Proofs.YtohnkagabpefdaaDoor
open Go.RowKit
set_option linter.unusedSimpArgs false
set_option linter.unusedVariables false

abbrev enC := Kt.trC
abbrev enV := Kt.trV
abbrev TEn : TypeId := 40
abbrev TCk : TypeId := 77
/-- The program's store t behind block B, its table behind Bt; all that it has in S. -/
structure KvAt (S : Nat → Prop) (w : World) (B Bt : Nat) (t : Tb Kp) : Prop where
  ok : KvOk t
  mine : S B
  ptr : w.heap[B]? = some (.cells #[.pointer (some ⟨Bt, 0, none⟩)] 37 (0, 0))
  tab : Kt.TAt (fun k => S k ∧ k ≠ B) w Bt t
/-- There is no store. -/
structure NoKv (w : World) (p : Option Addr) : Prop where
  or : p = none ∨ ∃ B, p = some ⟨B, 0, none⟩ ∧ w.heap[B]? = some (.cells #[.pointer none] 37 (0, 0))
section
variable {S S' : Nat → Prop} {w w' : World} {B Bt : Nat} {t : Tb Kp}
theorem KvAt.lt (h : KvAt S w B Bt t) : B < w.heap.size := block_lt h.ptr
theorem KvAt.tlt (h : KvAt S w B Bt t) : Bt < w.heap.size := h.tab.lt
theorem KvAt.tmine (h : KvAt S w B Bt t) : S Bt ∧ Bt ≠ B := h.tab.mine
theorem KvAt.but (h : KvAt S w B Bt t) (hb : But S' w w') (hS : ∀ k, S' k → ¬ S k) : KvAt S w' B Bt t :=
  ⟨h.ok, h.mine, (hb.block B h.lt fun e => hS B e h.mine).trans h.ptr, h.tab.but hb fun k e z => hS k e z.1⟩
theorem KvAt.below (h : KvAt S w B Bt t) (hb : Below w.heap.size w w') : KvAt S w' B Bt t := h.but (S' := fun _ => False) (But.of_below hb) (fun _ h => h.elim)
theorem KvAt.narrow (h : KvAt S w B Bt t) (hs : ∀ k, k < w.heap.size → S k → S' k) : KvAt S' w B Bt t :=
  ⟨h.ok, hs _ h.lt h.mine, h.ptr, h.tab.narrow fun k hk z => ⟨hs k hk z.1, z.2⟩⟩
/-- The table has changed. -/
theorem KvAt.turned (h : KvAt S w B Bt t) {t' : Tb Kp} (hk' : KvOk t') (ht' : Kt.TAt (fun k => (S k ∧ k ≠ B) ∨ w.heap.size ≤ k) w' Bt t') (hb : But (· = Bt) w w') : KvAt (fun k => S k ∨ w.heap.size ≤ k) w' B Bt t' := by
  have hl := h.lt
  refine ⟨hk', .inl h.mine, (hb.block B hl fun e => h.tmine.2 e.symm).trans h.ptr, ht'.narrow fun j hj hs => ?_⟩
  rcases hs with hs | hs
  · exact ⟨.inl hs.1, hs.2⟩
  · exact ⟨.inr hs, by omega⟩
theorem NoKv.below {p : Option Addr} (h : NoKv w p) (hb : Below w.heap.size w w') : NoKv w' p :=
  ⟨h.or.imp id fun ⟨B, e, k⟩ => ⟨B, e, (hb.block B (block_lt k)).trans k⟩⟩
end
/-! ### Entries compared -/
theorem en_fields : Tryd.prog.underlying TEn = some (.struct (Tryd.prog.fieldsOf TEn)) := by kernel_rfl
theorem en_stood : Tryd.prog.stoodInHeld TEn = false := by kernel_rfl
theorem en_flds : (Tryd.prog.fieldsOf TEn).toList.map (fun f => (f.name, f.type, f.offset)) = [("Key", 9, 0), ("Value", 9, 1), ("Session", 23, 2), ("Locks", 23, 3), ("Make", 23, 4), ("Index", 23, 5)] := by kernel_rfl
theorem en_guard : Tryd.prog.eqGuardType Tryd.prog.depth TEn = false := by kernel_rfl
theorem list6 {α : Type} {l : List α} (h : l.length = 6) : ∃ a b c d e f, l = [a, b, c, d, e, f] := by
  match l, h with
  | [a, b, c, d, e, f], _ => exact ⟨a, b, c, d, e, f, rfl⟩
theorem En.eq_iff (a b : En) : a = b ↔ a.key = b.key ∧ a.val.v = b.val.v ∧ a.val.ses = b.val.ses ∧ a.val.lck = b.val.lck ∧ a.made = b.made ∧ a.ix = b.ix := by
  obtain ⟨x, ⟨y, z, u⟩, v, w⟩ := a
  obtain ⟨x', ⟨y', z', u'⟩, v', w'⟩ := b
  simp [and_assoc]
/-- Are two entries the same? -/
def eqE (a b : En) : Bool := a.key.toList == b.key.toList && (a.val.v.toList == b.val.v.toList && (a.val.ses == b.val.ses && (a.val.lck == b.val.lck && (a.made == b.made && a.ix == b.ix))))
theorem eqE_iff (a b : En) : eqE a b = true ↔ a = b := by
  unfold eqE
  rw [En.eq_iff]
  simp only [Bool.and_eq_true]
  rw [text_same, text_same, beq_iff_eq, beq_iff_eq, beq_iff_eq, beq_iff_eq]
theorem eqE_ne {a b : En} (h : a ≠ b) : eqE a b = false := by
  rw [Bool.eq_false_iff]
  exact fun e => h ((eqE_iff a b).1 e)
theorem en_eq (a b : En) (w : World) : (Op.equalIn 10000 TEn (enV a) (enV b)).run Tryd.prog w = .ok (eqE a b) w := by
  unfold enV Kt.trV
  rw [run_equalIn_struct w 9999 _ _ _ en_fields en_stood]
  have h := en_flds
  generalize (Tryd.prog.fieldsOf TEn).toList = fs at h
  have hl := congrArg List.length h
  rw [List.length_map] at hl
  obtain ⟨f0, f1, f2, f3, f4, f5, rfl⟩ := list6 hl
  simp only [List.map_cons, List.map_nil, List.cons.injEq, Prod.mk.injEq, and_true] at h
  obtain ⟨⟨h0, h1, h2⟩, ⟨h3, h4, h5⟩, ⟨h6, h7, h8⟩, ⟨h9, h10, h11⟩, ⟨h12, h13, h14⟩, h15, h16, h17⟩ := h
  simp only [Op.eqFields, h0, h1, h2, h3, h4, h5, h6, h7, h8, h9, h10, h11, h12, h13, h14, h15, h16, h17]
  unfold eqE
  cases k0 : (a.key.toList == b.key.toList)
  · simp [go_sem, k0]
  · cases k1 : (a.val.v.toList == b.val.v.toList)
    · simp [go_sem, k0, k1]
    · by_cases k2 : a.val.ses = b.val.ses
      · by_cases k3 : a.val.lck = b.val.lck
        · by_cases k4 : a.made = b.made
          · by_cases k5 : a.ix = b.ix
            · simp [go_sem, k0, k1, k2, k3, k4, k5]
            · have k5' : ¬ (a.ix : Int) = (b.ix : Int) := by omega
              simp [go_sem, k0, k1, k2, k3, k4, k5, k5']
          · have k4' : ¬ (a.made : Int) = (b.made : Int) := by omega
            simp [go_sem, k0, k1, k2, k3, k4, k4']
        · have k3' : ¬ (a.val.lck : Int) = (b.val.lck : Int) := by omega
          simp [go_sem, k0, k1, k2, k3, k3']
      · have k2' : ¬ (a.val.ses : Int) = (b.val.ses : Int) := by omega
        simp [go_sem, k0, k1, k2, k2']
/-! ### Checks -/
/-- A check: a function's value, an error, and what it says of an entry. -/
structure Ck where
  fv : Value
  err : Nat
  p : En → Bool
def ckC (c : Ck) : List Value := [c.fv, .int .i64 (c.err : Int)]
/-- A function's value that answers v of an entry, from a world on. -/
def Does (w : World) (fv : Value) (e : En) (v : Value) : Prop := ∃ g lb, fv = .func (.func g) #[] lb ∧ (∀ args w, (callFunc g args).run Tryd.prog w = .ok (.enter g args) w) ∧ ∀ W, Below w.heap.size w W → Calls Tryd.prog g (#[enV e] ++ lb) W fun e w' => e = .returned v ∧ Below W.heap.size W w'
theorem Does.below {w w' : World} {fv : Value} {e : En} {v : Value} (h : Does w fv e v) (hb : Below w.heap.size w w') : Does w' fv e v := by
  obtain ⟨g, lb, h1, h2, h3⟩ := h
  exact ⟨g, lb, h1, h2, fun W hW => h3 W (hb.trans (hW.mono hb.size))⟩
/-- Checks that are of some use for an entry. -/
def CkOk (w : World) (cs : List Ck) (e : En) : Prop := ∀ c ∈ cs, Does w c.fv e (.bool (c.p e)) ∧ 0 < c.err ∧ c.err < 100 ∧ c.fv.oneCell' = true
theorem CkOk.below {w w' : World} {cs : List Ck} {e : En} (h : CkOk w cs e) (hb : Below w.heap.size w w') : CkOk w' cs e := fun c hc => ⟨(h c hc).1.below hb, (h c hc).2⟩
theorem ckC_len (c : Ck) : (ckC c).length = 2 := rfl
/-- What checks say of an entry. -/
def saidOf (cs : List Ck) (e : En) : List (Bool × Nat) := cs.map fun c => (c.p e, c.err)
end Go.Proofs.YtohnkagabpefdaaDoor
