/-
  The program's store in memory (layer 16): a pointer to its table; entries and checks as values.
-/
import Derived.Test.YtohnkagabpefdaaGreatDoorZj10
import Derived.Test.YtohnkagabpefdaaGreatDoorZj17
import Derived.Test.YtohnkagabpefdaaGreatDoorZj18
import Derived.Test.YtohnkagabpefdaaGreatDoorZj20
import Derived.Laws.StructEq
namespace Go.Proofs.YtohnkagabpefdaaGreatDoor
open Go.RowKit
set_option linter.unusedSimpArgs false
set_option linter.unusedVariables false

abbrev enC := Kt.trC
abbrev enV := Kt.trV
abbrev TEn : TypeId := 32
abbrev TCk : TypeId := 78
/-- The program's store t behind block B, its table behind Bt; all that it has in S. -/
structure KvAt (S : Nat → Prop) (w : World) (B Bt : Nat) (t : Tb Kp) : Prop where
  ok : KvOk t
  mine : S B
  ptr : w.heap[B]? = some (.cells #[.pointer (some ⟨Bt, 0, none⟩)] 57 (0, 0))
  tab : Kt.TAt (fun k => S k ∧ k ≠ B) w Bt t
/-- There is no store. -/
structure NoKv (w : World) (p : Option Addr) : Prop where
  or : p = none ∨ ∃ B, p = some ⟨B, 0, none⟩ ∧ w.heap[B]? = some (.cells #[.pointer none] 57 (0, 0))
section
variable {S S' : Nat → Prop} {w w' : World} {B Bt : Nat} {t : Tb Kp}
theorem KvAt.lt (h : KvAt S w B Bt t) : B < w.heap.size := block_lt h.ptr
theorem KvAt.tlt (h : KvAt S w B Bt t) : Bt < w.heap.size := h.tab.lt
theorem KvAt.tmine (h : KvAt S w B Bt t) : S Bt ∧ Bt ≠ B := h.tab.mine
theorem KvAt.but (h : KvAt S w B Bt t) (hb : But S' w w') (hS : ∀ k, S' k → ¬ S k) : KvAt S w' B Bt t :=
  ⟨h.ok, h.mine, (hb.block B h.lt fun e => hS B e h.mine).trans h.ptr, h.tab.but hb fun k e z => hS k e z.1⟩
theorem KvAt.below (h : KvAt S w B Bt t) (hb : Below w.heap.size w w') : KvAt S w' B Bt t := h.but (S' := fun _ => False) (But.of_below hb) (fun _ h => h.elim)
theorem KvAt.narrow (h : KvAt S w B Bt t) (hs : ∀ k, k < w.heap.size → S k → S' k) : KvAt S' w B Bt t :=
  ⟨h.ok, hs _ h.lt h.mine, h.ptr, h.tab.narrow fun k hk z => ⟨hs k hk z.1, z.2⟩⟩
/-- The table has changed. -/
theorem KvAt.turned (h : KvAt S w B Bt t) {t' : Tb Kp} (hk' : KvOk t') (ht' : Kt.TAt (fun k => (S k ∧ k ≠ B) ∨ w.heap.size ≤ k) w' Bt t') (hb : But (· = Bt) w w') : KvAt (fun k => S k ∨ w.heap.size ≤ k) w' B Bt t' := by
  have hl := h.lt
  refine ⟨hk', .inl h.mine, (hb.block B hl fun e => h.tmine.2 e.symm).trans h.ptr, ht'.narrow fun j hj hs => ?_⟩
  rcases hs with hs | hs
  · exact ⟨.inl hs.1, hs.2⟩
  · exact ⟨.inr hs, by omega⟩
theorem NoKv.below {p : Option Addr} (h : NoKv w p) (hb : Below w.heap.size w w') : NoKv w' p :=
  ⟨h.or.imp id fun ⟨B, e, k⟩ => ⟨B, e, (hb.block B (block_lt k)).trans k⟩⟩
end
/-! ### Entries compared -/
theorem en_fields : Tryz.prog.underlying TEn = some (.struct (Tryz.prog.fieldsOf TEn)) := by kernel_rfl
theorem en_stood : Tryz.prog.stoodInHeld TEn = false := by kernel_rfl
theorem en_flds : (Tryz.prog.fieldsOf TEn).toList.map (fun f => (f.name, f.type, f.offset)) = [("Key", 9, 0), ("Value", 9, 1), ("Session", 28, 2), ("Locks", 28, 3), ("Make", 28, 4), ("Index", 28, 5)] := by kernel_rfl
theorem en_guard : Tryz.prog.eqGuardType Tryz.prog.depth TEn = false := by kernel_rfl
theorem list6 {α : Type} {l : List α} (h : l.length = 6) : ∃ a b c d e f, l = [a, b, c, d, e, f] := by
  match l, h with
  | [a, b, c, d, e, f], _ => exact ⟨a, b, c, d, e, f, rfl⟩
theorem En.eq_iff (a b : En) : a = b ↔ a.key = b.key ∧ a.val.v = b.val.v ∧ a.val.ses = b.val.ses ∧ a.val.lck = b.val.lck ∧ a.made = b.made ∧ a.ix = b.ix := by
  obtain ⟨x, ⟨y, z, u⟩, v, w⟩ := a
  obtain ⟨x', ⟨y', z', u'⟩, v', w'⟩ := b
  simp [and_assoc]
/-- Are two entries the same? -/
def eqE (a b : En) : Bool := a.key.toList == b.key.toList && (a.val.v.toList == b.val.v.toList && (a.val.ses == b.val.ses && (a.val.lck == b.val.lck && (a.made == b.made && a.ix == b.ix))))
theorem eqE_iff (a b : En) : eqE a b = true ↔ a = b := by
  unfold eqE
  rw [En.eq_iff]
  simp only [Bool.and_eq_true]
  rw [text_same, text_same, beq_iff_eq, beq_iff_eq, beq_iff_eq, beq_iff_eq]
theorem eqE_ne {a b : En} (h : a ≠ b) : eqE a b = false := by
  rw [Bool.eq_false_iff]
  exact fun e => h ((eqE_iff a b).1 e)
theorem en_eq (a b : En) (w : World) : (Op.equalIn 10000 TEn (enV a) (enV b)).run Tryz.prog w = .ok (eqE a b) w := by
  unfold enV Kt.trV
  rw [run_equalIn_struct w 9999 _ _ _ en_fields en_stood]
  have h := en_flds
  generalize (Tryz.prog.fieldsOf TEn).toList = fs at h
  have hl := congrArg List.length h
  rw [List.length_map] at hl
  obtain ⟨f0, f1, f2, f3, f4, f5, rfl⟩ := list6 hl
  simp only [List.map_cons, List.map_nil, List.cons.injEq, Prod.mk.injEq, and_true] at h
  obtain ⟨⟨h0, h1, h2⟩, ⟨h3, h4, h5⟩, ⟨h6, h7, h8⟩, ⟨h9, h10, h11⟩, ⟨h12, h13, h14⟩, h15, h16, h17⟩ := h
  simp only [Op.eqFields, h0, h1, h2, h3, h4, h5, h6, h7, h8, h9, h10, h11, h12, h13, h14, h15, h16, h17]
  unfold eqE
  cases k0 : (a.key.toList == b.key.toList)
  · simp [go_sem, k0]
  · cases k1 : (a.val.v.toList == b.val.v.toList)
    · simp [go_sem, k0, k1]
    · by_cases k2 : a.val.ses = b.val.ses
      · by_cases k3 : a.val.lck = b.val.lck
        · by_cases k4 : a.made = b.made
          · by_cases k5 : a.ix = b.ix
            · simp [go_sem, k0, k1, k2, k3, k4, k5]
            · have k5' : ¬ (a.ix : Int) = (b.ix : Int) := by omega
              simp [go_sem, k0, k1, k2, k3, k4, k5, k5']
          · have k4' : ¬ (a.made : Int) = (b.made : Int) := by omega
            simp [go_sem, k0, k1, k2, k3, k4, k4']
        · have k3' : ¬ (a.val.lck : Int) = (b.val.lck : Int) := by omega
          simp [go_sem, k0, k1, k2, k3, k3']
      · have k2' : ¬ (a.val.ses : Int) = (b.val.ses : Int) := by omega
        simp [go_sem, k0, k1, k2, k2']
/-! ### Checks -/
/-- A check: a function's value, an error, and what it says of an entry. -/
structure Ck where
  fv : Value
  err : Nat
  p : En → Bool
def ckC (c : Ck) : List Value := [c.fv, .int .i64 (c.err : Int)]
/-- A function's value that answers v of an entry, from a world on. -/
def Does (w : World) (fv : Value) (e : En) (v : Value) : Prop := ∃ g lb, fv = .func (.func g) #[] lb ∧ (∀ args w, (callFunc g args).run Tryz.prog w = .ok (.enter g args) w) ∧ ∀ W, Below w.heap.size w W → Calls Tryz.prog g (#[enV e] ++ lb) W fun e w' => e = .returned v ∧ Below W.heap.size W w'
theorem Does.below {w w' : World} {fv : Value} {e : En} {v : Value} (h : Does w fv e v) (hb : Below w.heap.size w w') : Does w' fv e v := by
  obtain ⟨g, lb, h1, h2, h3⟩ := h
  exact ⟨g, lb, h1, h2, fun W hW => h3 W (hb.trans (hW.mono hb.size))⟩
/-- Checks that are of some use for an entry. -/
def CkOk (w : World) (cs : List Ck) (e : En) : Prop := ∀ c ∈ cs, Does w c.fv e (.bool (c.p e)) ∧ 0 < c.err ∧ c.err < 100 ∧ c.fv.oneCell' = true
theorem CkOk.below {w w' : World} {cs : List Ck} {e : En} (h : CkOk w cs e) (hb : Below w.heap.size w w') : CkOk w' cs e := fun c hc => ⟨(h c hc).1.below hb, (h c hc).2⟩
theorem ckC_len (c : Ck) : (ckC c).length = 2 := rfl
/-- What checks say of an entry. -/
def saidOf (cs : List Ck) (e : En) : List (Bool × Nat) := cs.map fun c => (c.p e, c.err)
end Go.Proofs.YtohnkagabpefdaaGreatDoor
/-
  The program's store: whole, there, table, New, Last, Copy, Get, walked (layer 16).
-/
namespace Go.Proofs.YtohnkagabpefdaaGreatDoor
open Go.RowKit
set_option linter.unusedSimpArgs false
set_option linter.unusedVariables false

theorem below3 (w : World) (a b c : Array Value) (p q r : TypeId) : Below w.heap.size w (((w.alloc (.cells a p)).alloc (.cells b q)).alloc (.cells c r)) := ((below1 w a p).alloc (by simp) _).alloc (by simp; omega) _
theorem below2 (w : World) (a b : Array Value) (p q : TypeId) : Below w.heap.size w ((w.alloc (.cells a p)).alloc (.cells b q)) := (below1 w a p).alloc (by simp) _
theorem whole_any (r : En) (w : World) : Calls Tryz.prog 36 #[enV r] w fun e w' => e = .returned (enV r) ∧ Below w.heap.size w w' := by
  unfold enV Kt.trV
  go_enter Tryz.func36, Tryz.ntmps36
  go_wp2
  exact bodyPost_ret (v := .agg #[.string r.key, .string r.val.v, .int .u64 (r.val.ses : Int), .int .u64 (r.val.lck : Int), .int .u64 (r.made : Int), .int .u64 (r.ix : Int)]) (by simp [results, Tryz.results36, go_sem]) rfl ⟨rfl, below3 _ _ _ _ _ _ _⟩
theorem there_any (e0 : En) (w : World) : Calls Tryz.prog 40 #[enV e0] w fun e w' => e = .returned (.bool (!eqE e0 noEn)) ∧ Below w.heap.size w w' := by
  have ue : ∀ w, (Op.equalIn 10000 TEn (.agg #[.string e0.key, .string e0.val.v, .int .u64 (e0.val.ses : Int), .int .u64 (e0.val.lck : Int), .int .u64 (e0.made : Int), .int .u64 (e0.ix : Int)]) (.agg #[.string ⟨#[]⟩, .string ⟨#[]⟩, .int .u64 0, .int .u64 0, .int .u64 0, .int .u64 0])).run Tryz.prog w = .ok (eqE e0 noEn) w := en_eq e0 noEn
  have ug := en_guard
  obtain ⟨b, hb⟩ : ∃ b, eqE e0 noEn = b := ⟨_, rfl⟩
  rw [hb] at ue ⊢
  unfold enV Kt.trV
  clear hb
  go_enter Tryz.func40, Tryz.ntmps40
  go_wp2
  go_ret
  exact ⟨rfl, below1 _ _ _⟩
section
variable {S : Nat → Prop} {w : World} {B Bt : Nat} {t : Tb Kp}
theorem table_is (k : w.heap[B]? = some (.cells #[.pointer (some ⟨Bt, 0, none⟩)] 57 (0, 0))) : Calls Tryz.prog 34 #[.pointer (some ⟨B, 0, none⟩)] w fun e w' => e = .returned (.pointer (some ⟨Bt, 0, none⟩)) ∧ w = w' := by
  have c0 := cellsN k 0 _ rfl
  clear k
  go_enter Tryz.func34, Tryz.ntmps34
  go_wp2
  go_ret
  exact ⟨rfl, rfl⟩
theorem table_no {p : Option Addr} (h : NoKv w p) : Calls Tryz.prog 34 #[.pointer p] w fun e w' => e = .returned (.pointer none) ∧ w = w' := by
  rcases h.or with rfl | ⟨B, rfl, k⟩
  · clear h
    go_enter Tryz.func34, Tryz.ntmps34
    go_wp2
    go_ret
    exact ⟨rfl, rfl⟩
  · have c0 := cellsN k 0 _ rfl
    clear h k
    go_enter Tryz.func34, Tryz.ntmps34
    go_wp2
    go_ret
    exact ⟨rfl, rfl⟩
/-- A store that was just laid. -/
theorem KvAt.laid {S' : Nat → Prop} (hk : KvOk t) (h : Kt.TAt S' w Bt t) (hS : ∀ k, S' k → S k) : KvAt (fun k => S k ∨ w.heap.size ≤ k) (w.alloc (.cells #[.pointer (some ⟨Bt, 0, none⟩)] 57)) w.heap.size Bt t :=
  ⟨hk, .inr (Nat.le_refl _), heap_alloc_new w _, (h.narrow (S' := fun k => S' k ∧ k < w.heap.size) fun k hk z => ⟨z, hk⟩).below (below1 _ _ _) |>.narrow fun k _ z => ⟨.inl (hS k z.1), by omega⟩⟩
theorem knew_any (m : Int) (w : World) (hm : -9223372036854775808 ≤ m ∧ m ≤ 9223372036854775807) :
    Calls Tryz.prog 7 #[.int .i64 m] w fun e w' => ∃ B Bt, e = .returned (.pointer (some ⟨B, 0, none⟩)) ∧ KvAt (fun k => w.heap.size ≤ k) w' B Bt ⟨mostT m, [], 0⟩ ∧ Below w.heap.size w w' := by
  have HN := Lib.hid (Kt.new_any m w hm)
  clear hm
  go_enter Tryz.func7, Tryz.ntmps7
  go_wp2_with fail
  refine HN.out.mono ?_
  rintro e w1 ⟨Bt, rfl, ht, hb⟩
  have HT := Lib.hid (KvAt.laid (S := fun k => w.heap.size ≤ k) (KvOk.new m) ht fun _ z => z)
  have HB := Lib.hid (hb.alloc hb.size (.cells #[.pointer (some ⟨Bt, 0, none⟩)] 57))
  have HZ := Lib.hid hb.size
  clear ht hb HN
  go_wp2
  go_ret
  refine ⟨_, _, rfl, HT.out.narrow fun k _ z => ?_, HB.out⟩
  rcases z with z | z
  · exact z
  · exact Nat.le_trans HZ.out z
theorem klast_any (h : KvAt S w B Bt t) : Calls Tryz.prog 12 #[.pointer (some ⟨B, 0, none⟩)] w fun e w' => e = .returned (.int .u64 (t.last : Int)) ∧ w = w' := by
  obtain ⟨_, _, k, h1⟩ := h
  have HT := Lib.hid (table_is k)
  have HL := Lib.hid (Kt.last_any h1)
  clear k h1
  go_enter Tryz.func12, Tryz.ntmps12
  go_wp2_with fail
  refine HT.out.mono ?_
  rintro e w' ⟨rfl, rfl⟩
  go_wp2_with fail
  refine HL.out.mono ?_
  rintro e w' ⟨rfl, rfl⟩
  go_wp2
  go_ret
  exact ⟨rfl, rfl⟩
theorem klast_no {p : Option Addr} (h : NoKv w p) : Calls Tryz.prog 12 #[.pointer p] w fun e w' => e = .returned (.int .u64 0) ∧ w = w' := by
  have HT := Lib.hid (table_no h)
  have HL := Lib.hid (Kt.last_no (w := w) (p := none) ⟨.inl rfl⟩)
  clear h
  go_enter Tryz.func12, Tryz.ntmps12
  go_wp2_with fail
  refine HT.out.mono ?_
  rintro e w' ⟨rfl, rfl⟩
  go_wp2_with fail
  refine HL.out.mono ?_
  rintro e w' ⟨rfl, rfl⟩
  go_wp2
  go_ret
  exact ⟨rfl, rfl⟩
theorem kcopy_any (h : KvAt S w B Bt t) : Calls Tryz.prog 33 #[.pointer (some ⟨B, 0, none⟩)] w fun e w' => ∃ B' Bc, e = .returned (.pointer (some ⟨B', 0, none⟩)) ∧ w.heap.size ≤ B' ∧ w.heap.size ≤ Bc ∧ KvAt (fun k => S k ∨ w.heap.size ≤ k) w' B' Bc t ∧ Below w.heap.size w w' := by
  obtain ⟨hk, _, k, h1⟩ := h
  have HT := Lib.hid (table_is k)
  have HC := Lib.hid (Kt.copy_any h1)
  have HK := Lib.hid hk
  have c0 := cellsN k 0 _ rfl
  clear k h1 hk
  go_enter Tryz.func33, Tryz.ntmps33
  go_wp2_with fail
  refine HT.out.mono ?_
  rintro e w' ⟨rfl, rfl⟩
  go_wp2_with fail
  refine HC.out.mono ?_
  rintro e w1 ⟨Bc, rfl, hc, ht, hb⟩
  have HT2 := Lib.hid (KvAt.laid (S := fun k => S k ∨ w.heap.size ≤ k) HK.out ht fun _ z => z.imp (·.1) id)
  have HB := Lib.hid (hb.alloc hb.size (.cells #[.pointer (some ⟨Bc, 0, none⟩)] 57))
  have HZ := Lib.hid hb.size
  have HCc := Lib.hid hc
  clear ht hb HC hc
  go_wp2
  go_ret
  refine ⟨_, _, rfl, HZ.out, HCc.out, HT2.out.narrow fun k _ z => ?_, HB.out⟩
  rcases z with z | z
  · exact z
  · exact .inr (Nat.le_trans HZ.out z)
theorem kcopy_no {p : Option Addr} (h : NoKv w p) : Calls Tryz.prog 33 #[.pointer p] w fun e w' => e = .returned (.pointer none) ∧ w = w' := by
  have HT := Lib.hid (table_no h)
  clear h
  go_enter Tryz.func33, Tryz.ntmps33
  go_wp2_with fail
  refine HT.out.mono ?_
  rintro e w' ⟨rfl, rfl⟩
  go_wp2
  go_ret
  exact ⟨rfl, rfl⟩
set_option maxHeartbeats 1000000 in
theorem kget_any (key : ByteArray) (h : KvAt S w B Bt t) : Calls Tryz.prog 10 #[.pointer (some ⟨B, 0, none⟩), .string key] w fun e w' => e = .returned (.tuple #[enV ((entO t key, isO t key) : En × Bool).1, .bool ((entO t key, isO t key) : En × Bool).2]) ∧ Below w.heap.size w w' := by
  obtain ⟨X, hX⟩ : ∃ X, w.heap.size = X := ⟨_, rfl⟩
  obtain ⟨W, hW⟩ : ∃ W, w.alloc (.cells #[.string ⟨#[]⟩, .string ⟨#[]⟩, .int .u64 0, .int .u64 0, .int .u64 0, .int .u64 0] TEn) = W := ⟨_, rfl⟩
  have hb0 : Below w.heap.size w W := by rw [← hW]; exact below1 _ _ _
  have k0 : W.heap[X]? = some (.cells #[.string ⟨#[]⟩, .string ⟨#[]⟩, .int .u64 0, .int .u64 0, .int .u64 0, .int .u64 0] TEn (0, 0)) := by rw [← hW, ← hX]; exact heap_alloc_new w _
  obtain ⟨_, _, k, h1⟩ := h.below hb0
  have HT := Lib.hid (table_is k)
  have HG := Lib.hid (Kt.get_any key h1)
  clear h k h1
  have HB0 := Lib.hid hb0
  have HK0 := Lib.hid k0
  have HW := Lib.hid hW
  have HX := Lib.hid hX
  clear hX hW hb0 k0
  go_enter Tryz.func10, Tryz.ntmps10
  go_wp2_with fail
  rw [HW.out, HX.out]
  refine HT.out.mono ?_
  rintro e w' ⟨rfl, rfl⟩
  go_wp2_with fail
  refine HG.out.mono ?_
  rintro e w1 ⟨rfl, hb1⟩
  obtain ⟨r, hr⟩ : ∃ r, (getR t.l key).getD Kt.noRw = r := ⟨_, rfl⟩
  obtain ⟨b, hb⟩ : ∃ b, (getR t.l key).isSome = b := ⟨_, rfl⟩
  unfold Kt.gotR Kt.trV
  rw [hr, hb]
  have HWh := Lib.hid (fun W => whole_any r W)
  unfold enV Kt.trV at HWh
  obtain ⟨W2, hW2⟩ : ∃ W2, w1.alloc (.cells #[.string r.key, .string r.val.v, .int .u64 (r.val.ses : Int), .int .u64 (r.val.lck : Int), .int .u64 (r.made : Int), .int .u64 (r.ix : Int)] 68) = W2 := ⟨_, rfl⟩
  have hb2 : Below w1.heap.size w1 W2 := by rw [← hW2]; exact below1 _ _ _
  have kx := ((hb1.trans (hb2.mono hb1.size)).block X (block_lt HK0.out)).trans HK0.out
  have HKx := Lib.hid kx
  have HB2 : Hid (Below X w W2) := Lib.hid (by rw [← HX.out]; exact HB0.out.trans ((hb1.trans (hb2.mono hb1.size)).mono HB0.out.size))
  have HW2 := Lib.hid hW2
  have HRr := Lib.hid hr
  have HRb := Lib.hid hb
  clear hb1 hb2 kx hW2 hr hb HG HT
  go_wp2_with fail
  rw [HW2.out]
  refine (HWh.out _).mono ?_
  rintro e w3 ⟨rfl, hb3⟩
  have kx := (hb3.block X (block_lt HKx.out)).trans HKx.out
  obtain ⟨d0, d1, d2, d3, d4, d5⟩ := Kt.blk kx
  have z0 := blk_froz kx 0
  have z1 := blk_froz kx 1
  have z2 := blk_froz kx 2
  have z3 := blk_froz kx 3
  have z4 := blk_froz kx 4
  have z5 := blk_froz kx 5
  have hXl := block_lt kx
  have HQ := Lib.hid (setL_all kx [.string r.key, .string r.val.v, .int .u64 (r.val.ses : Int), .int .u64 (r.val.lck : Int), .int .u64 (r.made : Int), .int .u64 (r.ix : Int)] rfl)
  have HB3 : Hid (Below X w w3) := Lib.hid (HB2.out.trans (hb3.mono (by have := HB2.out.size; have := HX.out; omega)))
  clear kx hb3 HWh
  go_wp2
  obtain ⟨q0, q1, q2, q3, q4, q5⟩ := Kt.blk HQ.out
  simp only [setL] at q0 q1 q2 q3 q4 q5
  refine bodyPost_ret (v := .tuple #[enV r, .bool b]) (by simp [results, Tryz.results10, go_sem, q0, q1, q2, q3, q4, q5, enV, Kt.trV]) rfl ?_
  rw [HX.out]
  refine ⟨by rw [← HRr.out, ← HRb.out]; rfl, ?_⟩
  exact below_setL HB3.out (by rw [HX.out]; exact Nat.le_refl _) [.string r.key, .string r.val.v, .int .u64 (r.val.ses : Int), .int .u64 (r.val.lck : Int), .int .u64 (r.made : Int), .int .u64 (r.ix : Int)] 0
set_option maxHeartbeats 1000000 in
theorem kget_no {p : Option Addr} (key : ByteArray) (h : NoKv w p) : Calls Tryz.prog 10 #[.pointer p, .string key] w fun e w' => e = .returned (.tuple #[enV ((noEn, false) : En × Bool).1, .bool ((noEn, false) : En × Bool).2]) ∧ Below w.heap.size w w' := by
  obtain ⟨X, hX⟩ : ∃ X, w.heap.size = X := ⟨_, rfl⟩
  obtain ⟨W, hW⟩ : ∃ W, w.alloc (.cells #[.string ⟨#[]⟩, .string ⟨#[]⟩, .int .u64 0, .int .u64 0, .int .u64 0, .int .u64 0] TEn) = W := ⟨_, rfl⟩
  have hb0 : Below w.heap.size w W := by rw [← hW]; exact below1 _ _ _
  have k0 : W.heap[X]? = some (.cells #[.string ⟨#[]⟩, .string ⟨#[]⟩, .int .u64 0, .int .u64 0, .int .u64 0, .int .u64 0] TEn (0, 0)) := by rw [← hW, ← hX]; exact heap_alloc_new w _
  have HT := Lib.hid (table_no (h.below hb0))
  have HG := Lib.hid (Kt.get_no key (w := W) (q := none) ⟨.inl rfl⟩)
  clear h
  have HB0 := Lib.hid hb0
  have HK0 := Lib.hid k0
  have HW := Lib.hid hW
  have HX := Lib.hid hX
  clear hX hW hb0 k0
  go_enter Tryz.func10, Tryz.ntmps10
  go_wp2_with fail
  rw [HW.out, HX.out]
  refine HT.out.mono ?_
  rintro e w' ⟨rfl, rfl⟩
  go_wp2_with fail
  refine HG.out.mono ?_
  rintro e w1 ⟨rfl, hb1⟩
  obtain ⟨r, hr⟩ : ∃ r, (none : Option En).getD Kt.noRw = r := ⟨_, rfl⟩
  obtain ⟨b, hb⟩ : ∃ b, (none : Option En).isSome = b := ⟨_, rfl⟩
  unfold Kt.gotR Kt.trV
  rw [hr, hb]
  have HWh := Lib.hid (fun W => whole_any r W)
  unfold enV Kt.trV at HWh
  obtain ⟨W2, hW2⟩ : ∃ W2, w1.alloc (.cells #[.string r.key, .string r.val.v, .int .u64 (r.val.ses : Int), .int .u64 (r.val.lck : Int), .int .u64 (r.made : Int), .int .u64 (r.ix : Int)] 68) = W2 := ⟨_, rfl⟩
  have hb2 : Below w1.heap.size w1 W2 := by rw [← hW2]; exact below1 _ _ _
  have kx := ((hb1.trans (hb2.mono hb1.size)).block X (block_lt HK0.out)).trans HK0.out
  have HKx := Lib.hid kx
  have HB2 : Hid (Below X w W2) := Lib.hid (by rw [← HX.out]; exact HB0.out.trans ((hb1.trans (hb2.mono hb1.size)).mono HB0.out.size))
  have HW2 := Lib.hid hW2
  have HRr := Lib.hid hr
  have HRb := Lib.hid hb
  clear hb1 hb2 kx hW2 hr hb HG HT
  go_wp2_with fail
  rw [HW2.out]
  refine (HWh.out _).mono ?_
  rintro e w3 ⟨rfl, hb3⟩
  have kx := (hb3.block X (block_lt HKx.out)).trans HKx.out
  obtain ⟨d0, d1, d2, d3, d4, d5⟩ := Kt.blk kx
  have z0 := blk_froz kx 0
  have z1 := blk_froz kx 1
  have z2 := blk_froz kx 2
  have z3 := blk_froz kx 3
  have z4 := blk_froz kx 4
  have z5 := blk_froz kx 5
  have hXl := block_lt kx
  have HQ := Lib.hid (setL_all kx [.string r.key, .string r.val.v, .int .u64 (r.val.ses : Int), .int .u64 (r.val.lck : Int), .int .u64 (r.made : Int), .int .u64 (r.ix : Int)] rfl)
  have HB3 : Hid (Below X w w3) := Lib.hid (HB2.out.trans (hb3.mono (by have := HB2.out.size; have := HX.out; omega)))
  clear kx hb3 HWh
  go_wp2
  obtain ⟨q0, q1, q2, q3, q4, q5⟩ := Kt.blk HQ.out
  simp only [setL] at q0 q1 q2 q3 q4 q5
  refine bodyPost_ret (v := .tuple #[enV r, .bool b]) (by simp [results, Tryz.results10, go_sem, q0, q1, q2, q3, q4, q5, enV, Kt.trV]) rfl ?_
  rw [HX.out]
  refine ⟨by rw [← HRr.out, ← HRb.out]; rfl, ?_⟩
  exact below_setL HB3.out (by rw [HX.out]; exact Nat.le_refl _) [.string r.key, .string r.val.v, .int .u64 (r.val.ses : Int), .int .u64 (r.val.lck : Int), .int .u64 (r.made : Int), .int .u64 (r.ix : Int)] 0
end
end Go.Proofs.YtohnkagabpefdaaGreatDoor
