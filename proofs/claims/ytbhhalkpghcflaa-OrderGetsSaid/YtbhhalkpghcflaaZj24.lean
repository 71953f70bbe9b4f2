/-
  How a field is read by its access (layer 20).
-/
import Derived.Test.YtbhhalkpghcflaaZj20
import Derived.Test.YtbhhalkpghcflaaZj23
import Derived.Test.YtbhhalkpghcflaaZj10
namespace Go.Proofs.Ytbhhalkpghcflaa
open Go.RowKit Go.Rel
set_option linter.unusedSimpArgs false
set_option linter.unusedVariables false

/-- What is known while a field is read: the reader, the box, the access's own box. -/
structure Rz (S : Nat → Prop) (R B o b : Nat) (w0 : World) (s : St) (cur : Array Value) (w : World) : Prop where
  rd : RdAt S w R s
  box : w.heap[B]? = some (.cells cur TCm (0, 0))
  ptr : w.cell? ⟨b, 0, none⟩ = some (.pointer (some ⟨B, o, none⟩))
  but : But (fun k => k = R ∨ k = B) w0 w
theorem Rz.drew {S : Nat → Prop} {R B o b : Nat} {w0 w : World} {s : St} {cur : Array Value} (h : Rz S R B o b w0 s cur w) : Rz S R B o b w0 s cur { w with drawn := w.drawn + 1 } := ⟨h.rd.below (Below.refl _ w).drew, h.box, h.ptr, h.but.drew⟩
theorem Rz.read {S : Nat → Prop} {R B o b : Nat} {w0 w w' : World} {s s' : St} {cur : Array Value} (h : Rz S R B o b w0 s cur w) (hB : B ≠ R) (hb : b ≠ R) (hr : RdAt S w' R s') (hw : But (fun k => k = R) w w') : Rz S R B o b w0 s' cur w' :=
  ⟨hr, (hw.block B (block_lt h.box) hB).trans h.box, (hw.cell (World.block_lt_of_cell? _ _ h.ptr) hb).trans h.ptr, h.but.trans (hw.mono fun k hk => .inl hk)⟩
theorem Rz.set {S : Nat → Prop} {R B o b : Nat} {w0 w : World} {s : St} {cur : Array Value} (h : Rz S R B o b w0 s cur w) (hS : S B) (hB : B ≠ R) (hb : b ≠ B) (v : Value) : Rz S R B o b w0 s (cur.setIfInBounds o v) (w.setCell ⟨B, o, none⟩ v) :=
  ⟨h.rd.but (S' := fun k => k = B) (But.set (S := fun k => k = B) w (p := ⟨B, o, none⟩) rfl v) (fun k hk => hk ▸ hS) (fun e => hB e.symm), block_set h.box o v, by
    have := But.set (S := fun k => k = B) w (p := ⟨B, o, none⟩) rfl v
    exact (this.cell (World.block_lt_of_cell? _ _ h.ptr) hb).trans h.ptr, h.but.trans (But.set (S := fun k => k = R ∨ k = B) w (p := ⟨B, o, none⟩) (.inr rfl) v)⟩
theorem Rz.cellB {S : Nat → Prop} {R B o b : Nat} {w0 w : World} {s : St} {cur : Array Value} (h : Rz S R B o b w0 s cur w) (ho : o < cur.size) : (∃ u, w.cell? ⟨B, o, none⟩ = some u) ∧ w.frozen? ⟨B, o, none⟩ = false := by
  refine ⟨⟨cur[o], ?_⟩, ?_⟩
  · rw [cell_of_row w B o cur TCm (0, 0) h.box, Array.getElem?_eq_getElem ho]
  · unfold World.frozen?
    rw [h.box]
    simp
theorem st_int (w : World) (p : Addr) (z : Int) (h : (∃ u, w.cell? p = some u) ∧ w.frozen? p = false) : (storeVar 3 p (.int .i64 z)).run Try.prog w = .ok () (w.setCell p (.int .i64 z)) := by
  obtain ⟨⟨u, hc⟩, hf⟩ := h
  simp [storeVar, go_sem, hc, hf]
theorem st_str (w : World) (p : Addr) (z : ByteArray) (h : (∃ u, w.cell? p = some u) ∧ w.frozen? p = false) : (storeVar 9 p (.string z)).run Try.prog w = .ok () (w.setCell p (.string z)) := by
  obtain ⟨⟨u, hc⟩, hf⟩ := h
  simp [storeVar, go_sem, hc, hf]
theorem st_texts (w : World) (p : Addr) (A : Option Addr) (n c : Nat) (h : (∃ u, w.cell? p = some u) ∧ w.frozen? p = false) : (storeVar 22 p (.slice A n c)).run Try.prog w = .ok () (w.setCell p (.slice A n c)) := by
  obtain ⟨⟨u, hc⟩, hf⟩ := h
  simp [storeVar, go_sem, hc, hf]
theorem st_subs (w : World) (p : Addr) (A : Option Addr) (n c : Nat) (h : (∃ u, w.cell? p = some u) ∧ w.frozen? p = false) : (storeVar 24 p (.slice A n c)).run Try.prog w = .ok () (w.setCell p (.slice A n c)) := by
  obtain ⟨⟨u, hc⟩, hf⟩ := h
  simp [storeVar, go_sem, hc, hf]
theorem st_flag (w : World) (p : Addr) (z : Bool) (h : (∃ u, w.cell? p = some u) ∧ w.frozen? p = false) : (storeVar 4 p (.bool z)).run Try.prog w = .ok () (w.setCell p (.bool z)) := by
  obtain ⟨⟨u, hc⟩, hf⟩ := h
  simp [storeVar, go_sem, hc, hf]
theorem st_idx (w : World) (p : Addr) (z : Int) (h : (∃ u, w.cell? p = some u) ∧ w.frozen? p = false) : (storeVar 23 p (.int .u64 z)).run Try.prog w = .ok () (w.setCell p (.int .u64 z)) := by
  obtain ⟨⟨u, hc⟩, hf⟩ := h
  simp [storeVar, go_sem, hc, hf]
/-- What a field's reading leaves. -/
def ReadF (S : Nat → Prop) (R B o : Nat) (w : World) (s : St) (cur : Array Value) (v : Value) (e : Ending) (w' : World) : Prop := e = .returned (.tuple #[]) ∧ RdAt S w' R s ∧ w'.heap[B]? = some (.cells (cur.setIfInBounds o v) TCm (0, 0)) ∧ But (fun k => k = R ∨ k = B) w w'
end Go.Proofs.Ytbhhalkpghcflaa
/-
  How a field is read by its access: numbers, texts, flags, indexes, tags (layer 20).
-/
namespace Go.Proofs.Ytbhhalkpghcflaa
open Go.RowKit Go.Rel
set_option linter.unusedSimpArgs false
set_option linter.unusedVariables false

/-- What has been done of a field's reading. -/
def RzI (S : Nat → Prop) (R B o b : Nat) (w0 : World) (s s' : St) (cur : Array Value) (v : Value) (ic is : Nat) (f : Nat → Bool) (w : World) : Prop := Rz S R B o b w0 (if f ic then s' else s) (if f is then cur.setIfInBounds o v else cur) w
section
variable {S : Nat → Prop} {R B o b : Nat} {w0 w w' : World} {s s' : St} {cur : Array Value} {v : Value} {ic is i : Nat} {f : Nat → Bool}
theorem RzI.upd (h : RzI S R B o b w0 s s' cur v ic is f w) (h1 : ic ≠ i) (h2 : is ≠ i) : RzI S R B o b w0 s s' cur v ic is (Go.Rel.upd f i) w := by
  unfold RzI Go.Rel.upd at *
  rw [show (ic == i) = false by simpa using h1, show (is == i) = false by simpa using h2, Bool.false_or, Bool.false_or]
  exact h
theorem RzI.read (h : RzI S R B o b w0 s s' cur v ic is f w) (hf : f ic = false) (hd : f is = false) (hne : is ≠ ic) (hB : B ≠ R) (hb : b ≠ R) (hr : RdAt S w' R s') (hw : But (fun k => k = R) w w') : RzI S R B o b w0 s s' cur v ic is (Go.Rel.upd f ic) w' := by
  unfold RzI Go.Rel.upd at *
  rw [hf, hd] at h
  rw [show (is == ic) = false by simpa using hne, hd]
  simp only [beq_self_eq_true, Bool.true_or, Bool.false_or, if_true, Bool.false_eq_true, if_false] at h ⊢
  exact h.read hB hb hr hw
theorem RzI.before (h : RzI S R B o b w0 s s' cur v ic is f w) (hf : f ic = false) : RdAt S w R s := by
  unfold RzI at h
  rw [hf] at h
  exact h.rd
theorem RzI.store (h : RzI S R B o b w0 s s' cur v ic is f w) (hf : f ic = true) (hd : f is = false) (hne : ic ≠ is) (hS : S B) (hB : B ≠ R) (hb : b ≠ B) : RzI S R B o b w0 s s' cur v ic is (Go.Rel.upd f is) (w.setCell ⟨B, o, none⟩ v) := by
  unfold RzI Go.Rel.upd at *
  rw [hf, hd] at h
  rw [show (ic == is) = false by simpa using hne, hf]
  simp only [beq_self_eq_true, Bool.true_or, Bool.false_or, if_true, Bool.false_eq_true, if_false] at h ⊢
  exact h.set hS hB hb v
theorem RzI.cell (h : RzI S R B o b w0 s s' cur v ic is f w) (hd : f is = false) (ho : o < cur.size) : (∃ u, w.cell? ⟨B, o, none⟩ = some u) ∧ w.frozen? ⟨B, o, none⟩ = false := by
  unfold RzI at h
  rw [hd] at h
  exact h.cellB ho
end
def numE (R B o : Nat) (x y : Value) : Nat → Value
  | 0 | 4 => .pointer (some ⟨B, o, none⟩)
  | 1 => .pointer (some ⟨R, 0, none⟩)
  | 2 => x
  | 3 => y
  | _ => undef
set_option maxHeartbeats 1000000 in
theorem num_fread (S : Nat → Prop) (R B o b : Nat) (s : St) (cur : Array Value) (w : World) (h : Rz S R B o b w s cur w) (hS : S B) (hB : B ≠ R) (hbR : b ≠ R) (hbB : b ≠ B) (ho : o < cur.size) :
    Calls Try.prog 60 #[.pointer (some ⟨R, 0, none⟩), .pointer (some ⟨b, 0, none⟩)] w (ReadF S R B o w ((itNum 65535).next s) cur (.int .i64 ((itNum 65535).out s : Int))) := by
  have CN : Hid (∀ W, RdAt S W R s → Calls Try.prog 25 #[.pointer (some ⟨R, 0, none⟩), .int .u64 65535] W (Reads S R W (u64V ((itNum 65535).out s)) ((itNum 65535).next s))) := Lib.hid (fun W hr => rNum_any S R 65535 s W hr (by decide))
  have hz : (itNum 65535).out s ≤ 65535 := by
    unfold It.out
    split
    · exact Nat.zero_le _
    · split
      · exact Nat.zero_le _
      · next h0 => exact (errNum_zero (most := 65535) (show (itNum 65535).err s.b = 0 by simpa using h0)).2
  obtain ⟨z, hzz⟩ : ∃ z, (itNum 65535).out s = z := ⟨_, rfl⟩
  obtain ⟨s', hs'⟩ : ∃ s', (itNum 65535).next s = s' := ⟨_, rfl⟩
  rw [hzz, hs'] at CN ⊢
  rw [hzz] at hz
  have HR := Lib.hid h
  clear h hzz hs'
  go_enter Try.func60, Try.ntmps60
  refine Go.Rel.wp_tabq (by kernel_rfl) (by kernel_rfl) (RzI S R B o b w s s' cur (.int .i64 (z : Int)) 2 5) (fun _ _ => True) (fun _ => trivial) (fun _ _ _ _ _ => trivial) trivial HR.out.drew (numE R B o (u64V z) (.int .i64 (z : Int))) (fun _ _ _ => True) (fun _ => false) (fun i => ([0, 2, 3, 5] : List Nat).contains i) (by kernel_rfl) (fun _ _ _ _ h _ => h) (fun f W i hi hI => hI.upd (fun e => by subst e; cases hi) (fun e => by subst e; cases hi)) (fun _ _ => False) (fun _ _ _ _ h => h.elim) ?_ (Go.Rel.AllOf.get ?_) ?_
  · repeat (refine .cons (by first | exact Go.Rel.pure_sp rfl | exact Go.Rel.pure_yes (by kernel_rfl) (fun _ => by kernel_rfl)) ?_)
    exact .nil
  · refine ⟨?_, ?_, ?_, ?_, trivial⟩
    · exact SpecQ.ldq (T := 93) (q := .pointer (some ⟨b, 0, none⟩)) (fun f W hI => hI.upd (by decide) (by decide)) (fun _ => trivial) (h := fun f W hI _ _ _ _ => by have hp := hI.ptr; go_simp; rfl)
    · exact SpecQ.call 25 #[.pointer (some ⟨R, 0, none⟩), .int .u64 65535] rfl (by kernel_rfl) (fun _ => by kernel_rfl) fun f W hI hf hd ha _ => (CN.out W (hI.before hf)).mono fun e W2 ⟨he, hr, hb⟩ => .inl ⟨_, he, trivial, hI.read hf (hd 3 5 (by kernel_rfl)) (by decide) hB hbR hr hb, rfl⟩
    · exact SpecQ.rdq [(5, u64V z)] (by kernel_rfl) rfl (fun f W hI => hI.upd (by decide) (by decide)) (fun _ => trivial) (h := fun f W hI _ _ _ _ => by
        have e1 : IntKind.i64.wrap (z : Int) = (z : Int) := IntWalk.i64_in _ (by omega)
        unfold u64V
        go_simp
        rfl)
    · exact SpecQ.st (T := 3) (q := ⟨B, o, none⟩) (v := .int .i64 (z : Int)) (h := fun f W hI hf _ ha _ => ⟨_, st_int W _ _ (hI.cell hf ho), trivial, hI.store (ha 3 2 (by kernel_rfl)) hf (by decide) hS hB hbB⟩)
  · intro f W e hall hI _ hv
    have h2 := hall 2 (by decide)
    have h5 := hall 5 (by decide)
    unfold RzI at hI
    rw [h2, h5] at hI
    simp only [if_true] at hI
    exact ⟨rfl, _, results_none rfl _ _ _, rfl, hI.rd, hI.box, hI.but⟩
def textE (R B o : Nat) (x y : Value) : Nat → Value
  | 0 | 3 => .pointer (some ⟨B, o, none⟩)
  | 1 => .pointer (some ⟨R, 0, none⟩)
  | 2 => x
  | _ => undef
set_option maxHeartbeats 1000000 in
theorem text_fread (S : Nat → Prop) (R B o b : Nat) (s : St) (cur : Array Value) (w : World) (h : Rz S R B o b w s cur w) (hS : S B) (hB : B ≠ R) (hbR : b ≠ R) (hbB : b ≠ B) (ho : o < cur.size) :
    Calls Try.prog 66 #[.pointer (some ⟨R, 0, none⟩), .pointer (some ⟨b, 0, none⟩)] w (ReadF S R B o w ((itText 80).next s) cur (strV ((itText 80).out s))) := by
  have CN : Hid (∀ W, RdAt S W R s → Calls Try.prog 67 #[.pointer (some ⟨R, 0, none⟩), .int .i64 80] W (Reads S R W (strV ((itText 80).out s)) ((itText 80).next s))) := Lib.hid (fun W hr => rText_any S R 80 s W hr (by decide))
  obtain ⟨z, hzz⟩ : ∃ z, (itText 80).out s = z := ⟨_, rfl⟩
  obtain ⟨s', hs'⟩ : ∃ s', (itText 80).next s = s' := ⟨_, rfl⟩
  rw [hzz, hs'] at CN ⊢
  have HR := Lib.hid h
  clear h hzz hs'
  go_enter Try.func66, Try.ntmps66
  refine Go.Rel.wp_tabq (by kernel_rfl) (by kernel_rfl) (RzI S R B o b w s s' cur (strV z) 2 4) (fun _ _ => True) (fun _ => trivial) (fun _ _ _ _ _ => trivial) trivial HR.out.drew (textE R B o (strV z) (strV z)) (fun _ _ _ => True) (fun _ => false) (fun i => ([0, 2, 4] : List Nat).contains i) (by kernel_rfl) (fun _ _ _ _ h _ => h) (fun f W i hi hI => hI.upd (fun e => by subst e; cases hi) (fun e => by subst e; cases hi)) (fun _ _ => False) (fun _ _ _ _ h => h.elim) ?_ (Go.Rel.AllOf.get ?_) ?_
  · repeat (refine .cons (by first | exact Go.Rel.pure_sp rfl | exact Go.Rel.pure_yes (by kernel_rfl) (fun _ => by kernel_rfl)) ?_)
    exact .nil
  · refine ⟨?_, ?_, ?_, trivial⟩
    · exact SpecQ.ldq (T := 95) (q := .pointer (some ⟨b, 0, none⟩)) (fun f W hI => hI.upd (by decide) (by decide)) (fun _ => trivial) (h := fun f W hI _ _ _ _ => by have hp := hI.ptr; go_simp; rfl)
    · exact SpecQ.call 67 #[.pointer (some ⟨R, 0, none⟩), .int .i64 80] rfl (by kernel_rfl) (fun _ => by kernel_rfl) fun f W hI hf hd ha _ => (CN.out W (hI.before hf)).mono fun e W2 ⟨he, hr, hb⟩ => .inl ⟨_, he, trivial, hI.read hf (hd 3 4 (by kernel_rfl)) (by decide) hB hbR hr hb, rfl⟩
    · exact SpecQ.st (T := 9) (q := ⟨B, o, none⟩) (v := strV z) (h := fun f W hI hf _ ha _ => ⟨_, st_str W _ _ (hI.cell hf ho), trivial, hI.store (ha 3 2 (by kernel_rfl)) hf (by decide) hS hB hbB⟩)
  · intro f W e hall hI _ hv
    have h2 := hall 2 (by decide)
    have h5 := hall 4 (by decide)
    unfold RzI at hI
    rw [h2, h5] at hI
    simp only [if_true] at hI
    exact ⟨rfl, _, results_none rfl _ _ _, rfl, hI.rd, hI.box, hI.but⟩
def flagE (R B o : Nat) (x y : Value) : Nat → Value
  | 0 | 3 => .pointer (some ⟨B, o, none⟩)
  | 1 => .pointer (some ⟨R, 0, none⟩)
  | 2 => x
  | _ => undef
set_option maxHeartbeats 1000000 in
theorem flag_fread (S : Nat → Prop) (R B o b : Nat) (s : St) (cur : Array Value) (w : World) (h : Rz S R B o b w s cur w) (hS : S B) (hB : B ≠ R) (hbR : b ≠ R) (hbB : b ≠ B) (ho : o < cur.size) :
    Calls Try.prog 79 #[.pointer (some ⟨R, 0, none⟩), .pointer (some ⟨b, 0, none⟩)] w (ReadF S R B o w (itFlag.next s) cur (.bool (itFlag.out s))) := by
  have CN : Hid (∀ W, RdAt S W R s → Calls Try.prog 80 #[.pointer (some ⟨R, 0, none⟩)] W (Reads S R W (.bool (itFlag.out s)) (itFlag.next s))) := Lib.hid (fun W hr => rFlag_any S R s W hr)
  obtain ⟨z, hzz⟩ : ∃ z, itFlag.out s = z := ⟨_, rfl⟩
  obtain ⟨s', hs'⟩ : ∃ s', itFlag.next s = s' := ⟨_, rfl⟩
  rw [hzz, hs'] at CN ⊢
  have HR := Lib.hid h
  clear h hzz hs'
  go_enter Try.func79, Try.ntmps79
  refine Go.Rel.wp_tabq (by kernel_rfl) (by kernel_rfl) (RzI S R B o b w s s' cur (.bool z) 2 4) (fun _ _ => True) (fun _ => trivial) (fun _ _ _ _ _ => trivial) trivial HR.out.drew (flagE R B o (.bool z) (.bool z)) (fun _ _ _ => True) (fun _ => false) (fun i => ([0, 2, 4] : List Nat).contains i) (by kernel_rfl) (fun _ _ _ _ h _ => h) (fun f W i hi hI => hI.upd (fun e => by subst e; cases hi) (fun e => by subst e; cases hi)) (fun _ _ => False) (fun _ _ _ _ h => h.elim) ?_ (Go.Rel.AllOf.get ?_) ?_
  · repeat (refine .cons (by first | exact Go.Rel.pure_sp rfl | exact Go.Rel.pure_yes (by kernel_rfl) (fun _ => by kernel_rfl)) ?_)
    exact .nil
  · refine ⟨?_, ?_, ?_, trivial⟩
    · exact SpecQ.ldq (T := 99) (q := .pointer (some ⟨b, 0, none⟩)) (fun f W hI => hI.upd (by decide) (by decide)) (fun _ => trivial) (h := fun f W hI _ _ _ _ => by have hp := hI.ptr; go_simp; rfl)
    · exact SpecQ.call 80 #[.pointer (some ⟨R, 0, none⟩)] rfl (by kernel_rfl) (fun _ => by kernel_rfl) fun f W hI hf hd ha _ => (CN.out W (hI.before hf)).mono fun e W2 ⟨he, hr, hb⟩ => .inl ⟨_, he, trivial, hI.read hf (hd 3 4 (by kernel_rfl)) (by decide) hB hbR hr hb, rfl⟩
    · exact SpecQ.st (T := 4) (q := ⟨B, o, none⟩) (v := .bool z) (h := fun f W hI hf _ ha _ => ⟨_, st_flag W _ _ (hI.cell hf ho), trivial, hI.store (ha 3 2 (by kernel_rfl)) hf (by decide) hS hB hbB⟩)
  · intro f W e hall hI _ hv
    have h2 := hall 2 (by decide)
    have h5 := hall 4 (by decide)
    unfold RzI at hI
    rw [h2, h5] at hI
    simp only [if_true] at hI
    exact ⟨rfl, _, results_none rfl _ _ _, rfl, hI.rd, hI.box, hI.but⟩
def idxE (R B o : Nat) (x y : Value) : Nat → Value
  | 0 | 3 => .pointer (some ⟨B, o, none⟩)
  | 1 => .pointer (some ⟨R, 0, none⟩)
  | 2 => x
  | _ => undef
set_option maxHeartbeats 1000000 in
theorem idx_fread (S : Nat → Prop) (R B o b : Nat) (s : St) (cur : Array Value) (w : World) (h : Rz S R B o b w s cur w) (hS : S B) (hB : B ≠ R) (hbR : b ≠ R) (hbB : b ≠ B) (ho : o < cur.size) :
    Calls Try.prog 84 #[.pointer (some ⟨R, 0, none⟩), .pointer (some ⟨b, 0, none⟩)] w (ReadF S R B o w ((itNum c64).next s) cur (u64V ((itNum c64).out s))) := by
  have CN : Hid (∀ W, RdAt S W R s → Calls Try.prog 25 #[.pointer (some ⟨R, 0, none⟩), .int .u64 18446744073709551615] W (Reads S R W (u64V ((itNum c64).out s)) ((itNum c64).next s))) := Lib.hid (fun W hr => rNum_any S R c64 s W hr (by decide))
  obtain ⟨z, hzz⟩ : ∃ z, (itNum c64).out s = z := ⟨_, rfl⟩
  obtain ⟨s', hs'⟩ : ∃ s', (itNum c64).next s = s' := ⟨_, rfl⟩
  rw [hzz, hs'] at CN ⊢
  have HR := Lib.hid h
  clear h hzz hs'
  go_enter Try.func84, Try.ntmps84
  refine Go.Rel.wp_tabq (by kernel_rfl) (by kernel_rfl) (RzI S R B o b w s s' cur (u64V z) 2 4) (fun _ _ => True) (fun _ => trivial) (fun _ _ _ _ _ => trivial) trivial HR.out.drew (idxE R B o (u64V z) (u64V z)) (fun _ _ _ => True) (fun _ => false) (fun i => ([0, 2, 4] : List Nat).contains i) (by kernel_rfl) (fun _ _ _ _ h _ => h) (fun f W i hi hI => hI.upd (fun e => by subst e; cases hi) (fun e => by subst e; cases hi)) (fun _ _ => False) (fun _ _ _ _ h => h.elim) ?_ (Go.Rel.AllOf.get ?_) ?_
  · repeat (refine .cons (by first | exact Go.Rel.pure_sp rfl | exact Go.Rel.pure_yes (by kernel_rfl) (fun _ => by kernel_rfl)) ?_)
    exact .nil
  · refine ⟨?_, ?_, ?_, trivial⟩
    · exact SpecQ.ldq (T := 101) (q := .pointer (some ⟨b, 0, none⟩)) (fun f W hI => hI.upd (by decide) (by decide)) (fun _ => trivial) (h := fun f W hI _ _ _ _ => by have hp := hI.ptr; go_simp; rfl)
    · exact SpecQ.call 25 #[.pointer (some ⟨R, 0, none⟩), .int .u64 18446744073709551615] rfl (by kernel_rfl) (fun _ => by kernel_rfl) fun f W hI hf hd ha _ => (CN.out W (hI.before hf)).mono fun e W2 ⟨he, hr, hb⟩ => .inl ⟨_, he, trivial, hI.read hf (hd 3 4 (by kernel_rfl)) (by decide) hB hbR hr hb, rfl⟩
    · exact SpecQ.st (T := 23) (q := ⟨B, o, none⟩) (v := u64V z) (h := fun f W hI hf _ ha _ => ⟨_, st_idx W _ _ (hI.cell hf ho), trivial, hI.store (ha 3 2 (by kernel_rfl)) hf (by decide) hS hB hbB⟩)
  · intro f W e hall hI _ hv
    have h2 := hall 2 (by decide)
    have h5 := hall 4 (by decide)
    unfold RzI at hI
    rw [h2, h5] at hI
    simp only [if_true] at hI
    exact ⟨rfl, _, results_none rfl _ _ _, rfl, hI.rd, hI.box, hI.but⟩
/-- A row of texts that was told: it lies in new memory. -/
def ToldT (w0 : World) (vs : List Value) (v : Value) (w : World) : Prop := ∃ A c, v = .slice A vs.length c ∧ RV w A vs.length vs ∧ ∀ b off, A = some ⟨b, off, none⟩ → 0 < vs.length → w0.heap.size ≤ b
theorem ToldT.but {w0 w w' : World} {vs : List Value} {v : Value} {S : Nat → Prop} (h : ToldT w0 vs v w) (hb : But S w w') (hS : ∀ k, S k → k < w0.heap.size) : ToldT w0 vs v w' := by
  obtain ⟨A, c, h1, h2, h3⟩ := h
  exact ⟨A, c, h1, h2.but hb (fun b off e hn hs => by have := h3 b off e hn; have := hS b hs; omega), h3⟩
/-- What has been done of the tags' reading. -/
def RtI (S : Nat → Prop) (R B o b : Nat) (w0 : World) (s s' : St) (cur : Array Value) (vs : List Value) (f : Nat → Bool) (w : World) : Prop :=
  (f 4 = false → Rz S R B o b w0 (if f 2 then s' else s) cur w) ∧ (f 4 = true → ∃ v, ToldT w0 vs v w ∧ Rz S R B o b w0 s' (cur.setIfInBounds o v) w)
theorem RtI.upd {S : Nat → Prop} {R B o b : Nat} {w0 w : World} {s s' : St} {cur : Array Value} {vs : List Value} {f : Nat → Bool} {i : Nat} (h : RtI S R B o b w0 s s' cur vs f w) (h1 : 2 ≠ i) (h2 : 4 ≠ i) : RtI S R B o b w0 s s' cur vs (Go.Rel.upd f i) w := by
  unfold RtI Go.Rel.upd at *
  rw [show (2 == i) = false by simpa using h1, show (4 == i) = false by simpa using h2, Bool.false_or, Bool.false_or]
  exact h
/-- What the tags' reading leaves. -/
def ReadT (S : Nat → Prop) (R B o : Nat) (w : World) (s : St) (cur : Array Value) (vs : List Value) (e : Ending) (w' : World) : Prop := e = .returned (.tuple #[]) ∧ RdAt S w' R s ∧ (∃ v, ToldT w vs v w' ∧ w'.heap[B]? = some (.cells (cur.setIfInBounds o v) TCm (0, 0))) ∧ But (fun k => k = R ∨ k = B) w w'
def textsE (R B o : Nat) : Nat → Value
  | 0 | 3 => .pointer (some ⟨B, o, none⟩)
  | 1 => .pointer (some ⟨R, 0, none⟩)
  | _ => undef
set_option maxHeartbeats 1000000 in
set_option maxRecDepth 100000 in
theorem texts_fread (S : Nat → Prop) (R B o b : Nat) (s : St) (cur : Array Value) (w : World) (h : Rz S R B o b w s cur w) (hS : S B) (hB : B ≠ R) (hbR : b ≠ R) (hbB : b ≠ B) (ho : o < cur.size) :
    Calls Try.prog 73 #[.pointer (some ⟨R, 0, none⟩), .pointer (some ⟨b, 0, none⟩)] w (ReadT S R B o w ((itText 80).listNext 8 s) cur (((itText 80).listOut 8 s).map strV)) := by
  have CN : Hid (∀ W, RdAt S W R s → Calls Try.prog 74 #[.pointer (some ⟨R, 0, none⟩), .int .i64 8, .int .i64 80] W (ReadsL S R W (((itText 80).listOut 8 s).map strV) ((itText 80).listNext 8 s))) := Lib.hid (fun W hr => rTexts_any S R 8 80 s W hr (by decide) (by decide) (.inl (by decide)))
  obtain ⟨vs, hzz⟩ : ∃ vs, ((itText 80).listOut 8 s).map strV = vs := ⟨_, rfl⟩
  obtain ⟨s', hs'⟩ : ∃ s', (itText 80).listNext 8 s = s' := ⟨_, rfl⟩
  rw [hzz, hs'] at CN ⊢
  have HR := Lib.hid h
  have hlt : ∀ k, (k = R ∨ k = B) → k < w.heap.size := fun k hk => by
    rcases hk with rfl | rfl
    · exact h.rd.lt
    · exact block_lt h.box
  have HLT := Lib.hid hlt
  clear h hzz hs' hlt
  go_enter Try.func73, Try.ntmps73
  refine Go.Rel.wp_tabq (by kernel_rfl) (by kernel_rfl) (fun f W => RtI S R B o b w s s' cur vs f W ∧ But (fun k => k = R ∨ k = B) w W) (fun W W' => But (fun k => k = R ∨ k = B) W W') (fun _ => But.refl _ _) (fun _ _ _ h k => h.trans k) (But.refl _ w).drew ⟨⟨fun _ => HR.out.drew, fun e => by cases e⟩, (But.refl _ w).drew⟩ (textsE R B o) (fun i v W => if i = 2 then ToldT w vs v W else True) (fun i => i == 2) (fun i => ([0, 2, 4] : List Nat).contains i) (by kernel_rfl) (fun i v W W' h hl => ?_) (fun f W i hi hI => ⟨hI.1.upd (fun e => by subst e; cases hi) (fun e => by subst e; cases hi), hI.2⟩) (fun _ _ => False) (fun _ _ _ _ h => h.elim) ?_ (Go.Rel.AllOf.get ?_) ?_
  · by_cases e : i = 2
    · simp only [e, if_true] at h ⊢
      exact h.but hl HLT.out
    · simp only [e, if_false]
  · repeat (refine .cons (by first | exact Go.Rel.pure_sp rfl | exact Go.Rel.pure_yes (by kernel_rfl) (fun _ => by kernel_rfl)) ?_)
    exact .nil
  · refine ⟨?_, ?_, ?_, trivial⟩
    · exact SpecQ.ldq (T := 97) (q := .pointer (some ⟨b, 0, none⟩)) (fun f W hI => ⟨hI.1.upd (by decide) (by decide), hI.2⟩) (fun _ => But.refl _ _) (h := fun f W hI _ hd _ _ => by
        have hp : W.cell? ⟨b, 0, none⟩ = some (.pointer (some ⟨B, o, none⟩)) := by
          cases h4 : f 4 with
          | false => exact (hI.1.1 h4).ptr
          | true => obtain ⟨_, _, hz⟩ := hI.1.2 h4; exact hz.ptr
        go_simp
        rfl)
    · exact SpecQ.call 74 #[.pointer (some ⟨R, 0, none⟩), .int .i64 8, .int .i64 80] rfl (by kernel_rfl) (fun _ => by kernel_rfl) fun f W hI hf hd ha _ => by
        have hz := hI.1.1 (hd 3 4 (by kernel_rfl))
        rw [hf] at hz
        simp only [Bool.false_eq_true, if_false] at hz
        refine (CN.out W hz.rd).mono fun e W2 hp => ?_
        obtain ⟨A, c, he, hrv, hfr, hr, hb⟩ := hp
        have hb2 := hb.mono (S' := fun k => k = R ∨ k = B) (fun k hk => .inl hk)
        refine .inl ⟨_, he, hb2, ⟨⟨fun _ => ?_, fun e => ?_⟩, hI.2.trans hb2⟩, A, c, rfl, hrv, fun b off e hn => Nat.le_trans hI.2.size (hfr b off e hn)⟩
        · show Rz S R B o b w (if Go.Rel.upd f 2 2 then s' else s) cur W2
          rw [show Go.Rel.upd f 2 2 = true from rfl]
          exact hz.read hB hbR hr hb
        · have h4 := hd 3 4 (by kernel_rfl)
          unfold Go.Rel.upd at e
          rw [h4] at e
          cases e
    · refine SpecQ.stx 2 (T := 22) (q := ⟨B, o, none⟩) (hy := fun _ => by kernel_rfl) (hx := fun _ => by kernel_rfl) (h := fun f W v hI hf _ hanc _ hx => ?_)
      have h2 : f 2 = true := hanc 3 2 (by kernel_rfl)
      have hz := hI.1.1 hf
      rw [h2] at hz
      simp only [if_true] at hz hx
      obtain ⟨A, c, he, hrest⟩ := hx
      subst he
      have hsb := But.set (S := fun k => k = R ∨ k = B) W (p := ⟨B, o, none⟩) (.inr rfl) (.slice A vs.length c)
      have hx2 : ToldT w vs (.slice A vs.length c) (W.setCell ⟨B, o, none⟩ (.slice A vs.length c)) := ToldT.but ⟨A, c, rfl, hrest⟩ hsb HLT.out
      refine ⟨_, st_texts W ⟨B, o, none⟩ A vs.length c (hz.cellB ho), hsb, ⟨fun e9 => ?_, fun _ => ⟨_, hx2, hz.set hS hB hbB _⟩⟩, hI.2.trans hsb⟩
      cases e9
  · intro f W e hall hI _ hv
    obtain ⟨v, hx, hz⟩ := hI.1.2 (hall 4 (by decide))
    exact ⟨rfl, _, results_none rfl _ _ _, rfl, hz.rd, ⟨v, hx, hz.box⟩, hI.2⟩
end Go.Proofs.Ytbhhalkpghcflaa
