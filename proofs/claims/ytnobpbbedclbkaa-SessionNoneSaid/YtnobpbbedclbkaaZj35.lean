/-
  Close, walked (layer 18).
-/
import Derived.Test.YtnobpbbedclbkaaZj30
import Derived.Test.YtnobpbbedclbkaaZj23
import Derived.Test.YtnobpbbedclbkaaZj22
namespace Go.Proofs.Ytnobpbbedclbkaa
open Go.RowKit Go.Rel
set_option linter.unusedSimpArgs false
set_option linter.unusedVariables false

def sclE (B : Nat) (Bt : Nat) (nid : Nat) (i : Nat) (k : ByteArray) (b : Bool) : Nat → Value
  | 0 | 1 | 2 => .pointer (some ⟨B, 0, none⟩)
  | 3 => .pointer (some ⟨Bt, 0, none⟩)
  | 4 => .int .u64 (nid : Int)
  | 5 => .string k
  | 6 => .int .u64 (i : Int)
  | 7 => .bool b
  | 8 => .bool (!b)
  | _ => undef
section
variable {S : Nat → Prop} {w : World} {B Bt : Nat} {t : Sm}
theorem sclose_no {p : Option Addr} (id i : Nat) (h : NoS w p) (hd : id < 18446744073709551616) : Calls Try.prog 11 #[.pointer p, .int .u64 (id : Int), .int .u64 (i : Int)] w fun e w' => e = .returned (.int .i64 1) ∧ Below w.heap.size w w' := by
  have HT := Lib.hid (table_no h)
  clear h
  go_enter Try.func11, Try.ntmps11
  go_wp2_with fail
  refine HT.out.mono ?_
  rintro e w' ⟨rfl, rfl⟩
  go_wp2
  go_ret
  exact ⟨rfl, Below.refl _ _⟩
/-- What Drop tells, and leaves. -/
theorem SsRel.off {T : Tb Int} (hr : SsRel digH (fun v : Int => v) T t) {nid i : Nat} (hd : nid < 18446744073709551616) (hi : i < 18446744073709551616) : SsRel digH (fun v : Int => v) (T.dropT (keyS digH nid) i) (t.closeS nid i).2 ∧ (t.closeS nid i).1 = (if (getR T.l (keyS digH nid)).isSome then 0 else 4) := by
  have hget := hr.get digH_lt hd
  unfold Tb.dropT
  cases e : getR T.l (keyS digH nid) with
  | none =>
    rw [e] at hget
    have e1 : t.closeS nid i = (4, t) := by unfold Ls.closeS; rw [← hget]; rfl
    rw [e1]
    exact ⟨hr, rfl⟩
  | some r =>
    rw [e] at hget
    have hg : getS t.l nid = some (snOf (fun v : Int => v) r) := hget.symm
    have e1 : (t.closeS nid i).1 = 0 := by unfold Ls.closeS; rw [hg]
    rw [e1]
    exact ⟨hr.drop_ digH_lt hd hi hg, rfl⟩
set_option maxHeartbeats 4000000 in
set_option maxRecDepth 100000 in
theorem sclose_any (nid i : Nat) (h : SAt S w B Bt t) (hd : nid < 18446744073709551616) (hi : i < 18446744073709551616) : Calls Try.prog 11 #[.pointer (some ⟨B, 0, none⟩), .int .u64 (nid : Int), .int .u64 (i : Int)] w fun e w' => e = .returned (.int .i64 ((t.closeS nid i).1 : Int)) ∧ SAt (fun k => S k ∨ w.heap.size ≤ k) w' B Bt (t.closeS nid i).2 ∧ But (· = Bt) w w' := by
  have HT := Lib.hid (table_is h.ptr)
  obtain ⟨hm, kb, T, hr, ht⟩ := h
  have hlb := block_lt kb
  obtain ⟨hrel, hans⟩ := hr.off hd hi
  obtain ⟨k, hk⟩ : ∃ k, keyS digH nid = k := ⟨_, rfl⟩
  have HKey := Lib.hid (fun W => key_any nid W hd)
  rw [hk] at HKey hrel hans
  obtain ⟨t', ht'⟩ : ∃ t', (t.closeS nid i).2 = t' := ⟨_, rfl⟩
  obtain ⟨er, her⟩ : ∃ er, (t.closeS nid i).1 = er := ⟨_, rfl⟩
  obtain ⟨b, hb⟩ : ∃ b, (getR T.l k).isSome = b := ⟨_, rfl⟩
  obtain ⟨T', hT'⟩ : ∃ T', T.dropT k i = T' := ⟨_, rfl⟩
  rw [ht', hT'] at hrel
  rw [her, hb] at hans
  rw [her, ht']
  obtain ⟨W0, hW0⟩ : ∃ W0, w = W0 := ⟨_, rfl⟩
  obtain ⟨S0, hS0⟩ : ∃ S0 : Nat → Prop, S0 = fun k => (S k ∧ k ≠ B) ∧ k < w.heap.size := ⟨_, rfl⟩
  have ht0 : Sx.TAt S0 w Bt T := ht.narrow fun k hk z => by rw [hS0]; exact ⟨z, hk⟩
  have HDr := Lib.hid (fun W (hw : Below W0.heap.size W0 W) => (by
    rw [← hW0] at hw
    have := Sx.drop_any k i (ht0.below hw) hi
    rw [hT', hb] at this
    exact this : Calls Try.prog 31 #[.pointer (some ⟨Bt, 0, none⟩), .string k, .int .u64 (i : Int)] W fun e w' => e = .returned (.bool b) ∧ Sx.TAt (fun k => S0 k ∨ W.heap.size ≤ k) w' Bt T' ∧ But (· = Bt) W w'))
  have HMi : Hid (S0 Bt) := Lib.hid ht0.mine
  have HS : Hid (∀ k, S0 k → (S k ∧ k ≠ B) ∧ k < W0.heap.size) := Lib.hid fun k hk => by rw [hS0] at hk; rw [← hW0]; exact hk
  have HMu : Hid (∀ k, k = Bt → k < W0.heap.size) := Lib.hid fun k e => by rw [e]; exact (HS.out Bt HMi.out).2
  rw [hW0] at kb hlb HT ⊢
  have HKb := Lib.hid kb
  have HLb := Lib.hid hlb
  have HM := Lib.hid hm
  have HRel := Lib.hid hrel
  have HAns := Lib.hid hans
  clear hm kb hr ht hlb hrel hans hk ht' her hb hT' hW0 hS0 ht0 hd hi
  go_enter Try.func11, Try.ntmps11
  go_wp2_with fail
  refine HT.out.mono ?_
  rintro e w' ⟨rfl, rfl⟩
  clear HT
  go_wp2_with fail
  have hre : ∀ w : World, (But (OldB W0)) w w := (fun w => But.refl _ w)
  have hrd : ∀ (f : Nat → Bool) w i, i ≠ 7 → (TI 7 W0 (fun w => Sx.TAt (fun k => (S0 k ∨ W0.heap.size ≤ k) ∧ k < w.heap.size) w Bt T' ∧ But (· = Bt) W0 w)) f w → (TI 7 W0 (fun w => Sx.TAt (fun k => (S0 k ∨ W0.heap.size ≤ k) ∧ k < w.heap.size) w Bt T' ∧ But (· = Bt) W0 w)) (Go.Rel.upd f i) w := (fun _ _ _ hi h => h.read hi)
  refine Go.Rel.wp_tab (by kernel_rfl) (by kernel_rfl) (TI 7 W0 (fun w => Sx.TAt (fun k => (S0 k ∨ W0.heap.size ≤ k) ∧ k < w.heap.size) w Bt T' ∧ But (· = Bt) W0 w)) (But (OldB W0)) hre ((fun _ _ _ h k => h.trans k)) (OldB.drew) TI.start (sclE B Bt nid i k b) (fun _ _ _ => True) (fun i => ([] : List Nat).contains i) (fun i => ([3, 5, 7] : List Nat).contains i) (by kernel_rfl) (fun _ _ _ _ h _ => h) 7 rfl hrd ?_ (Go.Rel.AllOf.get ?_) ?_
  · repeat (refine .cons (by first | exact Go.Rel.pure_sp rfl | exact Go.Rel.pure_yes (by kernel_rfl) (fun _ => by kernel_rfl) | exact Go.Rel.pure_no (by kernel_rfl) rfl) ?_)
    exact .nil
  · refine ⟨?_, ?_, ?_, trivial⟩
    · exact SpecOk.ld hrd hre (q := .pointer (some ⟨B, 0, none⟩)) (h := fun _ w' hI _ hdesc _ _ => by have cb := cellsN ((hI.ahead (hdesc 60 7 (by kernel_rfl))).block B (block_lt HKb.out) |>.trans HKb.out) 0 _ rfl; go_simp; rfl)
    · refine SpecOk.gen (fun e => [(14, .int .u64 (nid : Int))]) rfl rfl (fun _ => by kernel_rfl) fun f w' e hI hf hdesc hanc hle hX K hK => ?_
      go_simp
      have zL : f 7 = false := hdesc 60 7 (by kernel_rfl)
      refine (HKey.out w').mono ?_
      rintro e w2 ⟨rfl, hb9⟩
      exact hK _ _ (But.of_below hb9) (hI.below zL hb9 (by decide)) rfl
    · refine SpecOk.call 31 #[.pointer (some ⟨Bt, 0, none⟩), .string k, .int .u64 (i : Int)] rfl (by kernel_rfl) (fun _ => by kernel_rfl) fun _ w' hI hf _ _ _ => ?_
      refine (HDr.out w' (hI.ahead hf)).mono ?_
      rintro e9 w9 ⟨rfl, h9, hb9⟩
      exact ⟨_, rfl, (But.oldB hb9 HMu.out), (TI.last ⟨h9.narrow fun k hk z => ⟨z.imp id fun z => Nat.le_trans (hI.ahead hf).size z, hk⟩, (But.of_below (hI.ahead hf)).trans hb9⟩), rfl⟩
  · intro f w2 e hall hJ hle hv
    have HJ := Lib.hid (hJ.done_ (hall 7 (by decide)))
    have v8 := hv 8 rfl
    simp only [Go.Rel.finL, List.setIfInBounds_toArray, List.set_cons_succ, List.set_cons_zero]
    rw [show e 8 = .bool (!b) from v8]
    have HFin : Hid (SAt (fun k => S k ∨ W0.heap.size ≤ k) w2 B Bt t' ∧ But (· = Bt) W0 w2) := Lib.hid (by
      obtain ⟨h1, h3⟩ := HJ.out
      refine ⟨⟨.inl HM.out, (h3.block B (block_lt HKb.out) fun e => (HS.out Bt HMi.out).1.2 e.symm).trans HKb.out, T', HRel.out, h1.narrow fun k _ z => ?_⟩, h3⟩
      rcases z.1 with z | z
      · exact ⟨.inl (HS.out k z).1.1, (HS.out k z).1.2⟩
      · have := HLb.out
        exact ⟨.inr z, by omega⟩)
    clear hv hall hle hJ HJ v8 HDr HRel
    cases b with
    | true =>
      obtain rfl : er = 0 := HAns.out
      go_wp2
      go_ret
      exact ⟨rfl, HFin.out⟩
    | false =>
      obtain rfl : er = 4 := HAns.out
      go_wp2
      go_ret
      exact ⟨rfl, HFin.out⟩
end
end Go.Proofs.Ytnobpbbedclbkaa
