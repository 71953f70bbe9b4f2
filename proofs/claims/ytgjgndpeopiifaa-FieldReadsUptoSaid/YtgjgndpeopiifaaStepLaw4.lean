/-
  step of the law: one item is read by both readers (layer 4).
-/
import Derived.Test.YtgjgndpeopiifaaDRfD
import Derived.Test.YtgjgndpeopiifaaDSame
import Derived.Test.YtgjgndpeopiifaaDNone
import Derived.Test.YtgjgndpeopiifaaStp
namespace Go.Proofs.Ytgjgndpeopiifaa
open Go.RowKit
set_option linter.unusedSimpArgs false

def stepNext (x : Stp) (s : St) : St :=
  if x.kind = 0 then (itNum x.num).next s else if x.kind = 1 then (itText x.most.toNat).next s else if x.kind = 2 then itFlag.next s else if x.kind = 3 then (itText x.most.toNat).listNext x.many.toNat s else if x.kind = 4 then (itNum x.num).listNext x.many.toNat s else s
theorem stepNext_len (x : Stp) (s : St) : (stepNext x s).b.length ≤ s.b.length := by
  unfold stepNext
  split
  · exact It.next_length _ _
  · split
    · exact It.next_length _ _
    · split
      · exact It.next_length _ _
      · split
        · exact Nat.le_trans (It.after_length _ _ _) (It.next_length _ _)
        · split
          · exact Nat.le_trans (It.after_length _ _ _) (It.next_length _ _)
          · exact Nat.le_refl _
def Both (S : Nat → Prop) (br bw : Nat) (x y : St) (w : World) : Prop := RdAt S w br x ∧ RfAt S w bw y
def stepN (_ : Nat → Prop) (br : Nat) (bw : Nat) (bs : Nat) (x : Stp) (V : Value) : Nat → Value → World → Prop
  | 0, v, _ => v = .pointer (some ⟨br, 0, none⟩)
  | 1, v, _ => v = .pointer (some ⟨bs, 3, none⟩)
  | 2, v, _ => v = .int .u64 (x.num : Int)
  | 3, v, _ => v = V
  | 4, v, _ => v = .pointer (some ⟨bw, 0, none⟩)
  | 5, v, _ => v = .pointer (some ⟨bs, 3, none⟩)
  | 6, v, _ => v = .int .u64 (x.num : Int)
  | 7, v, _ => v = V
  | 8, v, _ => v = .bool true
  | 9, v, _ => v = .bool true
  | _, _, _ => True
theorem stepN_stable (S : Nat → Prop) (br : Nat) (bw : Nat) (bs : Nat) (x : Stp) (V : Value) : ∀ i v w w', stepN S br bw bs x V i v w → But S w w' → stepN S br bw bs x V i v w'
  | 0, _, _, _, h, _ | 1, _, _, _, h, _ | 2, _, _, _, h, _ | 3, _, _, _, h, _ | 4, _, _, _, h, _ | 5, _, _, _, h, _ | 6, _, _, _, h, _ | 7, _, _, _, h, _ | 8, _, _, _, h, _ | 9, _, _, _, h, _ => h
  | _ + 10, _, _, _, h, _ => h
def stepT (_ : Nat → Prop) (br : Nat) (bw : Nat) (bs : Nat) (x : Stp) (V : Value) : Nat → Value → World → Prop
  | 0, v, _ => v = .pointer (some ⟨br, 0, none⟩)
  | 1, v, _ => v = .pointer (some ⟨bs, 2, none⟩)
  | 2, v, _ => v = .int .i64 x.most
  | 3, v, _ => v = V
  | 4, v, _ => v = .pointer (some ⟨bw, 0, none⟩)
  | 5, v, _ => v = .pointer (some ⟨bs, 2, none⟩)
  | 6, v, _ => v = .int .i64 x.most
  | 7, v, _ => v = V
  | 8, v, _ => v = .bool true
  | 9, v, _ => v = .bool true
  | _, _, _ => True
theorem stepT_stable (S : Nat → Prop) (br : Nat) (bw : Nat) (bs : Nat) (x : Stp) (V : Value) : ∀ i v w w', stepT S br bw bs x V i v w → But S w w' → stepT S br bw bs x V i v w'
  | 0, _, _, _, h, _ | 1, _, _, _, h, _ | 2, _, _, _, h, _ | 3, _, _, _, h, _ | 4, _, _, _, h, _ | 5, _, _, _, h, _ | 6, _, _, _, h, _ | 7, _, _, _, h, _ | 8, _, _, _, h, _ | 9, _, _, _, h, _ => h
  | _ + 10, _, _, _, h, _ => h
def stepTs (S : Nat → Prop) (br : Nat) (bw : Nat) (bs : Nat) (x : Stp) (vs : List Value) : Nat → Value → World → Prop
  | 0, v, _ => v = .pointer (some ⟨br, 0, none⟩)
  | 1, v, _ => v = .pointer (some ⟨bs, 1, none⟩)
  | 2, v, _ => v = .int .i64 x.many
  | 3, v, _ => v = .pointer (some ⟨bs, 2, none⟩)
  | 4, v, _ => v = .int .i64 x.most
  | 5, v, w => ∃ A c, v = .slice A vs.length c ∧ RVn S w A vs.length vs
  | 6, v, _ => v = .pointer (some ⟨bw, 0, none⟩)
  | 7, v, _ => v = .pointer (some ⟨bs, 1, none⟩)
  | 8, v, _ => v = .int .i64 x.many
  | 9, v, _ => v = .pointer (some ⟨bs, 2, none⟩)
  | 10, v, _ => v = .int .i64 x.most
  | 11, v, w => ∃ A c, v = .slice A vs.length c ∧ RVn S w A vs.length vs
  | 12, v, _ => v = .bool true
  | 13, v, _ => v = .bool true
  | _, _, _ => True
theorem stepTs_stable (S : Nat → Prop) (br : Nat) (bw : Nat) (bs : Nat) (x : Stp) (vs : List Value) : ∀ i v w w', stepTs S br bw bs x vs i v w → But S w w' → stepTs S br bw bs x vs i v w'
  | 0, _, _, _, h, _ | 1, _, _, _, h, _ | 2, _, _, _, h, _ | 3, _, _, _, h, _ | 4, _, _, _, h, _ | 6, _, _, _, h, _ | 7, _, _, _, h, _ | 8, _, _, _, h, _ | 9, _, _, _, h, _ | 10, _, _, _, h, _ | 12, _, _, _, h, _ | 13, _, _, _, h, _ => h
  | 5, _, _, _, ⟨A, c, e, h⟩, g | 11, _, _, _, ⟨A, c, e, h⟩, g => ⟨A, c, e, h.but g⟩
  | _ + 14, _, _, _, h, _ => h
def stepNs (S : Nat → Prop) (br : Nat) (bw : Nat) (bs : Nat) (x : Stp) (vs : List Value) : Nat → Value → World → Prop
  | 0, v, _ => v = .pointer (some ⟨br, 0, none⟩)
  | 1, v, _ => v = .pointer (some ⟨bs, 1, none⟩)
  | 2, v, _ => v = .int .i64 x.many
  | 3, v, _ => v = .pointer (some ⟨bs, 3, none⟩)
  | 4, v, _ => v = .int .u64 (x.num : Int)
  | 5, v, w => ∃ A c, v = .slice A vs.length c ∧ RVn S w A vs.length vs
  | 6, v, _ => v = .pointer (some ⟨bw, 0, none⟩)
  | 7, v, _ => v = .pointer (some ⟨bs, 1, none⟩)
  | 8, v, _ => v = .int .i64 x.many
  | 9, v, _ => v = .pointer (some ⟨bs, 3, none⟩)
  | 10, v, _ => v = .int .u64 (x.num : Int)
  | 11, v, w => ∃ A c, v = .slice A vs.length c ∧ RVn S w A vs.length vs
  | 12, v, _ => v = .bool true
  | 13, v, _ => v = .bool true
  | _, _, _ => True
theorem stepNs_stable (S : Nat → Prop) (br : Nat) (bw : Nat) (bs : Nat) (x : Stp) (vs : List Value) : ∀ i v w w', stepNs S br bw bs x vs i v w → But S w w' → stepNs S br bw bs x vs i v w'
  | 0, _, _, _, h, _ | 1, _, _, _, h, _ | 2, _, _, _, h, _ | 3, _, _, _, h, _ | 4, _, _, _, h, _ | 6, _, _, _, h, _ | 7, _, _, _, h, _ | 8, _, _, _, h, _ | 9, _, _, _, h, _ | 10, _, _, _, h, _ | 12, _, _, _, h, _ | 13, _, _, _, h, _ => h
  | 5, _, _, _, ⟨A, c, e, h⟩, g | 11, _, _, _, ⟨A, c, e, h⟩, g => ⟨A, c, e, h.but g⟩
  | _ + 14, _, _, _, h, _ => h

set_option maxHeartbeats 4000000 in
theorem step_0 (S : Nat → Prop) (br bw : Nat) (x : Stp) (s : St) (w : World) (hS : S br ∧ S bw) (hSlt : ∀ k, S k → k < w.heap.size) (hne : br ≠ bw) (hok : okStp x) (hk : x.kind = 0) (hlen : s.b.length ≤ 1099511627776) (h1 : RdAt S w br s) (h2 : RfAt S w bw s) :
    Calls Try.prog 20 #[.pointer (some ⟨br, 0, none⟩), .pointer (some ⟨bw, 0, none⟩), .agg #[.int .i64 x.kind, .int .i64 x.many, .int .i64 x.most, .int .u64 (x.num : Int)]] w fun e w' => e = .returned (.bool true) ∧ Both S br bw (stepNext x s) (stepNext x s) w' ∧ But S w w' := by
  have hnx : stepNext x s = (itNum x.num).next s := by unfold stepNext; simp [hk]
  rw [hnx]
  obtain ⟨W0, hW0⟩ : ∃ W0, w.alloc (.cells #[.int .i64 x.kind, .int .i64 x.many, .int .i64 x.most, .int .u64 (x.num : Int)] 48) = W0 := ⟨_, rfl⟩
  have hb0 : Below w.heap.size w W0 := by rw [← hW0]; exact (Below.refl _ _).alloc (Nat.le_refl _) _
  obtain ⟨bs, hbs⟩ : ∃ bs, w.heap.size = bs := ⟨_, rfl⟩
  have hbb : W0.heap[bs]? = some (.cells #[.int .i64 x.kind, .int .i64 x.many, .int .i64 x.most, .int .u64 (x.num : Int)] 48 (0, 0)) := by rw [← hW0, ← hbs]; exact heap_alloc_new w _
  have hlt0 : bs < W0.heap.size := (Array.getElem?_eq_some_iff.1 hbb).1
  have hnS : ¬ S bs := fun h => by have := hSlt bs h; omega
  have HC : Hid (∀ w', But S W0 w' → w'.cell? ⟨bs, 0, none⟩ = some (.int .i64 x.kind) ∧ w'.cell? ⟨bs, 1, none⟩ = some (.int .i64 x.many) ∧ w'.cell? ⟨bs, 2, none⟩ = some (.int .i64 x.most) ∧ w'.cell? ⟨bs, 3, none⟩ = some (.int .u64 (x.num : Int))) := Lib.hid (fun w' hb => by
    have j : w'.heap[bs]? = _ := (hb.block bs hlt0 hnS).trans hbb
    exact ⟨by rw [cell_of_row _ _ _ _ _ _ j]; rfl, by rw [cell_of_row _ _ _ _ _ _ j]; rfl, by rw [cell_of_row _ _ _ _ _ _ j]; rfl, by rw [cell_of_row _ _ _ _ _ _ j]; rfl⟩)
  have HS := Lib.hid hS
  have HNe := Lib.hid hne
  have HOk := Lib.hid hok
  have HLen := Lib.hid hlen
  have HSlt : Hid (∀ k, S k → k < W0.heap.size) := Lib.hid (fun k h => by have := hSlt k h; have := hb0.size; omega)
  have H1 : Hid (RdAt S W0 br s) := Lib.hid (h1.below hb0)
  have H2 : Hid (RfAt S W0 bw s) := Lib.hid (h2.below hb0)
  have HB0 : Hid (But S w W0) := Lib.hid (But.of_below hb0)
  have HCall : Hid ((∀ w', RdAt S w' br s → Calls Try.prog 25 #[.pointer (some ⟨br, 0, none⟩), .int .u64 (x.num : Int)] w' (Reads S br w' (u64V ((itNum x.num).out s)) ((itNum x.num).next s))) ∧ (∀ w', RfAt S w' bw s → Calls Try.prog 37 #[.pointer (some ⟨bw, 0, none⟩), .int .u64 (x.num : Int)] w' (ReadsF S bw w' (u64V ((itNum x.num).out s)) ((itNum x.num).next s)))) := Lib.hid ⟨fun w' h => rNum_any S br x.num s w' h HOk.out.2.2, fun w' h => fNum_any S bw x.num s w' h HOk.out.2.2⟩
  unfold u64V at HCall
  obtain ⟨num0, hnum0⟩ : ∃ b : Nat, (itNum x.num).out s = b := ⟨_, rfl⟩
  rw [hnum0] at HCall
  clear hnum0
  obtain ⟨s', hs'⟩ : ∃ s', (itNum x.num).next s = s' := ⟨_, rfl⟩
  rw [hs'] at HCall ⊢
  have HW0 := Lib.hid hW0
  have HBS := Lib.hid hbs
  have ck := (HC.out W0 (But.refl _ _)).1
  rw [← hW0, ← hbs, hk] at ck
  clear hS hSlt hne hok hlen h1 h2 hnx hb0 hbs hbb hlt0 hnS hW0 hs'
  rw [hk]
  go_enter Try.func20, Try.ntmps20
  go_wp2
  have HW0' := HW0.out
  rw [hk] at HW0'
  rw [HW0', HBS.out]
  clear ck HW0'
  refine Go.Rel.wp_region_states (by kernel_rfl) (by kernel_rfl) (by kernel_rfl) (by kernel_rfl) (fun f w => Both S br bw (bif f 3 then s' else s) (bif f 7 then s' else s) w) (But S) (fun _ _ _ h k => h.trans k) ((But.refl _ _).drew) ⟨H1.out, H2.out⟩ (stepN S br bw bs x (.int .u64 (num0 : Int))) (stepN_stable S br bw bs x (.int .u64 (num0 : Int))) ?hsteps ?hend
  case hsteps =>
    refine (.cons ?_ (.cons ?_ (.cons ?_ (.cons ?_ (.cons ?_ (.cons ?_ (.cons ?_ (.cons ?_ (.cons ?_ (.cons ?_ .nil))))))))))
    · intro f a w' hI hf hanc hdesc hle hs' hd K hK
      have f0 : a.tmps[0]? = some (.pointer (some ⟨br, 0, none⟩)) := hs'.2.2 0 (by kernel_rfl)
      unfold Go.Rel.stepOf
      go_simp
      exact hK _ _ (But.refl _ _) (hI) rfl
    · intro f a w' hI hf hanc hdesc hle hs' hd K hK
      have f5 : a.tmps[5]? = some (.pointer (some ⟨bs, 0, none⟩)) := hs'.2.2 5 (by kernel_rfl)
      unfold Go.Rel.stepOf
      go_simp
      exact hK _ _ (But.refl _ _) (hI) rfl
    · intro f a w' hI hf hanc hdesc hle hs' hd K hK
      obtain ⟨_, t1, rfl⟩ := hd 1 12 (by kernel_rfl)
      have cc := (HC.out w' hle).2.2.2
      unfold Go.Rel.stepOf
      go_simp
      exact hK _ _ (But.refl _ _) (hI) rfl
    · intro f a w' hI hf hanc hdesc hle hs' hd K hK
      obtain ⟨_, t0, rfl⟩ := hd 0 11 (by kernel_rfl)
      obtain ⟨_, t2, rfl⟩ := hd 2 13 (by kernel_rfl)
      have hst := hI.1
      rw [hf] at hst
      unfold Go.Rel.stepOf
      go_simp
      refine (HCall.out.1 w' hst).mono ?_
      rintro e w2 ⟨rfl, hr5, hb5⟩
      have hbS : But S w' w2 := hb5.mono (fun k e => e.symm ▸ HS.out.1)
      exact hK _ _ hbS ⟨hr5, hI.2.but hb5 (fun k e => e.symm ▸ HS.out.1) (fun e => HNe.out e.symm)⟩ rfl
    · intro f a w' hI hf hanc hdesc hle hs' hd K hK
      have f1 : a.tmps[1]? = some (.pointer (some ⟨bw, 0, none⟩)) := hs'.2.2 1 (by kernel_rfl)
      unfold Go.Rel.stepOf
      go_simp
      exact hK _ _ (But.refl _ _) (hI) rfl
    · intro f a w' hI hf hanc hdesc hle hs' hd K hK
      have f5 : a.tmps[5]? = some (.pointer (some ⟨bs, 0, none⟩)) := hs'.2.2 5 (by kernel_rfl)
      unfold Go.Rel.stepOf
      go_simp
      exact hK _ _ (But.refl _ _) (hI) rfl
    · intro f a w' hI hf hanc hdesc hle hs' hd K hK
      obtain ⟨_, t5, rfl⟩ := hd 5 16 (by kernel_rfl)
      have cc := (HC.out w' hle).2.2.2
      unfold Go.Rel.stepOf
      go_simp
      exact hK _ _ (But.refl _ _) (hI) rfl
    · intro f a w' hI hf hanc hdesc hle hs' hd K hK
      obtain ⟨_, t4, rfl⟩ := hd 4 15 (by kernel_rfl)
      obtain ⟨_, t6, rfl⟩ := hd 6 17 (by kernel_rfl)
      have hst := hI.2
      rw [hf] at hst
      unfold Go.Rel.stepOf
      go_simp
      refine (HCall.out.2 w' hst).mono ?_
      rintro e w2 ⟨rfl, hr5, hb5⟩
      have hbS : But S w' w2 := hb5.mono (fun k e => e.symm ▸ HS.out.2)
      exact hK _ _ hbS ⟨hI.1.but hb5 (fun k e => e.symm ▸ HS.out.2) (fun e => HNe.out e), hr5⟩ rfl
    · intro f a w' hI hf hanc hdesc hle hs' hd K hK
      obtain ⟨_, t3, rfl⟩ := hd 3 14 (by kernel_rfl)
      obtain ⟨_, t7, rfl⟩ := hd 7 18 (by kernel_rfl)
      unfold Go.Rel.stepOf
      go_simp
      exact hK _ _ (But.refl _ _) (hI) rfl
    · intro f a w' hI hf hanc hdesc hle hs' hd K hK
      obtain ⟨_, t8, rfl⟩ := hd 8 19 (by kernel_rfl)
      unfold Go.Rel.stepOf
      go_simp
      exact hK _ _ (But.refl _ _) (hI) rfl
  case hend =>
    intro f a w2 hall hI hle hs' hR'
    obtain ⟨_, s6, rfl⟩ := hR' 9 6 (by kernel_rfl)
    have hf1 := hall 3 (by decide)
    have hf2 := hall 7 (by decide)
    have hI' : Both S br bw s' s' w2 := by
      have := hI
      simp only [hf1, hf2, cond_true] at this
      exact this
    have hbf : But S w w2 := HB0.out.trans hle
    clear hI
    go_wp2
    refine bodyPost_ret (results_tmp rfl _ _ _) hs'.1 ?_
    exact ⟨by simp [s6], hI', hbf⟩

set_option maxHeartbeats 4000000 in
theorem step_1 (S : Nat → Prop) (br bw : Nat) (x : Stp) (s : St) (w : World) (hS : S br ∧ S bw) (hSlt : ∀ k, S k → k < w.heap.size) (hne : br ≠ bw) (hok : okStp x) (hk : x.kind = 1) (hlen : s.b.length ≤ 1099511627776) (h1 : RdAt S w br s) (h2 : RfAt S w bw s) :
    Calls Try.prog 20 #[.pointer (some ⟨br, 0, none⟩), .pointer (some ⟨bw, 0, none⟩), .agg #[.int .i64 x.kind, .int .i64 x.many, .int .i64 x.most, .int .u64 (x.num : Int)]] w fun e w' => e = .returned (.bool true) ∧ Both S br bw (stepNext x s) (stepNext x s) w' ∧ But S w w' := by
  have hnx : stepNext x s = (itText x.most.toNat).next s := by unfold stepNext; simp [hk]
  rw [hnx]
  obtain ⟨W0, hW0⟩ : ∃ W0, w.alloc (.cells #[.int .i64 x.kind, .int .i64 x.many, .int .i64 x.most, .int .u64 (x.num : Int)] 48) = W0 := ⟨_, rfl⟩
  have hb0 : Below w.heap.size w W0 := by rw [← hW0]; exact (Below.refl _ _).alloc (Nat.le_refl _) _
  obtain ⟨bs, hbs⟩ : ∃ bs, w.heap.size = bs := ⟨_, rfl⟩
  have hbb : W0.heap[bs]? = some (.cells #[.int .i64 x.kind, .int .i64 x.many, .int .i64 x.most, .int .u64 (x.num : Int)] 48 (0, 0)) := by rw [← hW0, ← hbs]; exact heap_alloc_new w _
  have hlt0 : bs < W0.heap.size := (Array.getElem?_eq_some_iff.1 hbb).1
  have hnS : ¬ S bs := fun h => by have := hSlt bs h; omega
  have HC : Hid (∀ w', But S W0 w' → w'.cell? ⟨bs, 0, none⟩ = some (.int .i64 x.kind) ∧ w'.cell? ⟨bs, 1, none⟩ = some (.int .i64 x.many) ∧ w'.cell? ⟨bs, 2, none⟩ = some (.int .i64 x.most) ∧ w'.cell? ⟨bs, 3, none⟩ = some (.int .u64 (x.num : Int))) := Lib.hid (fun w' hb => by
    have j : w'.heap[bs]? = _ := (hb.block bs hlt0 hnS).trans hbb
    exact ⟨by rw [cell_of_row _ _ _ _ _ _ j]; rfl, by rw [cell_of_row _ _ _ _ _ _ j]; rfl, by rw [cell_of_row _ _ _ _ _ _ j]; rfl, by rw [cell_of_row _ _ _ _ _ _ j]; rfl⟩)
  have HS := Lib.hid hS
  have HNe := Lib.hid hne
  have HOk := Lib.hid hok
  have HLen := Lib.hid hlen
  have HSlt : Hid (∀ k, S k → k < W0.heap.size) := Lib.hid (fun k h => by have := hSlt k h; have := hb0.size; omega)
  have H1 : Hid (RdAt S W0 br s) := Lib.hid (h1.below hb0)
  have H2 : Hid (RfAt S W0 bw s) := Lib.hid (h2.below hb0)
  have HB0 : Hid (But S w W0) := Lib.hid (But.of_below hb0)
  have HCall : Hid ((∀ w', RdAt S w' br s → Calls Try.prog 26 #[.pointer (some ⟨br, 0, none⟩), .int .i64 x.most] w' (Reads S br w' (strV ((itText x.most.toNat).out s)) ((itText x.most.toNat).next s))) ∧ (∀ w', RfAt S w' bw s → Calls Try.prog 38 #[.pointer (some ⟨bw, 0, none⟩), .int .i64 x.most] w' (ReadsF S bw w' (strV ((itText x.most.toNat).out s)) ((itText x.most.toNat).next s)))) := Lib.hid ⟨fun w' h => rText_any S br x.most s w' h HOk.out.2.1, fun w' h => fText_any S bw x.most s w' h HOk.out.2.1⟩
  unfold strV at HCall
  obtain ⟨bstr, hbstr⟩ : ∃ b : ByteArray, (⟨((itText x.most.toNat).out s).toArray⟩ : ByteArray) = b := ⟨_, rfl⟩
  rw [hbstr] at HCall
  clear hbstr
  obtain ⟨s', hs'⟩ : ∃ s', (itText x.most.toNat).next s = s' := ⟨_, rfl⟩
  rw [hs'] at HCall ⊢
  have HW0 := Lib.hid hW0
  have HBS := Lib.hid hbs
  have ck := (HC.out W0 (But.refl _ _)).1
  rw [← hW0, ← hbs, hk] at ck
  clear hS hSlt hne hok hlen h1 h2 hnx hb0 hbs hbb hlt0 hnS hW0 hs'
  rw [hk]
  go_enter Try.func20, Try.ntmps20
  go_wp2
  have HW0' := HW0.out
  rw [hk] at HW0'
  rw [HW0', HBS.out]
  clear ck HW0'
  refine Go.Rel.wp_region_states (by kernel_rfl) (by kernel_rfl) (by kernel_rfl) (by kernel_rfl) (fun f w => Both S br bw (bif f 3 then s' else s) (bif f 7 then s' else s) w) (But S) (fun _ _ _ h k => h.trans k) ((But.refl _ _).drew) ⟨H1.out, H2.out⟩ (stepT S br bw bs x (.string bstr)) (stepT_stable S br bw bs x (.string bstr)) ?hsteps ?hend
  case hsteps =>
    refine (.cons ?_ (.cons ?_ (.cons ?_ (.cons ?_ (.cons ?_ (.cons ?_ (.cons ?_ (.cons ?_ (.cons ?_ (.cons ?_ .nil))))))))))
    · intro f a w' hI hf hanc hdesc hle hs' hd K hK
      have f0 : a.tmps[0]? = some (.pointer (some ⟨br, 0, none⟩)) := hs'.2.2 0 (by kernel_rfl)
      unfold Go.Rel.stepOf
      go_simp
      exact hK _ _ (But.refl _ _) (hI) rfl
    · intro f a w' hI hf hanc hdesc hle hs' hd K hK
      have f5 : a.tmps[5]? = some (.pointer (some ⟨bs, 0, none⟩)) := hs'.2.2 5 (by kernel_rfl)
      unfold Go.Rel.stepOf
      go_simp
      exact hK _ _ (But.refl _ _) (hI) rfl
    · intro f a w' hI hf hanc hdesc hle hs' hd K hK
      obtain ⟨_, t1, rfl⟩ := hd 1 23 (by kernel_rfl)
      have cc := (HC.out w' hle).2.2.1
      unfold Go.Rel.stepOf
      go_simp
      exact hK _ _ (But.refl _ _) (hI) rfl
    · intro f a w' hI hf hanc hdesc hle hs' hd K hK
      obtain ⟨_, t0, rfl⟩ := hd 0 22 (by kernel_rfl)
      obtain ⟨_, t2, rfl⟩ := hd 2 24 (by kernel_rfl)
      have hst := hI.1
      rw [hf] at hst
      unfold Go.Rel.stepOf
      go_simp
      refine (HCall.out.1 w' hst).mono ?_
      rintro e w2 ⟨rfl, hr5, hb5⟩
      have hbS : But S w' w2 := hb5.mono (fun k e => e.symm ▸ HS.out.1)
      exact hK _ _ hbS ⟨hr5, hI.2.but hb5 (fun k e => e.symm ▸ HS.out.1) (fun e => HNe.out e.symm)⟩ rfl
    · intro f a w' hI hf hanc hdesc hle hs' hd K hK
      have f1 : a.tmps[1]? = some (.pointer (some ⟨bw, 0, none⟩)) := hs'.2.2 1 (by kernel_rfl)
      unfold Go.Rel.stepOf
      go_simp
      exact hK _ _ (But.refl _ _) (hI) rfl
    · intro f a w' hI hf hanc hdesc hle hs' hd K hK
      have f5 : a.tmps[5]? = some (.pointer (some ⟨bs, 0, none⟩)) := hs'.2.2 5 (by kernel_rfl)
      unfold Go.Rel.stepOf
      go_simp
      exact hK _ _ (But.refl _ _) (hI) rfl
    · intro f a w' hI hf hanc hdesc hle hs' hd K hK
      obtain ⟨_, t5, rfl⟩ := hd 5 27 (by kernel_rfl)
      have cc := (HC.out w' hle).2.2.1
      unfold Go.Rel.stepOf
      go_simp
      exact hK _ _ (But.refl _ _) (hI) rfl
    · intro f a w' hI hf hanc hdesc hle hs' hd K hK
      obtain ⟨_, t4, rfl⟩ := hd 4 26 (by kernel_rfl)
      obtain ⟨_, t6, rfl⟩ := hd 6 28 (by kernel_rfl)
      have hst := hI.2
      rw [hf] at hst
      unfold Go.Rel.stepOf
      go_simp
      refine (HCall.out.2 w' hst).mono ?_
      rintro e w2 ⟨rfl, hr5, hb5⟩
      have hbS : But S w' w2 := hb5.mono (fun k e => e.symm ▸ HS.out.2)
      exact hK _ _ hbS ⟨hI.1.but hb5 (fun k e => e.symm ▸ HS.out.2) (fun e => HNe.out e), hr5⟩ rfl
    · intro f a w' hI hf hanc hdesc hle hs' hd K hK
      obtain ⟨_, t3, rfl⟩ := hd 3 25 (by kernel_rfl)
      obtain ⟨_, t7, rfl⟩ := hd 7 29 (by kernel_rfl)
      unfold Go.Rel.stepOf
      go_simp
      exact hK _ _ (But.refl _ _) (hI) rfl
    · intro f a w' hI hf hanc hdesc hle hs' hd K hK
      obtain ⟨_, t8, rfl⟩ := hd 8 30 (by kernel_rfl)
      unfold Go.Rel.stepOf
      go_simp
      exact hK _ _ (But.refl _ _) (hI) rfl
  case hend =>
    intro f a w2 hall hI hle hs' hR'
    obtain ⟨_, s6, rfl⟩ := hR' 9 6 (by kernel_rfl)
    have hf1 := hall 3 (by decide)
    have hf2 := hall 7 (by decide)
    have hI' : Both S br bw s' s' w2 := by
      have := hI
      simp only [hf1, hf2, cond_true] at this
      exact this
    have hbf : But S w w2 := HB0.out.trans hle
    clear hI
    go_wp2
    refine bodyPost_ret (results_tmp rfl _ _ _) hs'.1 ?_
    exact ⟨by simp [s6], hI', hbf⟩

set_option maxHeartbeats 4000000 in
theorem step_3 (S : Nat → Prop) (br bw : Nat) (x : Stp) (s : St) (w : World) (hS : S br ∧ S bw) (hSlt : ∀ k, S k → k < w.heap.size) (hne : br ≠ bw) (hok : okStp x) (hk : x.kind = 3) (hlen : s.b.length ≤ 1099511627776) (h1 : RdAt S w br s) (h2 : RfAt S w bw s) :
    Calls Try.prog 20 #[.pointer (some ⟨br, 0, none⟩), .pointer (some ⟨bw, 0, none⟩), .agg #[.int .i64 x.kind, .int .i64 x.many, .int .i64 x.most, .int .u64 (x.num : Int)]] w fun e w' => e = .returned (.bool true) ∧ Both S br bw (stepNext x s) (stepNext x s) w' ∧ But S w w' := by
  have hnx : stepNext x s = (itText x.most.toNat).listNext x.many.toNat s := by unfold stepNext; simp [hk]
  rw [hnx]
  obtain ⟨W0, hW0⟩ : ∃ W0, w.alloc (.cells #[.int .i64 x.kind, .int .i64 x.many, .int .i64 x.most, .int .u64 (x.num : Int)] 48) = W0 := ⟨_, rfl⟩
  have hb0 : Below w.heap.size w W0 := by rw [← hW0]; exact (Below.refl _ _).alloc (Nat.le_refl _) _
  obtain ⟨bs, hbs⟩ : ∃ bs, w.heap.size = bs := ⟨_, rfl⟩
  have hbb : W0.heap[bs]? = some (.cells #[.int .i64 x.kind, .int .i64 x.many, .int .i64 x.most, .int .u64 (x.num : Int)] 48 (0, 0)) := by rw [← hW0, ← hbs]; exact heap_alloc_new w _
  have hlt0 : bs < W0.heap.size := (Array.getElem?_eq_some_iff.1 hbb).1
  have hnS : ¬ S bs := fun h => by have := hSlt bs h; omega
  have HC : Hid (∀ w', But S W0 w' → w'.cell? ⟨bs, 0, none⟩ = some (.int .i64 x.kind) ∧ w'.cell? ⟨bs, 1, none⟩ = some (.int .i64 x.many) ∧ w'.cell? ⟨bs, 2, none⟩ = some (.int .i64 x.most) ∧ w'.cell? ⟨bs, 3, none⟩ = some (.int .u64 (x.num : Int))) := Lib.hid (fun w' hb => by
    have j : w'.heap[bs]? = _ := (hb.block bs hlt0 hnS).trans hbb
    exact ⟨by rw [cell_of_row _ _ _ _ _ _ j]; rfl, by rw [cell_of_row _ _ _ _ _ _ j]; rfl, by rw [cell_of_row _ _ _ _ _ _ j]; rfl, by rw [cell_of_row _ _ _ _ _ _ j]; rfl⟩)
  have HS := Lib.hid hS
  have HNe := Lib.hid hne
  have HOk := Lib.hid hok
  have HLen := Lib.hid hlen
  have HSlt : Hid (∀ k, S k → k < W0.heap.size) := Lib.hid (fun k h => by have := hSlt k h; have := hb0.size; omega)
  have H1 : Hid (RdAt S W0 br s) := Lib.hid (h1.below hb0)
  have H2 : Hid (RfAt S W0 bw s) := Lib.hid (h2.below hb0)
  have HB0 : Hid (But S w W0) := Lib.hid (But.of_below hb0)
  have HCall : Hid ((∀ w', RdAt S w' br s → Calls Try.prog 29 #[.pointer (some ⟨br, 0, none⟩), .int .i64 x.many, .int .i64 x.most] w' (ReadsL S br w' (((itText x.most.toNat).listOut x.many.toNat s).map strV) ((itText x.most.toNat).listNext x.many.toNat s))) ∧ (∀ w', RfAt S w' bw s → Calls Try.prog 40 #[.pointer (some ⟨bw, 0, none⟩), .int .i64 x.many, .int .i64 x.most] w' (ReadsFL S bw w' (((itText x.most.toNat).listOut x.many.toNat s).map strV) ((itText x.most.toNat).listNext x.many.toNat s)))) := Lib.hid ⟨fun w' h => rTexts_any S br x.many x.most s w' h HOk.out.1 HOk.out.2.1 (.inr (HLen.out)), fun w' h => fTexts_any S bw x.many x.most s w' h HOk.out.1 HOk.out.2.1 (.inr (HLen.out))⟩
  have HSame : Hid (∀ A B c d w', RV w' A (((itText x.most.toNat).listOut x.many.toNat s).map strV).length (((itText x.most.toNat).listOut x.many.toNat s).map strV) → RV w' B (((itText x.most.toNat).listOut x.many.toNat s).map strV).length (((itText x.most.toNat).listOut x.many.toNat s).map strV) → Calls Try.prog 28 #[.slice A (((itText x.most.toNat).listOut x.many.toNat s).map strV).length c, .slice B (((itText x.most.toNat).listOut x.many.toNat s).map strV).length d] w' fun e w2 => e = .returned (.bool true) ∧ Below w'.heap.size w' w2) := Lib.hid (fun A B c d w' h h' => texts_same A B _ c d ((itText x.most.toNat).listOut x.many.toNat s) w' h h' (by
    rw [List.length_map]
    unfold It.listOut
    split
    · simp
    · rename_i hz
      rw [It.outs_length]
      exact Nat.le_trans (many_le _ (text_takes _) (.inr hlen) (Nat.le_refl _) (Decidable.not_not.1 hz)) (by omega)))
  obtain ⟨vs, hvs⟩ : ∃ vs, ((itText x.most.toNat).listOut x.many.toNat s).map strV = vs := ⟨_, rfl⟩
  rw [hvs] at HCall HSame
  obtain ⟨s', hs'⟩ : ∃ s', (itText x.most.toNat).listNext x.many.toNat s = s' := ⟨_, rfl⟩
  rw [hs'] at HCall ⊢
  have HW0 := Lib.hid hW0
  have HBS := Lib.hid hbs
  have ck := (HC.out W0 (But.refl _ _)).1
  rw [← hW0, ← hbs, hk] at ck
  clear hS hSlt hne hok hlen h1 h2 hnx hb0 hbs hbb hlt0 hnS hW0 hs' hvs
  rw [hk]
  go_enter Try.func20, Try.ntmps20
  go_wp2
  have HW0' := HW0.out
  rw [hk] at HW0'
  rw [HW0', HBS.out]
  clear ck HW0'
  refine Go.Rel.wp_region_states (by kernel_rfl) (by kernel_rfl) (by kernel_rfl) (by kernel_rfl) (fun f w => Both S br bw (bif f 5 then s' else s) (bif f 11 then s' else s) w) (But S) (fun _ _ _ h k => h.trans k) ((But.refl _ _).drew) ⟨H1.out, H2.out⟩ (stepTs S br bw bs x vs) (stepTs_stable S br bw bs x vs) ?hsteps ?hend
  case hsteps =>
    refine (.cons ?_ (.cons ?_ (.cons ?_ (.cons ?_ (.cons ?_ (.cons ?_ (.cons ?_ (.cons ?_ (.cons ?_ (.cons ?_ (.cons ?_ (.cons ?_ (.cons ?_ (.cons ?_ .nil))))))))))))))
    · intro f a w' hI hf hanc hdesc hle hs' hd K hK
      have f0 : a.tmps[0]? = some (.pointer (some ⟨br, 0, none⟩)) := hs'.2.2 0 (by kernel_rfl)
      unfold Go.Rel.stepOf
      go_simp
      exact hK _ _ (But.refl _ _) (hI) rfl
    · intro f a w' hI hf hanc hdesc hle hs' hd K hK
      have f5 : a.tmps[5]? = some (.pointer (some ⟨bs, 0, none⟩)) := hs'.2.2 5 (by kernel_rfl)
      unfold Go.Rel.stepOf
      go_simp
      exact hK _ _ (But.refl _ _) (hI) rfl
    · intro f a w' hI hf hanc hdesc hle hs' hd K hK
      obtain ⟨_, t1, rfl⟩ := hd 1 41 (by kernel_rfl)
      have cc := (HC.out w' hle).2.1
      unfold Go.Rel.stepOf
      go_simp
      exact hK _ _ (But.refl _ _) (hI) rfl
    · intro f a w' hI hf hanc hdesc hle hs' hd K hK
      have f5 : a.tmps[5]? = some (.pointer (some ⟨bs, 0, none⟩)) := hs'.2.2 5 (by kernel_rfl)
      unfold Go.Rel.stepOf
      go_simp
      exact hK _ _ (But.refl _ _) (hI) rfl
    · intro f a w' hI hf hanc hdesc hle hs' hd K hK
      obtain ⟨_, t3, rfl⟩ := hd 3 43 (by kernel_rfl)
      have cc := (HC.out w' hle).2.2.1
      unfold Go.Rel.stepOf
      go_simp
      exact hK _ _ (But.refl _ _) (hI) rfl
    · intro f a w' hI hf hanc hdesc hle hs' hd K hK
      obtain ⟨_, t0, rfl⟩ := hd 0 40 (by kernel_rfl)
      obtain ⟨_, t2, rfl⟩ := hd 2 42 (by kernel_rfl)
      obtain ⟨_, t4, rfl⟩ := hd 4 44 (by kernel_rfl)
      have hst := hI.1
      rw [hf] at hst
      unfold Go.Rel.stepOf
      go_simp
      refine (HCall.out.1 w' hst).mono ?_
      rintro e w2 ⟨A5, c5, rfl, hv5, hblk5, hr5, hb5⟩
      have hbS : But S w' w2 := hb5.mono (fun k e => e.symm ▸ HS.out.1)
      exact hK _ _ hbS ⟨hr5, hI.2.but hb5 (fun k e => e.symm ▸ HS.out.1) (fun e => HNe.out e.symm)⟩ ⟨_, _, rfl, hv5, fun b off e hn hs => by have := hblk5 b off e hn; have := HSlt.out b hs; have := hle.size; omega⟩
    · intro f a w' hI hf hanc hdesc hle hs' hd K hK
      have f1 : a.tmps[1]? = some (.pointer (some ⟨bw, 0, none⟩)) := hs'.2.2 1 (by kernel_rfl)
      unfold Go.Rel.stepOf
      go_simp
      exact hK _ _ (But.refl _ _) (hI) rfl
    · intro f a w' hI hf hanc hdesc hle hs' hd K hK
      have f5 : a.tmps[5]? = some (.pointer (some ⟨bs, 0, none⟩)) := hs'.2.2 5 (by kernel_rfl)
      unfold Go.Rel.stepOf
      go_simp
      exact hK _ _ (But.refl _ _) (hI) rfl
    · intro f a w' hI hf hanc hdesc hle hs' hd K hK
      obtain ⟨_, t7, rfl⟩ := hd 7 47 (by kernel_rfl)
      have cc := (HC.out w' hle).2.1
      unfold Go.Rel.stepOf
      go_simp
      exact hK _ _ (But.refl _ _) (hI) rfl
    · intro f a w' hI hf hanc hdesc hle hs' hd K hK
      have f5 : a.tmps[5]? = some (.pointer (some ⟨bs, 0, none⟩)) := hs'.2.2 5 (by kernel_rfl)
      unfold Go.Rel.stepOf
      go_simp
      exact hK _ _ (But.refl _ _) (hI) rfl
    · intro f a w' hI hf hanc hdesc hle hs' hd K hK
      obtain ⟨_, t9, rfl⟩ := hd 9 49 (by kernel_rfl)
      have cc := (HC.out w' hle).2.2.1
      unfold Go.Rel.stepOf
      go_simp
      exact hK _ _ (But.refl _ _) (hI) rfl
    · intro f a w' hI hf hanc hdesc hle hs' hd K hK
      obtain ⟨_, t6, rfl⟩ := hd 6 46 (by kernel_rfl)
      obtain ⟨_, t8, rfl⟩ := hd 8 48 (by kernel_rfl)
      obtain ⟨_, t10, rfl⟩ := hd 10 50 (by kernel_rfl)
      have hst := hI.2
      rw [hf] at hst
      unfold Go.Rel.stepOf
      go_simp
      refine (HCall.out.2 w' hst).mono ?_
      rintro e w2 ⟨A5, c5, rfl, hv5, hblk5, hr5, hb5⟩
      have hbS : But S w' w2 := hb5.mono (fun k e => e.symm ▸ HS.out.2)
      exact hK _ _ hbS ⟨hI.1.but hb5 (fun k e => e.symm ▸ HS.out.2) (fun e => HNe.out e), hr5⟩ ⟨_, _, rfl, hv5, fun b off e hn hs => by have := hblk5 b off e hn; have := HSlt.out b hs; have := hle.size; omega⟩
    · intro f a w' hI hf hanc hdesc hle hs' hd K hK
      obtain ⟨_, t5, A5, c5, rfl, h5⟩ := hd 5 45 (by kernel_rfl)
      obtain ⟨_, t11, A11, c11, rfl, h11⟩ := hd 11 51 (by kernel_rfl)
      unfold Go.Rel.stepOf
      go_simp
      refine (HSame.out _ _ _ _ w' h5.1 h11.1).mono ?_
      rintro e w2 ⟨rfl, hb5⟩
      exact hK _ _ (But.of_below hb5) ⟨hI.1.below hb5, hI.2.below hb5⟩ rfl
    · intro f a w' hI hf hanc hdesc hle hs' hd K hK
      obtain ⟨_, t12, rfl⟩ := hd 12 52 (by kernel_rfl)
      unfold Go.Rel.stepOf
      go_simp
      exact hK _ _ (But.refl _ _) (hI) rfl
  case hend =>
    intro f a w2 hall hI hle hs' hR'
    obtain ⟨_, s6, rfl⟩ := hR' 13 6 (by kernel_rfl)
    have hf1 := hall 5 (by decide)
    have hf2 := hall 11 (by decide)
    have hI' : Both S br bw s' s' w2 := by
      have := hI
      simp only [hf1, hf2, cond_true] at this
      exact this
    have hbf : But S w w2 := HB0.out.trans hle
    clear hI
    go_wp2
    refine bodyPost_ret (results_tmp rfl _ _ _) hs'.1 ?_
    exact ⟨by simp [s6], hI', hbf⟩

set_option maxHeartbeats 4000000 in
theorem step_4 (S : Nat → Prop) (br bw : Nat) (x : Stp) (s : St) (w : World) (hS : S br ∧ S bw) (hSlt : ∀ k, S k → k < w.heap.size) (hne : br ≠ bw) (hok : okStp x) (hk : x.kind = 4) (hlen : s.b.length ≤ 1099511627776) (h1 : RdAt S w br s) (h2 : RfAt S w bw s) :
    Calls Try.prog 20 #[.pointer (some ⟨br, 0, none⟩), .pointer (some ⟨bw, 0, none⟩), .agg #[.int .i64 x.kind, .int .i64 x.many, .int .i64 x.most, .int .u64 (x.num : Int)]] w fun e w' => e = .returned (.bool true) ∧ Both S br bw (stepNext x s) (stepNext x s) w' ∧ But S w w' := by
  have hnx : stepNext x s = (itNum x.num).listNext x.many.toNat s := by unfold stepNext; simp [hk]
  rw [hnx]
  obtain ⟨W0, hW0⟩ : ∃ W0, w.alloc (.cells #[.int .i64 x.kind, .int .i64 x.many, .int .i64 x.most, .int .u64 (x.num : Int)] 48) = W0 := ⟨_, rfl⟩
  have hb0 : Below w.heap.size w W0 := by rw [← hW0]; exact (Below.refl _ _).alloc (Nat.le_refl _) _
  obtain ⟨bs, hbs⟩ : ∃ bs, w.heap.size = bs := ⟨_, rfl⟩
  have hbb : W0.heap[bs]? = some (.cells #[.int .i64 x.kind, .int .i64 x.many, .int .i64 x.most, .int .u64 (x.num : Int)] 48 (0, 0)) := by rw [← hW0, ← hbs]; exact heap_alloc_new w _
  have hlt0 : bs < W0.heap.size := (Array.getElem?_eq_some_iff.1 hbb).1
  have hnS : ¬ S bs := fun h => by have := hSlt bs h; omega
  have HC : Hid (∀ w', But S W0 w' → w'.cell? ⟨bs, 0, none⟩ = some (.int .i64 x.kind) ∧ w'.cell? ⟨bs, 1, none⟩ = some (.int .i64 x.many) ∧ w'.cell? ⟨bs, 2, none⟩ = some (.int .i64 x.most) ∧ w'.cell? ⟨bs, 3, none⟩ = some (.int .u64 (x.num : Int))) := Lib.hid (fun w' hb => by
    have j : w'.heap[bs]? = _ := (hb.block bs hlt0 hnS).trans hbb
    exact ⟨by rw [cell_of_row _ _ _ _ _ _ j]; rfl, by rw [cell_of_row _ _ _ _ _ _ j]; rfl, by rw [cell_of_row _ _ _ _ _ _ j]; rfl, by rw [cell_of_row _ _ _ _ _ _ j]; rfl⟩)
  have HS := Lib.hid hS
  have HNe := Lib.hid hne
  have HOk := Lib.hid hok
  have HLen := Lib.hid hlen
  have HSlt : Hid (∀ k, S k → k < W0.heap.size) := Lib.hid (fun k h => by have := hSlt k h; have := hb0.size; omega)
  have H1 : Hid (RdAt S W0 br s) := Lib.hid (h1.below hb0)
  have H2 : Hid (RfAt S W0 bw s) := Lib.hid (h2.below hb0)
  have HB0 : Hid (But S w W0) := Lib.hid (But.of_below hb0)
  have HCall : Hid ((∀ w', RdAt S w' br s → Calls Try.prog 31 #[.pointer (some ⟨br, 0, none⟩), .int .i64 x.many, .int .u64 (x.num : Int)] w' (ReadsL S br w' (((itNum x.num).listOut x.many.toNat s).map u64V) ((itNum x.num).listNext x.many.toNat s))) ∧ (∀ w', RfAt S w' bw s → Calls Try.prog 41 #[.pointer (some ⟨bw, 0, none⟩), .int .i64 x.many, .int .u64 (x.num : Int)] w' (ReadsFL S bw w' (((itNum x.num).listOut x.many.toNat s).map u64V) ((itNum x.num).listNext x.many.toNat s)))) := Lib.hid ⟨fun w' h => rNums_any S br x.many x.num s w' h HOk.out.1 HOk.out.2.2 (.inr (HLen.out)), fun w' h => fNums_any S bw x.many x.num s w' h HOk.out.1 HOk.out.2.2 (.inr (HLen.out))⟩
  have HSame : Hid (∀ A B c d w', RV w' A (((itNum x.num).listOut x.many.toNat s).map u64V).length (((itNum x.num).listOut x.many.toNat s).map u64V) → RV w' B (((itNum x.num).listOut x.many.toNat s).map u64V).length (((itNum x.num).listOut x.many.toNat s).map u64V) → Calls Try.prog 30 #[.slice A (((itNum x.num).listOut x.many.toNat s).map u64V).length c, .slice B (((itNum x.num).listOut x.many.toNat s).map u64V).length d] w' fun e w2 => e = .returned (.bool true) ∧ Below w'.heap.size w' w2) := Lib.hid (fun A B c d w' h h' => nums_same A B _ c d ((itNum x.num).listOut x.many.toNat s) w' h h' (by
    rw [List.length_map]
    unfold It.listOut
    split
    · simp
    · rename_i hz
      rw [It.outs_length]
      exact Nat.le_trans (many_le _ (num_takes _) (.inr hlen) (Nat.le_refl _) (Decidable.not_not.1 hz)) (by omega)))
  obtain ⟨vs, hvs⟩ : ∃ vs, ((itNum x.num).listOut x.many.toNat s).map u64V = vs := ⟨_, rfl⟩
  rw [hvs] at HCall HSame
  obtain ⟨s', hs'⟩ : ∃ s', (itNum x.num).listNext x.many.toNat s = s' := ⟨_, rfl⟩
  rw [hs'] at HCall ⊢
  have HW0 := Lib.hid hW0
  have HBS := Lib.hid hbs
  have ck := (HC.out W0 (But.refl _ _)).1
  rw [← hW0, ← hbs, hk] at ck
  clear hS hSlt hne hok hlen h1 h2 hnx hb0 hbs hbb hlt0 hnS hW0 hs' hvs
  rw [hk]
  go_enter Try.func20, Try.ntmps20
  go_wp2
  have HW0' := HW0.out
  rw [hk] at HW0'
  rw [HW0', HBS.out]
  clear ck HW0'
  refine Go.Rel.wp_region_states (by kernel_rfl) (by kernel_rfl) (by kernel_rfl) (by kernel_rfl) (fun f w => Both S br bw (bif f 5 then s' else s) (bif f 11 then s' else s) w) (But S) (fun _ _ _ h k => h.trans k) ((But.refl _ _).drew) ⟨H1.out, H2.out⟩ (stepNs S br bw bs x vs) (stepNs_stable S br bw bs x vs) ?hsteps ?hend
  case hsteps =>
    refine (.cons ?_ (.cons ?_ (.cons ?_ (.cons ?_ (.cons ?_ (.cons ?_ (.cons ?_ (.cons ?_ (.cons ?_ (.cons ?_ (.cons ?_ (.cons ?_ (.cons ?_ (.cons ?_ .nil))))))))))))))
    · intro f a w' hI hf hanc hdesc hle hs' hd K hK
      have f0 : a.tmps[0]? = some (.pointer (some ⟨br, 0, none⟩)) := hs'.2.2 0 (by kernel_rfl)
      unfold Go.Rel.stepOf
      go_simp
      exact hK _ _ (But.refl _ _) (hI) rfl
    · intro f a w' hI hf hanc hdesc hle hs' hd K hK
      have f5 : a.tmps[5]? = some (.pointer (some ⟨bs, 0, none⟩)) := hs'.2.2 5 (by kernel_rfl)
      unfold Go.Rel.stepOf
      go_simp
      exact hK _ _ (But.refl _ _) (hI) rfl
    · intro f a w' hI hf hanc hdesc hle hs' hd K hK
      obtain ⟨_, t1, rfl⟩ := hd 1 56 (by kernel_rfl)
      have cc := (HC.out w' hle).2.1
      unfold Go.Rel.stepOf
      go_simp
      exact hK _ _ (But.refl _ _) (hI) rfl
    · intro f a w' hI hf hanc hdesc hle hs' hd K hK
      have f5 : a.tmps[5]? = some (.pointer (some ⟨bs, 0, none⟩)) := hs'.2.2 5 (by kernel_rfl)
      unfold Go.Rel.stepOf
      go_simp
      exact hK _ _ (But.refl _ _) (hI) rfl
    · intro f a w' hI hf hanc hdesc hle hs' hd K hK
      obtain ⟨_, t3, rfl⟩ := hd 3 58 (by kernel_rfl)
      have cc := (HC.out w' hle).2.2.2
      unfold Go.Rel.stepOf
      go_simp
      exact hK _ _ (But.refl _ _) (hI) rfl
    · intro f a w' hI hf hanc hdesc hle hs' hd K hK
      obtain ⟨_, t0, rfl⟩ := hd 0 55 (by kernel_rfl)
      obtain ⟨_, t2, rfl⟩ := hd 2 57 (by kernel_rfl)
      obtain ⟨_, t4, rfl⟩ := hd 4 59 (by kernel_rfl)
      have hst := hI.1
      rw [hf] at hst
      unfold Go.Rel.stepOf
      go_simp
      refine (HCall.out.1 w' hst).mono ?_
      rintro e w2 ⟨A5, c5, rfl, hv5, hblk5, hr5, hb5⟩
      have hbS : But S w' w2 := hb5.mono (fun k e => e.symm ▸ HS.out.1)
      exact hK _ _ hbS ⟨hr5, hI.2.but hb5 (fun k e => e.symm ▸ HS.out.1) (fun e => HNe.out e.symm)⟩ ⟨_, _, rfl, hv5, fun b off e hn hs => by have := hblk5 b off e hn; have := HSlt.out b hs; have := hle.size; omega⟩
    · intro f a w' hI hf hanc hdesc hle hs' hd K hK
      have f1 : a.tmps[1]? = some (.pointer (some ⟨bw, 0, none⟩)) := hs'.2.2 1 (by kernel_rfl)
      unfold Go.Rel.stepOf
      go_simp
      exact hK _ _ (But.refl _ _) (hI) rfl
    · intro f a w' hI hf hanc hdesc hle hs' hd K hK
      have f5 : a.tmps[5]? = some (.pointer (some ⟨bs, 0, none⟩)) := hs'.2.2 5 (by kernel_rfl)
      unfold Go.Rel.stepOf
      go_simp
      exact hK _ _ (But.refl _ _) (hI) rfl
    · intro f a w' hI hf hanc hdesc hle hs' hd K hK
      obtain ⟨_, t7, rfl⟩ := hd 7 62 (by kernel_rfl)
      have cc := (HC.out w' hle).2.1
      unfold Go.Rel.stepOf
      go_simp
      exact hK _ _ (But.refl _ _) (hI) rfl
    · intro f a w' hI hf hanc hdesc hle hs' hd K hK
      have f5 : a.tmps[5]? = some (.pointer (some ⟨bs, 0, none⟩)) := hs'.2.2 5 (by kernel_rfl)
      unfold Go.Rel.stepOf
      go_simp
      exact hK _ _ (But.refl _ _) (hI) rfl
    · intro f a w' hI hf hanc hdesc hle hs' hd K hK
      obtain ⟨_, t9, rfl⟩ := hd 9 64 (by kernel_rfl)
      have cc := (HC.out w' hle).2.2.2
      unfold Go.Rel.stepOf
      go_simp
      exact hK _ _ (But.refl _ _) (hI) rfl
    · intro f a w' hI hf hanc hdesc hle hs' hd K hK
      obtain ⟨_, t6, rfl⟩ := hd 6 61 (by kernel_rfl)
      obtain ⟨_, t8, rfl⟩ := hd 8 63 (by kernel_rfl)
      obtain ⟨_, t10, rfl⟩ := hd 10 65 (by kernel_rfl)
      have hst := hI.2
      rw [hf] at hst
      unfold Go.Rel.stepOf
      go_simp
      refine (HCall.out.2 w' hst).mono ?_
      rintro e w2 ⟨A5, c5, rfl, hv5, hblk5, hr5, hb5⟩
      have hbS : But S w' w2 := hb5.mono (fun k e => e.symm ▸ HS.out.2)
      exact hK _ _ hbS ⟨hI.1.but hb5 (fun k e => e.symm ▸ HS.out.2) (fun e => HNe.out e), hr5⟩ ⟨_, _, rfl, hv5, fun b off e hn hs => by have := hblk5 b off e hn; have := HSlt.out b hs; have := hle.size; omega⟩
    · intro f a w' hI hf hanc hdesc hle hs' hd K hK
      obtain ⟨_, t5, A5, c5, rfl, h5⟩ := hd 5 60 (by kernel_rfl)
      obtain ⟨_, t11, A11, c11, rfl, h11⟩ := hd 11 66 (by kernel_rfl)
      unfold Go.Rel.stepOf
      go_simp
      refine (HSame.out _ _ _ _ w' h5.1 h11.1).mono ?_
      rintro e w2 ⟨rfl, hb5⟩
      exact hK _ _ (But.of_below hb5) ⟨hI.1.below hb5, hI.2.below hb5⟩ rfl
    · intro f a w' hI hf hanc hdesc hle hs' hd K hK
      obtain ⟨_, t12, rfl⟩ := hd 12 67 (by kernel_rfl)
      unfold Go.Rel.stepOf
      go_simp
      exact hK _ _ (But.refl _ _) (hI) rfl
  case hend =>
    intro f a w2 hall hI hle hs' hR'
    obtain ⟨_, s6, rfl⟩ := hR' 13 6 (by kernel_rfl)
    have hf1 := hall 5 (by decide)
    have hf2 := hall 11 (by decide)
    have hI' : Both S br bw s' s' w2 := by
      have := hI
      simp only [hf1, hf2, cond_true] at this
      exact this
    have hbf : But S w w2 := HB0.out.trans hle
    clear hI
    go_wp2
    refine bodyPost_ret (results_tmp rfl _ _ _) hs'.1 ?_
    exact ⟨by simp [s6], hI', hbf⟩

set_option maxHeartbeats 2000000 in
theorem step_2 (S : Nat → Prop) (br bw : Nat) (x : Stp) (s : St) (w : World) (hS : S br ∧ S bw) (hne : br ≠ bw) (hk : x.kind = 2) (h1 : RdAt S w br s) (h2 : RfAt S w bw s) :
    Calls Try.prog 20 #[.pointer (some ⟨br, 0, none⟩), .pointer (some ⟨bw, 0, none⟩), .agg #[.int .i64 x.kind, .int .i64 x.many, .int .i64 x.most, .int .u64 (x.num : Int)]] w fun e w' => e = .returned (.bool true) ∧ Both S br bw (stepNext x s) (stepNext x s) w' ∧ But S w w' := by
  have hnx : stepNext x s = itFlag.next s := by unfold stepNext; simp [hk]
  rw [hnx]
  have hb0 : Below w.heap.size w (w.alloc (.cells #[.int .i64 2, .int .i64 x.many, .int .i64 x.most, .int .u64 (x.num : Int)] 48)) := (Below.refl _ _).alloc (Nat.le_refl _) _
  have s1 := rFlag_any S br s _ (h1.below hb0)
  have H2 := Lib.hid (h2.below hb0)
  have HB0 : Hid (But S w _) := Lib.hid (But.of_below hb0)
  have HF : Hid (∀ w', RfAt S w' bw s → Calls Try.prog 39 #[.pointer (some ⟨bw, 0, none⟩)] w' (ReadsF S bw w' (.bool (itFlag.out s)) (itFlag.next s))) := Lib.hid (fun w' h => fFlag_any S bw s w' h)
  obtain ⟨q, hq⟩ : ∃ q, itFlag.out s = q := ⟨_, rfl⟩
  rw [hq] at s1 HF
  have S1 := Lib.hid s1
  have HS := Lib.hid hS
  have HNe := Lib.hid hne
  clear hnx hb0 s1 hS hne h1 h2 hq
  rw [hk]
  go_enter Try.func20, Try.ntmps20
  go_wp2_with fail
  refine S1.out.mono ?_
  rintro e w1 ⟨rfl, hr1, hb1⟩
  have HR1 := Lib.hid hr1
  have HRf := Lib.hid (H2.out.but hb1 (fun k e => e.symm ▸ HS.out.1) (fun e => HNe.out e.symm))
  have HB1 : Hid (But S w w1) := Lib.hid (HB0.out.trans (hb1.mono (fun k e => e.symm ▸ HS.out.1)))
  clear hr1 hb1
  go_wp2_with fail
  refine (HF.out _ HRf.out).mono ?_
  rintro e w2 ⟨rfl, hr2, hb2⟩
  have HBoth : Hid (Both S br bw (itFlag.next s) (itFlag.next s) w2) := Lib.hid ⟨HR1.out.but hb2 (fun k e => e.symm ▸ HS.out.2) (fun e => HNe.out e), hr2⟩
  have HB2 : Hid (But S w w2) := Lib.hid (HB1.out.trans (hb2.mono (fun k e => e.symm ▸ HS.out.2)))
  clear hr2 hb2
  go_wp2
  go_ret
  exact ⟨rfl, HBoth.out, HB2.out⟩
set_option maxHeartbeats 2000000 in
theorem step_else (S : Nat → Prop) (br bw : Nat) (x : Stp) (s : St) (w : World) (h0 : x.kind ≠ 0) (h1' : x.kind ≠ 1) (h2' : x.kind ≠ 2) (h3 : x.kind ≠ 3) (h4 : x.kind ≠ 4) (h1 : RdAt S w br s) (h2 : RfAt S w bw s) :
    Calls Try.prog 20 #[.pointer (some ⟨br, 0, none⟩), .pointer (some ⟨bw, 0, none⟩), .agg #[.int .i64 x.kind, .int .i64 x.many, .int .i64 x.most, .int .u64 (x.num : Int)]] w fun e w' => e = .returned (.bool true) ∧ Both S br bw (stepNext x s) (stepNext x s) w' ∧ But S w w' := by
  have hnx : stepNext x s = s := by unfold stepNext; simp [h0, h1', h2', h3, h4]
  rw [hnx]
  have hb0 : Below w.heap.size w (w.alloc (.cells #[.int .i64 x.kind, .int .i64 x.many, .int .i64 x.most, .int .u64 (x.num : Int)] 48)) := (Below.refl _ _).alloc (Nat.le_refl _) _
  have HBoth : Hid (Both S br bw s s _) := Lib.hid ⟨h1.below hb0, h2.below hb0⟩
  have HB0 : Hid (But S w _) := Lib.hid (But.of_below hb0)
  have q0 : (x.kind == 0) = false := by rw [beq_eq_false_iff_ne]; exact h0
  have q1 : (x.kind == 1) = false := by rw [beq_eq_false_iff_ne]; exact h1'
  have q2 : (x.kind == 2) = false := by rw [beq_eq_false_iff_ne]; exact h2'
  have q3 : (x.kind == 3) = false := by rw [beq_eq_false_iff_ne]; exact h3
  have q4 : (x.kind == 4) = false := by rw [beq_eq_false_iff_ne]; exact h4
  clear hnx hb0 h1 h2 h0 h1' h2' h3 h4
  go_enter Try.func20, Try.ntmps20
  go_wp2
  go_ret
  exact ⟨rfl, HBoth.out, HB0.out⟩
theorem step_any (S : Nat → Prop) (br bw : Nat) (x : Stp) (s : St) (w : World) (hS : S br ∧ S bw) (hSlt : ∀ k, S k → k < w.heap.size) (hne : br ≠ bw) (hok : okStp x) (hlen : s.b.length ≤ 1099511627776) (h1 : RdAt S w br s) (h2 : RfAt S w bw s) :
    Calls Try.prog 20 #[.pointer (some ⟨br, 0, none⟩), .pointer (some ⟨bw, 0, none⟩), .agg #[.int .i64 x.kind, .int .i64 x.many, .int .i64 x.most, .int .u64 (x.num : Int)]] w fun e w' => e = .returned (.bool true) ∧ Both S br bw (stepNext x s) (stepNext x s) w' ∧ But S w w' := by
  by_cases k0 : x.kind = 0
  · exact step_0 S br bw x s w hS hSlt hne hok k0 hlen h1 h2
  by_cases k1 : x.kind = 1
  · exact step_1 S br bw x s w hS hSlt hne hok k1 hlen h1 h2
  by_cases k2 : x.kind = 2
  · exact step_2 S br bw x s w hS hne k2 h1 h2
  by_cases k3 : x.kind = 3
  · exact step_3 S br bw x s w hS hSlt hne hok k3 hlen h1 h2
  by_cases k4 : x.kind = 4
  · exact step_4 S br bw x s w hS hSlt hne hok k4 hlen h1 h2
  exact step_else S br bw x s w k0 k1 k2 k3 k4 h1 h2
end Go.Proofs.Ytgjgndpeopiifaa
