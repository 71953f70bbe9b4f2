/-
  The document's suspicion: Wait, Confirm, walked (layer 11).
-/
import Derived.Test.YtnmcomciocffpaaDoorDbTurn
import Derived.StillTailTactics
namespace Go.Proofs.YtnmcomciocffpaaDoor
open Go.RowKit Go.Maps
set_option linter.unusedSimpArgs false
set_option linter.unusedVariables false

theorem int_info : (Tryd.prog.info? 3).map (fun i => (i.zero, i.size, i.bytes)) = some (some (.int .i64 0), 1, 8) := by kernel_rfl
theorem froz {W : World} {X : Nat} {cur : Array Value} {t : TypeId} (h : W.heap[X]? = some (.cells cur t (0, 0))) (i : Nat) : W.frozen? ⟨X, i, none⟩ = false := by simp [World.frozen?, h]
theorem ne_ty {W : World} {X Y : Nat} {a b : Array Value} {t u : TypeId} {f g : Nat × Nat} (h : W.heap[X]? = some (.cells a t f)) (k : W.heap[Y]? = some (.cells b u g)) (hne : t ≠ u) : X ≠ Y := fun e => by
  rw [e, k] at h
  simp only [Option.some.injEq, Obj.cells.injEq] at h
  exact hne h.2.1.symm
section
variable {w w' : World} {base B : Nat} {d : Db}
theorem RdAt.lt (h : RdAt w base B d) : B < w.heap.size := by
  obtain ⟨_, _, v, hh, _⟩ := h
  exact block_lt hh
theorem own_cells {w : World} {base : Nat} {E : TypeId} {k n : Nat} {v : Value} {xs : List Value} (h : w.ownsRow base E k v n xs) {r : Nat} (hr : v.ownBlock = some r) : base ≤ r ∧ r < w.heap.size ∧ ∃ cur, w.heap[r]? = some (.cells cur E (0, 0)) := by
  rcases h.2 with ⟨rfl, _⟩ | ⟨g, _, cur, rfl, hg, hh, _⟩
  · cases hr
  · cases hr
    exact ⟨hg, block_lt hh, cur, hh⟩
theorem RdAt.but {S : Nat → Prop} (h : RdAt w base B d) (hb : But S w w') (h1 : ¬ S B) (h2 : ∀ k, base ≤ k → k < w.heap.size → S k → ∀ cur, w.heap[k]? ≠ some (.cells cur 3 (0, 0))) : RdAt w' base B d := by
  obtain ⟨ho, hw, v, hh, hr⟩ := h
  refine ⟨ho, hw, v, (hb.block B (block_lt hh) h1).trans hh, own_but hr hb (fun j hj hs => ?_)⟩
  obtain ⟨h3, h4, cur, h5⟩ := own_cells hr hj
  exact h2 j h3 h4 hs cur h5
theorem RdAt.below (h : RdAt w base B d) (hb : Below w.heap.size w w') : RdAt w' base B d := h.but (But.of_below (S := fun _ => False) hb) (fun h => h) (fun _ _ _ h => h.elim)
end
set_option maxHeartbeats 4000000 in
theorem rdwait_any {base B : Nat} {d : Db} (w : World) (h : RdAt w base B d) : Calls Tryd.prog 14 #[.pointer (some ⟨B, 0, none⟩)] w fun e w' => e = .returned (.int .i64 d.wait) ∧ Below w.heap.size w w' := by
  obtain ⟨hok, _, v, hh, hr⟩ := h
  have hf9 := Db.few9 hok
  have hs1 := hok.some_
  obtain ⟨A, c, rfl, _⟩ := RV.own hr
  obtain ⟨L, hL⟩ : ∃ L, d.from_.length = L := ⟨_, rfl⟩
  have hW := fun n => rwait_any d.least d.most d.want d.have_ (w.drewN n)
  have e1 : d.have_ = (L : Int) - 1 := by rw [← hL]; rfl
  have hdw : d.wait = waitD d.least d.most d.want d.have_ := rfl
  obtain ⟨n, hn⟩ : ∃ n, d.wait = n := ⟨_, rfl⟩
  rw [← hdw, hn, e1] at hW
  rw [hn]
  have HW := Lib.hid hW
  rw [hL] at hh hf9 hs1
  obtain ⟨c0, c1, c2, c3, c4⟩ := blk5 hh
  have w1 : IntKind.i64.wrap ((L : Int) - 1) = (L : Int) - 1 := IntWalk.i64_in _ (by omega)
  clear hh hr hok hL hW e1 hdw hn
  go_enter Tryd.func14, Tryd.ntmps14
  go_wp2
  go_still_tail 18, (by kernel_rfl)
  go_wp2_with fail
  refine (HW.out 1).mono ?_
  rintro e w' ⟨rfl, hb⟩
  go_wp2
  go_ret
  exact ⟨rfl, (below_drewN (Below.refl _ _) 1).trans (hb.mono (Nat.le_refl _))⟩
def RConfirmPost (w : World) (base B : Nat) (d : Db) (f : Int) (e : Ending) (w' : World) : Prop := e = .returned (.bool (d.takes f)) ∧ RdAt w' base B (d.confirm f) ∧ But (fun k => base ≤ k) w w'
theorem RConfirmPost.no {w w' : World} {base B : Nat} {d : Db} {f : Int} {e : Ending} (h : RdAt w base B d) (ht : d.takes f = false) (he : e = .returned (.bool false)) (hb : Below w.heap.size w w') : RConfirmPost w base B d f e w' := by
  refine ⟨by rw [ht]; exact he, ?_, But.of_below hb⟩
  have : d.confirm f = d := by unfold Db.confirm; rw [if_neg (by rw [ht]; simp)]
  rw [this]
  exact h.below hb
theorem RConfirmPost.yes {w w0 w1 : World} {base B : Nat} {d : Db} {f : Int} {v v1 : Value} (hok : d.ok) (hw : ∀ g ∈ d.from_, wfI g) (hh : w.heap[B]? = some (.cells #[.int .i64 d.least, .int .i64 d.most, .int .i64 d.want, v, .int .i64 (d.gone : Int)] TR (0, 0))) (hB : base ≤ B) (ht : d.takes f = true) (hf : wfI f)
    (hb : Below w.heap.size w w0) (hr : w0.ownsRow base 3 1 v d.from_.length (d.from_.map iV)) (hg : w0.grownBy w1 v.ownBlock) (hr1 : w1.ownsRow base 3 1 v1 (d.from_.length + 1) (d.from_.map iV ++ [iV f])) : RConfirmPost w base B d f (.returned (.bool true)) (w1.setCell ⟨B, 3, none⟩ v1) := by
  have hb0 : But (fun k => base ≤ k) w w0 := But.of_below hb
  have hb1 : But (fun k => base ≤ k) w0 w1 := But.of_grown hg (fun r e _ => (own_cells hr e).1)
  have e : d.confirm f = ⟨d.least, d.most, d.want, d.from_ ++ [f], d.gone⟩ := by unfold Db.confirm; rw [if_pos ht]
  have hok2 := Db.confirm_ok hok f
  have h0 := (hb.block B (block_lt hh)).trans hh
  have hne : ∀ r, v.ownBlock = some r → B ≠ r := fun r hr' => by
    obtain ⟨_, _, cur, hc⟩ := own_cells hr hr'
    exact ne_ty h0 hc (by decide)
  have h1 : w1.heap[B]? = some (.cells #[.int .i64 d.least, .int .i64 d.most, .int .i64 d.want, v, .int .i64 (d.gone : Int)] TR (0, 0)) := by
    have hb2 : But (fun k => v.ownBlock = some k) w0 w1 := But.of_grown hg (fun r e _ => e)
    exact (hb2.block B (block_lt h0) (fun e => hne B e rfl)).trans h0
  have hbs : But (fun k => k = B) w1 (w1.setCell ⟨B, 3, none⟩ v1) := But.set (S := (· = B)) w1 (p := ⟨B, 3, none⟩) rfl _
  refine ⟨by rw [ht], ?_, (hb0.trans hb1).trans (hbs.mono (fun k hk => hk ▸ hB))⟩
  rw [e] at hok2 ⊢
  refine ⟨hok2, ?_, v1, ?_, ?_⟩
  · intro g hg'
    rcases List.mem_append.1 hg' with h2 | h2
    · exact hw g h2
    · rw [List.mem_singleton.1 h2]
      exact hf
  · rw [block_set h1 3 _]
    rfl
  · show World.ownsRow _ base 3 1 v1 (d.from_ ++ [f]).length ((d.from_ ++ [f]).map iV)
    rw [List.length_append, List.map_append]
    refine own_but hr1 hbs (fun j hj hs => ?_)
    obtain ⟨_, _, cur, hc⟩ := own_cells hr1 hj
    exact ne_ty h1 hc (by decide) hs.symm
set_option maxHeartbeats 8000000 in
theorem rconfirm_any {base B : Nat} {d : Db} (f : Int) (hf : wfI f) (w : World) (h : RdAt w base B d) (hB : base ≤ B) : Calls Tryd.prog 12 #[.pointer (some ⟨B, 0, none⟩), .int .i64 f] w (RConfirmPost w base B d f) := by
  have HH := Lib.hid h
  obtain ⟨hok, hwf, v, hh, hr⟩ := h
  have hf9 := Db.few9 hok
  have hs1 := hok.some_
  have HOK := Lib.hid hok
  have HWF := Lib.hid hwf
  have HHh := Lib.hid hh
  have HR := Lib.hid hr
  have hBl := block_lt hh
  obtain ⟨A, c, rfl, hrv, _⟩ := RV.own hr
  obtain ⟨L, hL⟩ : ∃ L, d.from_.length = L := ⟨_, rfl⟩
  have HL := Lib.hid hL
  rw [hL] at hh hf9 hs1 hrv
  have HRV := Lib.hid hrv
  obtain ⟨c0, c1, c2, c3, c4⟩ := blk5 hh
  have g3 := froz hh 3
  obtain ⟨i0, hi, hz0, hz1, hz2⟩ := info_parts int_info
  have HBa := Lib.hid hB
  have HF := Lib.hid hf
  clear hh hr hok hL hwf hrv hB hf
  go_enter Tryd.func12, Tryd.ntmps12
  go_wp2
  go_loopw [5] (fun kv wr => ∃ k : Nat, k ≤ L ∧ kv = .int .i64 (k : Int) ∧ Hid (∀ j (hj : j < d.from_.length), j < k → d.from_[j] ≠ f) ∧ wr = w) (fun kv _ => L - (intOf kv).toNat)
  case atStart => exact ⟨0, by omega, rfl, Lib.hid (fun j _ hj => absurd hj (by omega)), rfl⟩
  case round =>
    obtain ⟨k, hk, rfl, hnot, rfl⟩ := hrel
    by_cases hlt : k < L
    · have hkl : k < d.from_.length := by rw [HL.out]; exact hlt
      obtain ⟨b, off, rfl, hbl, ck⟩ := HRV.out.at_ hlt
      rw [List.getElem_map] at ck
      unfold iV at ck
      obtain ⟨x, hx⟩ : ∃ x, d.from_[k] = x := ⟨_, rfl⟩
      rw [hx] at ck
      have q1 : (0 : Int) ≤ (k : Int) := by omega
      have q2 : (k : Int) < (L : Int) := by omega
      by_cases he : x = f
      · have HT : Hid (d.takes f = false) := Lib.hid (by
          cases ht : d.takes f with
          | false => rfl
          | true =>
            have := ((Db.takes_iff d f).1 ht).1
            exact absurd (by rw [← he, ← hx]; exact List.getElem_mem hkl) this)
        have z1 : (x == f) = true := by rw [beq_iff_eq]; exact he
        clear he hx hlt hkl
        go_wp2
        go_ret
        exact RConfirmPost.no HH.out HT.out rfl (Below.refl _ _)
      · have z1 : (x == f) = false := by rw [beq_eq_false_iff_ne]; exact he
        have HN : Hid (∀ j (hj : j < d.from_.length), j < k + 1 → d.from_[j] ≠ f) := Lib.hid (fun j hj hj2 => by
          by_cases e : j = k
          · subst e
            rw [hx]
            exact he
          · exact hnot.out j hj (by omega))
        clear he hx hlt hkl hnot
        go_wp2
        go_roundw
        case rel => exact ⟨k + 1, by omega, by go_num, HN, trivial⟩
        case measure => simp [intOf]; omega
    · obtain rfl : k = L := by omega
      have HNM : Hid (f ∉ d.from_) := Lib.hid (fun hm => by
        obtain ⟨j, hj, e⟩ := List.mem_iff_getElem.1 hm
        exact hnot.out j hj (by have := HL.out; omega) e)
      have w1 : IntKind.i64.wrap ((k : Int) - 1) = (k : Int) - 1 := IntWalk.i64_in _ (by omega)
      have q1 : ¬ (k : Int) < (k : Int) := by omega
      clear hnot hlt
      by_cases q2 : d.want ≤ (k : Int) - 1
      · have HT : Hid (d.takes f = false) := Lib.hid (by
          cases ht : d.takes f with
          | false => rfl
          | true =>
            have := ((Db.takes_iff d f).1 ht).2
            have e := HL.out
            unfold Db.have_ at this
            omega)
        go_wp2
        go_quiet (fail)
        go_wp2
        go_ret
        exact RConfirmPost.no HH.out HT.out rfl (below_drewN (Below.refl _ _) _)
      · have HT : Hid (d.takes f = true) := Lib.hid ((Db.takes_iff d f).2 ⟨HNM.out, by have e := HL.out; unfold Db.have_; omega⟩)
        have q2' : decide (d.want ≤ (k : Int) - 1) = false := by simpa using q2
        clear q2
        go_wp2
        go_quiet (fail)
        rename_i nq
        have HR1 : Hid ((wr.drewN nq).ownsRow base 3 1 (.slice A k c) k (d.from_.map iV)) := Lib.hid (by have := HR.out; rw [HL.out] at this; exact this)
        have hbs : base ≤ (wr.drewN nq).heap.size := Nat.le_of_lt (Nat.lt_of_le_of_lt HBa.out hBl)
        go_wp2_with (at_builtin; refine wpList_append_val rfl (.tmp 39) (.tmp 41) 33 rfl base 3 i0 (.int .i64 0) 8 Tryd.underlying33 hi hz0 hz1 hz2 rfl (.slice A k c) k (d.from_.map iV) rfl HR1.out (.int .i64 f) _ rfl rfl ?c1 ?c2 ?c3 ?_)
        case c1 => unfold maxLen; omega
        case c2 => omega
        case c3 => exact hbs
        refine Lib.hid ?_
        intro v1 w2 hown1 hg1
        obtain ⟨A1, k1, rfl, _⟩ := RV.own hown1
        have hb1 : Below wr.heap.size wr ((wr.drewN nq).alloc (.cells #[.int .i64 f] 3)) := Below.alloc (below_drewN (Below.refl _ _) _) (Nat.le_refl _) _
        have HG : Hid (((wr.drewN nq).alloc (.cells #[.int .i64 f] 3)).grownBy w2 (Value.slice A k c).ownBlock) := Lib.hid hg1
        have HO1 := Lib.hid hown1
        have HR2 : Hid (((wr.drewN nq).alloc (.cells #[.int .i64 f] 3)).ownsRow base 3 1 (.slice A k c) k (d.from_.map iV)) := Lib.hid (HR1.out.alloc _)
        have hb2 : But (fun r => (Value.slice A k c).ownBlock = some r) ((wr.drewN nq).alloc (.cells #[.int .i64 f] 3)) w2 := But.of_grown hg1 (fun r e _ => e)
        have h0 := (hb1.block B hBl).trans HHh.out
        have h1 := (hb2.block B (block_lt h0) (fun e => by
          obtain ⟨_, _, cur, hc⟩ := own_cells HR2.out e
          exact ne_ty h0 hc (by decide) rfl)).trans h0
        have c3 : w2.cell? ⟨B, 3, none⟩ = some (.slice A k c) := by rw [cell_of_row _ _ _ _ _ _ h1, HL.out]; rfl
        have g3 := froz h1 3
        have HB1 := Lib.hid hb1
        have HEnd : Hid (RConfirmPost wr base B d f (.returned (.bool true)) (w2.setCell ⟨B, 3, none⟩ (.slice A1 (k + 1) k1))) := Lib.hid (by
          refine RConfirmPost.yes HOK.out HWF.out HHh.out HBa.out HT.out HF.out hb1 (v := .slice A d.from_.length c) ?_ ?_ ?_
          · rw [HL.out]; exact HR2.out
          · rw [HL.out]; exact hg1
          · rw [HL.out]; exact hown1)
        clear hown1 hg1 hb1 hb2 h0 h1
        go_wp2
        go_ret
        exact HEnd.out
end Go.Proofs.YtnmcomciocffpaaDoor
