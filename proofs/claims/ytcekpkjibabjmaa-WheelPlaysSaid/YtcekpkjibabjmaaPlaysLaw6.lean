/-
  Whatever is asked of a wheel, it answers as the document's: the law sodalitylaw06.WheelPlays over the contracts.
-/
import Derived.Test.YtcekpkjibabjmaaVPair
import Derived.Test.YtcekpkjibabjmaaWStp
namespace Go.Proofs.Ytcekpkjibabjmaa
open Go.RowKit
set_option linter.unusedSimpArgs false
set_option linter.unusedVariables false

theorem set_now (s : St) (id n : Int) : (s.set id n).now = s.now := by unfold St.set; split <;> rfl
theorem due_le {s : St} (h : s.ok) : s.due.length ≤ 64 := by
  unfold St.due dueL
  rw [List.length_map]
  exact Nat.le_trans (List.length_filter_le _ _) h.most
/-- A round's own step lies in a block apart. -/
theorem play_start {w wr : World} {B B2 : Nat} {s : St} (hp : Pair (From w.heap.size) wr B B2 s s) (hbe : Below w.heap.size w wr) (K id n : Int) :
    ∃ (T : Nat → Prop) (w5 : World), wr.alloc (.cells #[.int .i64 K, .int .i64 id, .int .i64 n] 30) = w5 ∧ Pair T w5 B B2 s s ∧
      (∀ w', But T w5 w' → w'.cell? ⟨wr.heap.size, 1, none⟩ = some (.int .i64 id) ∧ w'.cell? ⟨wr.heap.size, 2, none⟩ = some (.int .i64 n)) ∧
      (∀ w' s', But T w5 w' → Pair T w' B B2 s' s' → Pair (From w.heap.size) w' B B2 s' s' ∧ Below w.heap.size w w') := by
  obtain ⟨w5, hw5⟩ : ∃ w5, wr.alloc (.cells #[.int .i64 K, .int .i64 id, .int .i64 n] 30) = w5 := ⟨_, rfl⟩
  have hb5 : Below wr.heap.size wr w5 := by rw [← hw5]; exact (Below.refl _ _).alloc (Nat.le_refl _) _
  have hs5 : wr.heap.size < w5.heap.size := by rw [← hw5]; simp
  have hh5 : w5.heap[wr.heap.size]? = some (.cells #[.int .i64 K, .int .i64 id, .int .i64 n] 30 (0, 0)) := by rw [← hw5]; exact heap_alloc_new _ _
  have hsz := hbe.size
  refine ⟨fun k => From w.heap.size k ∧ k ≠ wr.heap.size, w5, hw5, hp.narrow hb5 (fun k h hk => ⟨h, by omega⟩) (fun k hk => ⟨by show w.heap.size ≤ k; omega, by omega⟩), fun w' hb => ?_, fun w' s' hb hp' => ?_⟩
  · have hh := (hb.block wr.heap.size hs5 (fun h => h.2 rfl)).trans hh5
    exact ⟨by rw [cell_of_row _ _ _ _ _ _ hh]; rfl, by rw [cell_of_row _ _ _ _ _ _ hh]; rfl⟩
  · have h2 := hb.size
    refine ⟨hp'.narrow (Below.refl _ _) (fun k h _ => h.1) (fun k hk => by show w.heap.size ≤ k; omega), ?_⟩
    exact (hbe.trans (hb5.mono hsz)).trans (hb.below (by omega) (fun k hk h => by have : w.heap.size ≤ k := h.1; omega))
def playS6 (_ : Nat → Prop) (B : Nat) (B2 : Nat) (bx : Nat) (x : Stp) (y : Bool) : Nat → Value → World → Prop
  | 0, v, _ => v = .pointer (some ⟨B, 0, none⟩)
  | 1, v, _ => v = .pointer (some ⟨bx, 1, none⟩)
  | 2, v, _ => v = .int .i64 x.id
  | 3, v, _ => v = .pointer (some ⟨bx, 2, none⟩)
  | 4, v, _ => v = .int .i64 x.n
  | 5, v, _ => v = .bool y
  | 6, v, _ => v = .pointer (some ⟨B2, 0, none⟩)
  | 7, v, _ => v = .pointer (some ⟨bx, 1, none⟩)
  | 8, v, _ => v = .int .i64 x.id
  | 9, v, _ => v = .pointer (some ⟨bx, 2, none⟩)
  | 10, v, _ => v = .int .i64 x.n
  | 11, v, _ => v = .bool y
  | 12, v, _ => v = .bool false
  | _, _, _ => True
theorem playS6_stable (S : Nat → Prop) (B : Nat) (B2 : Nat) (bx : Nat) (x : Stp) (y : Bool) : ∀ i v w w', playS6 S B B2 bx x y i v w → But S w w' → playS6 S B B2 bx x y i v w'
  | 0, _, _, _, h, _ | 1, _, _, _, h, _ | 2, _, _, _, h, _ | 3, _, _, _, h, _ | 4, _, _, _, h, _ | 5, _, _, _, h, _ | 6, _, _, _, h, _ | 7, _, _, _, h, _ | 8, _, _, _, h, _ | 9, _, _, _, h, _ | 10, _, _, _, h, _ | 11, _, _, _, h, _ | 12, _, _, _, h, _ => h
  | _ + 13, _, _, _, h, _ => h
def playT6 (_ : Nat → Prop) (B : Nat) (B2 : Nat) (bx : Nat) (x : Stp) (y : Bool) : Nat → Value → World → Prop
  | 0, v, _ => v = .pointer (some ⟨B, 0, none⟩)
  | 1, v, _ => v = .pointer (some ⟨bx, 1, none⟩)
  | 2, v, _ => v = .int .i64 x.id
  | 3, v, _ => v = .bool y
  | 4, v, _ => v = .pointer (some ⟨B2, 0, none⟩)
  | 5, v, _ => v = .pointer (some ⟨bx, 1, none⟩)
  | 6, v, _ => v = .int .i64 x.id
  | 7, v, _ => v = .bool y
  | 8, v, _ => v = .bool false
  | _, _, _ => True
theorem playT6_stable (S : Nat → Prop) (B : Nat) (B2 : Nat) (bx : Nat) (x : Stp) (y : Bool) : ∀ i v w w', playT6 S B B2 bx x y i v w → But S w w' → playT6 S B B2 bx x y i v w'
  | 0, _, _, _, h, _ | 1, _, _, _, h, _ | 2, _, _, _, h, _ | 3, _, _, _, h, _ | 4, _, _, _, h, _ | 5, _, _, _, h, _ | 6, _, _, _, h, _ | 7, _, _, _, h, _ | 8, _, _, _, h, _ => h
  | _ + 9, _, _, _, h, _ => h

set_option maxHeartbeats 16000000 in
set_option maxRecDepth 100000 in
theorem plays_walk (A : Option Addr) (n c : Nat) (ss : List Stp) (w : World) (hS : SStp w A n ss) (hok : ∀ x ∈ ss, okStp x) (hn : n ≤ maxLen) :
    Calls Try.prog 3 #[.slice A n c] w fun e w' => e = .returned (.bool true) ∧ Below w.heap.size w w' := by
  unfold maxLen at hn
  have HNew := Lib.hid (new_at w)
  have HWk := Lib.hid (fun w => works_any w)
  have HSS := Lib.hid hS
  have HSl := Lib.hid hS.1
  have HOK := Lib.hid hok
  clear hS hok
  go_enter Try.func3, Try.ntmps3
  go_wp2_with fail
  refine HNew.out.mono ?_
  rintro e w1 ⟨B, rfl, h1, hb1⟩
  have HP1 := Lib.hid (pair_new h1 hb1)
  have HB1 : Hid (Below w.heap.size w (w1.alloc (.cells #[.int .i64 0, .slice none 0 0] 28))) := Lib.hid (hb1.alloc hb1.size _)
  clear h1 hb1
  go_wp2
  obtain ⟨w2, hw2⟩ : ∃ w2, w1.alloc (.cells #[.int .i64 0, .slice none 0 0] 28) = w2 := ⟨_, rfl⟩
  obtain ⟨B2, hB2⟩ : ∃ B2, w1.heap.size = B2 := ⟨_, rfl⟩
  rw [hw2, hB2] at HP1
  rw [hw2] at HB1 ⊢
  rw [hB2]
  clear hw2 hB2
  go_loopw [5] (fun kv wr => ∃ (k : Nat) (s : St), kv = .int .i64 (k : Int) ∧ k ≤ n ∧ k ≤ 60 ∧ s.now ≤ 300 * k ∧ Hid (Pair (From w.heap.size) wr B B2 s s) ∧ Hid (Below w.heap.size w wr)) (fun kv _ => 60 - (RowKit.intOf kv).toNat)
  case atStart => exact ⟨0, St.new, rfl, Nat.zero_le _, by omega, Nat.zero_le _, HP1, HB1⟩
  case round =>
    obtain ⟨k, s, rfl, hk, hk60, hnow, hp, hbe⟩ := hrel
    by_cases hlt : k < n ∧ k < 60
    · obtain ⟨hlt1, hlt2⟩ := hlt
      have hk' : k < ss.length := by rw [HSl.out]; exact hlt1
      obtain ⟨b, off, rfl, hbl, hat⟩ := HSS.out.2 (by omega)
      have hx := hat k hk'
      obtain ⟨x, hxx⟩ : ∃ x, ss[k] = x := ⟨_, rfl⟩
      have hokx : okStp x := by rw [← hxx]; exact HOK.out _ (List.getElem_mem hk')
      rw [hxx] at hx
      obtain ⟨ck, ci, cn⟩ := hx.of_block (hbe.out.block b hbl)
      have hwx : wfI x.id ∧ wfI x.n := ⟨hokx.2.1, hokx.2.2⟩
      have q1 : (0 : Int) ≤ (k : Int) := by omega
      have q2 : (k : Int) < (n : Int) := by omega
      have q3 : (k : Int) < 60 := by omega
      have hN : s.now ≤ 1099511627776 := by omega
      clear hat hx hxx hk' hokx
      have hk4 : x.kind = 0 ∨ x.kind = 1 ∨ x.kind = 2 ∨ (x.kind ≠ 0 ∧ x.kind ≠ 1 ∧ x.kind ≠ 2) := by omega
      rcases hk4 with hkd | hkd | hkd | ⟨hkd, hkd1, hkd2⟩
      · rw [hkd] at ck
        clear hkd
        go_wp2
        obtain ⟨T, w5, hw5, hp5, hbx, hback⟩ := play_start hp.out hbe.out (0) x.id x.n
        rw [hw5]
        obtain ⟨bx, hbx0⟩ : ∃ bx, wr.heap.size = bx := ⟨_, rfl⟩
        rw [hbx0] at hbx
        rw [hbx0]
        have HP5 := Lib.hid hp5
        have HBx := Lib.hid hbx
        have HBack := Lib.hid hback
        clear hw5 hp5 hbx hback hbx0 ck ci cn
        obtain ⟨y, hy⟩ : ∃ y, s.may x.id x.n = y := ⟨_, rfl⟩
        obtain ⟨s', hs2⟩ : ∃ s', s.set x.id x.n = s' := ⟨_, rfl⟩
        have hnw2 : s'.now = s.now := by rw [← hs2]; exact set_now _ _ _
        have HCall : Hid ((∀ w' s2, Pair T w' B B2 s s2 → Calls Try.prog 8 #[.pointer (some ⟨B, 0, none⟩), .int .i64 x.id, .int .i64 x.n] w' fun e w2 => e = .returned (.bool y) ∧ Pair T w2 B B2 s' s2 ∧ But T w' w2) ∧
          (∀ w' s1, Pair T w' B B2 s1 s → Calls Try.prog 9 #[.pointer (some ⟨B2, 0, none⟩), .int .i64 x.id, .int .i64 x.n] w' fun e w2 => e = .returned (.bool y) ∧ Pair T w2 B B2 s1 s' ∧ But T w' w2)) := Lib.hid ⟨fun w' s2 h => by rw [← hy, ← hs2]; exact pair_set h x.id x.n hwx.1 hwx.2 hN, fun w' s1 h => by rw [← hy, ← hs2]; exact pair_rset h x.id x.n hwx.1 hwx.2 hN⟩
        clear hy hs2
        refine Go.Rel.wp_region_states (by kernel_rfl) (by kernel_rfl) (by kernel_rfl) (by kernel_rfl) (fun f w => Pair T w B B2 (bif f 5 then s' else s) (bif f 11 then s' else s)) (But T) (fun _ _ _ h k => h.trans k) ((But.refl _ _).drew) (HP5.out.below ⟨rfl, rfl, rfl, Nat.le_refl _, fun _ _ => rfl⟩) (playS6 T B B2 bx x y) (playS6_stable T B B2 bx x y) ?hsteps ?hend
        case hsteps =>
          refine (.cons ?_ (.cons ?_ (.cons ?_ (.cons ?_ (.cons ?_ (.cons ?_ (.cons ?_ (.cons ?_ (.cons ?_ (.cons ?_ (.cons ?_ (.cons ?_ (.cons ?_ .nil)))))))))))))
          · intro f a w' hI hf hanc hdesc hle hs' hd K hK
            have f3 : a.tmps[3]? = some (.pointer (some ⟨B, 0, none⟩)) := hs'.2.2 3 (by kernel_rfl)
            unfold Go.Rel.stepOf
            go_simp
            exact hK _ _ (But.refl _ _) (hI) rfl
          · intro f a w' hI hf hanc hdesc hle hs' hd K hK
            have f6 : a.tmps[6]? = some (.pointer (some ⟨bx, 0, none⟩)) := hs'.2.2 6 (by kernel_rfl)
            unfold Go.Rel.stepOf
            go_simp
            exact hK _ _ (But.refl _ _) (hI) rfl
          · intro f a w' hI hf hanc hdesc hle hs' hd K hK
            obtain ⟨_, t1, rfl⟩ := hd 1 30 (by kernel_rfl)
            have cc := (HBx.out w' hle).1
            unfold Go.Rel.stepOf
            go_simp
            exact hK _ _ (But.refl _ _) (hI) rfl
          · intro f a w' hI hf hanc hdesc hle hs' hd K hK
            have f6 : a.tmps[6]? = some (.pointer (some ⟨bx, 0, none⟩)) := hs'.2.2 6 (by kernel_rfl)
            unfold Go.Rel.stepOf
            go_simp
            exact hK _ _ (But.refl _ _) (hI) rfl
          · intro f a w' hI hf hanc hdesc hle hs' hd K hK
            obtain ⟨_, t3, rfl⟩ := hd 3 32 (by kernel_rfl)
            have cc := (HBx.out w' hle).2
            unfold Go.Rel.stepOf
            go_simp
            exact hK _ _ (But.refl _ _) (hI) rfl
          · intro f a w' hI hf hanc hdesc hle hs' hd K hK
            obtain ⟨_, t0, rfl⟩ := hd 0 29 (by kernel_rfl)
            obtain ⟨_, t2, rfl⟩ := hd 2 31 (by kernel_rfl)
            obtain ⟨_, t4, rfl⟩ := hd 4 33 (by kernel_rfl)
            have hst := hI
            rw [hf] at hst
            unfold Go.Rel.stepOf
            go_simp
            refine (HCall.out.1 w' _ hst).mono ?_
            rintro e w2 ⟨rfl, hp5, hb5⟩
            exact hK _ _ hb5 hp5 rfl
          · intro f a w' hI hf hanc hdesc hle hs' hd K hK
            have f4 : a.tmps[4]? = some (.pointer (some ⟨B2, 0, none⟩)) := hs'.2.2 4 (by kernel_rfl)
            unfold Go.Rel.stepOf
            go_simp
            exact hK _ _ (But.refl _ _) (hI) rfl
          · intro f a w' hI hf hanc hdesc hle hs' hd K hK
            have f6 : a.tmps[6]? = some (.pointer (some ⟨bx, 0, none⟩)) := hs'.2.2 6 (by kernel_rfl)
            unfold Go.Rel.stepOf
            go_simp
            exact hK _ _ (But.refl _ _) (hI) rfl
          · intro f a w' hI hf hanc hdesc hle hs' hd K hK
            obtain ⟨_, t7, rfl⟩ := hd 7 36 (by kernel_rfl)
            have cc := (HBx.out w' hle).1
            unfold Go.Rel.stepOf
            go_simp
            exact hK _ _ (But.refl _ _) (hI) rfl
          · intro f a w' hI hf hanc hdesc hle hs' hd K hK
            have f6 : a.tmps[6]? = some (.pointer (some ⟨bx, 0, none⟩)) := hs'.2.2 6 (by kernel_rfl)
            unfold Go.Rel.stepOf
            go_simp
            exact hK _ _ (But.refl _ _) (hI) rfl
          · intro f a w' hI hf hanc hdesc hle hs' hd K hK
            obtain ⟨_, t9, rfl⟩ := hd 9 38 (by kernel_rfl)
            have cc := (HBx.out w' hle).2
            unfold Go.Rel.stepOf
            go_simp
            exact hK _ _ (But.refl _ _) (hI) rfl
          · intro f a w' hI hf hanc hdesc hle hs' hd K hK
            obtain ⟨_, t6, rfl⟩ := hd 6 35 (by kernel_rfl)
            obtain ⟨_, t8, rfl⟩ := hd 8 37 (by kernel_rfl)
            obtain ⟨_, t10, rfl⟩ := hd 10 39 (by kernel_rfl)
            have hst := hI
            rw [hf] at hst
            unfold Go.Rel.stepOf
            go_simp
            refine (HCall.out.2 w' _ hst).mono ?_
            rintro e w2 ⟨rfl, hp5, hb5⟩
            exact hK _ _ hb5 hp5 rfl
          · intro f a w' hI hf hanc hdesc hle hs' hd K hK
            obtain ⟨_, t5, rfl⟩ := hd 5 34 (by kernel_rfl)
            obtain ⟨_, t11, rfl⟩ := hd 11 40 (by kernel_rfl)
            unfold Go.Rel.stepOf
            go_simp
            exact hK _ _ (But.refl _ _) (hI) rfl
        case hend =>
          intro f a w6 hall hI hle hs' hR'
          have hf1 := hall 5 (by decide)
          have hf2 := hall 11 (by decide)
          have HP6 : Hid (Pair T w6 B B2 s' s') := Lib.hid (by
            have h := hI
            simp only [hf1, hf2, cond_true] at h
            exact h)
          have HB6 : Hid (But T w5 w6) := Lib.hid hle
          clear hI hall hf1 hf2 hle
          obtain ⟨v29, s29, _⟩ := hR' 0 29 (by kernel_rfl)
          obtain ⟨v30, s30, _⟩ := hR' 1 30 (by kernel_rfl)
          obtain ⟨v31, s31, _⟩ := hR' 2 31 (by kernel_rfl)
          obtain ⟨v32, s32, _⟩ := hR' 3 32 (by kernel_rfl)
          obtain ⟨v33, s33, _⟩ := hR' 4 33 (by kernel_rfl)
          obtain ⟨v34, s34, _⟩ := hR' 5 34 (by kernel_rfl)
          obtain ⟨v35, s35, _⟩ := hR' 6 35 (by kernel_rfl)
          obtain ⟨v36, s36, _⟩ := hR' 7 36 (by kernel_rfl)
          obtain ⟨v37, s37, _⟩ := hR' 8 37 (by kernel_rfl)
          obtain ⟨v38, s38, _⟩ := hR' 9 38 (by kernel_rfl)
          obtain ⟨v39, s39, _⟩ := hR' 10 39 (by kernel_rfl)
          obtain ⟨v40, s40, _⟩ := hR' 11 40 (by kernel_rfl)
          obtain ⟨_, s41, rfl⟩ := hR' 12 41 (by kernel_rfl)
          have e := hs'.shape
          simp only [List.toList_toArray, List.foldl, Go.Rel.reset, Array.getD_eq_getD_getElem?, s29, s30, s31, s32, s33, s34, s35, s36, s37, s38, s39, s40, s41, Option.getD_some] at e
          simp at e
          clear hR' hs' s29 s30 s31 s32 s33 s34 s35 s36 s37 s38 s39 s40 s41
          subst e
          have c1x := (HBx.out w6 HB6.out).1
          have HLk := Lib.hid (pair_looks HP6.out x.id hwx.1 (by omega))
          go_wp2_with fail
          refine HLk.out.mono ?_
          rintro e w7 ⟨rfl, hp7, hb7⟩
          have HF := Lib.hid (HBack.out w7 s' (HB6.out.trans (But.of_below hb7)) hp7)
          clear hp7 hb7 c1x
          go_wp2
          go_roundw
          case rel => exact ⟨k + 1, s', by go_num, by omega, by omega, by omega, Lib.hid HF.out.1, Lib.hid HF.out.2⟩
          case measure => simp [RowKit.intOf]; omega
      · rw [hkd] at ck
        clear hkd
        go_wp2
        obtain ⟨T, w5, hw5, hp5, hbx, hback⟩ := play_start hp.out hbe.out (1) x.id x.n
        rw [hw5]
        obtain ⟨bx, hbx0⟩ : ∃ bx, wr.heap.size = bx := ⟨_, rfl⟩
        rw [hbx0] at hbx
        rw [hbx0]
        have HP5 := Lib.hid hp5
        have HBx := Lib.hid hbx
        have HBack := Lib.hid hback
        clear hw5 hp5 hbx hback hbx0 ck ci cn
        obtain ⟨y, hy⟩ : ∃ y, hasL s.L x.id = y := ⟨_, rfl⟩
        obtain ⟨s', hs2⟩ : ∃ s', s.stop x.id = s' := ⟨_, rfl⟩
        have hnw2 : s'.now = s.now := by rw [← hs2]; exact rfl
        have HCall : Hid ((∀ w' s2, Pair T w' B B2 s s2 → Calls Try.prog 10 #[.pointer (some ⟨B, 0, none⟩), .int .i64 x.id] w' fun e w2 => e = .returned (.bool y) ∧ Pair T w2 B B2 s' s2 ∧ But T w' w2) ∧
          (∀ w' s1, Pair T w' B B2 s1 s → Calls Try.prog 11 #[.pointer (some ⟨B2, 0, none⟩), .int .i64 x.id] w' fun e w2 => e = .returned (.bool y) ∧ Pair T w2 B B2 s1 s' ∧ But T w' w2)) := Lib.hid ⟨fun w' s2 h => by rw [← hy, ← hs2]; exact pair_stop h x.id hwx.1 hN, fun w' s1 h => by rw [← hy, ← hs2]; exact pair_rstop h x.id⟩
        clear hy hs2
        refine Go.Rel.wp_region_states (by kernel_rfl) (by kernel_rfl) (by kernel_rfl) (by kernel_rfl) (fun f w => Pair T w B B2 (bif f 3 then s' else s) (bif f 7 then s' else s)) (But T) (fun _ _ _ h k => h.trans k) ((But.refl _ _).drew) (HP5.out.below ⟨rfl, rfl, rfl, Nat.le_refl _, fun _ _ => rfl⟩) (playT6 T B B2 bx x y) (playT6_stable T B B2 bx x y) ?hsteps ?hend
        case hsteps =>
          refine (.cons ?_ (.cons ?_ (.cons ?_ (.cons ?_ (.cons ?_ (.cons ?_ (.cons ?_ (.cons ?_ (.cons ?_ .nil)))))))))
          · intro f a w' hI hf hanc hdesc hle hs' hd K hK
            have f3 : a.tmps[3]? = some (.pointer (some ⟨B, 0, none⟩)) := hs'.2.2 3 (by kernel_rfl)
            unfold Go.Rel.stepOf
            go_simp
            exact hK _ _ (But.refl _ _) (hI) rfl
          · intro f a w' hI hf hanc hdesc hle hs' hd K hK
            have f6 : a.tmps[6]? = some (.pointer (some ⟨bx, 0, none⟩)) := hs'.2.2 6 (by kernel_rfl)
            unfold Go.Rel.stepOf
            go_simp
            exact hK _ _ (But.refl _ _) (hI) rfl
          · intro f a w' hI hf hanc hdesc hle hs' hd K hK
            obtain ⟨_, t1, rfl⟩ := hd 1 45 (by kernel_rfl)
            have cc := (HBx.out w' hle).1
            unfold Go.Rel.stepOf
            go_simp
            exact hK _ _ (But.refl _ _) (hI) rfl
          · intro f a w' hI hf hanc hdesc hle hs' hd K hK
            obtain ⟨_, t0, rfl⟩ := hd 0 44 (by kernel_rfl)
            obtain ⟨_, t2, rfl⟩ := hd 2 46 (by kernel_rfl)
            have hst := hI
            rw [hf] at hst
            unfold Go.Rel.stepOf
            go_simp
            refine (HCall.out.1 w' _ hst).mono ?_
            rintro e w2 ⟨rfl, hp5, hb5⟩
            exact hK _ _ hb5 hp5 rfl
          · intro f a w' hI hf hanc hdesc hle hs' hd K hK
            have f4 : a.tmps[4]? = some (.pointer (some ⟨B2, 0, none⟩)) := hs'.2.2 4 (by kernel_rfl)
            unfold Go.Rel.stepOf
            go_simp
            exact hK _ _ (But.refl _ _) (hI) rfl
          · intro f a w' hI hf hanc hdesc hle hs' hd K hK
            have f6 : a.tmps[6]? = some (.pointer (some ⟨bx, 0, none⟩)) := hs'.2.2 6 (by kernel_rfl)
            unfold Go.Rel.stepOf
            go_simp
            exact hK _ _ (But.refl _ _) (hI) rfl
          · intro f a w' hI hf hanc hdesc hle hs' hd K hK
            obtain ⟨_, t5, rfl⟩ := hd 5 49 (by kernel_rfl)
            have cc := (HBx.out w' hle).1
            unfold Go.Rel.stepOf
            go_simp
            exact hK _ _ (But.refl _ _) (hI) rfl
          · intro f a w' hI hf hanc hdesc hle hs' hd K hK
            obtain ⟨_, t4, rfl⟩ := hd 4 48 (by kernel_rfl)
            obtain ⟨_, t6, rfl⟩ := hd 6 50 (by kernel_rfl)
            have hst := hI
            rw [hf] at hst
            unfold Go.Rel.stepOf
            go_simp
            refine (HCall.out.2 w' _ hst).mono ?_
            rintro e w2 ⟨rfl, hp5, hb5⟩
            exact hK _ _ hb5 hp5 rfl
          · intro f a w' hI hf hanc hdesc hle hs' hd K hK
            obtain ⟨_, t3, rfl⟩ := hd 3 47 (by kernel_rfl)
            obtain ⟨_, t7, rfl⟩ := hd 7 51 (by kernel_rfl)
            unfold Go.Rel.stepOf
            go_simp
            exact hK _ _ (But.refl _ _) (hI) rfl
        case hend =>
          intro f a w6 hall hI hle hs' hR'
          have hf1 := hall 3 (by decide)
          have hf2 := hall 7 (by decide)
          have HP6 : Hid (Pair T w6 B B2 s' s') := Lib.hid (by
            have h := hI
            simp only [hf1, hf2, cond_true] at h
            exact h)
          have HB6 : Hid (But T w5 w6) := Lib.hid hle
          clear hI hall hf1 hf2 hle
          obtain ⟨v44, s44, _⟩ := hR' 0 44 (by kernel_rfl)
          obtain ⟨v45, s45, _⟩ := hR' 1 45 (by kernel_rfl)
          obtain ⟨v46, s46, _⟩ := hR' 2 46 (by kernel_rfl)
          obtain ⟨v47, s47, _⟩ := hR' 3 47 (by kernel_rfl)
          obtain ⟨v48, s48, _⟩ := hR' 4 48 (by kernel_rfl)
          obtain ⟨v49, s49, _⟩ := hR' 5 49 (by kernel_rfl)
          obtain ⟨v50, s50, _⟩ := hR' 6 50 (by kernel_rfl)
          obtain ⟨v51, s51, _⟩ := hR' 7 51 (by kernel_rfl)
          obtain ⟨_, s52, rfl⟩ := hR' 8 52 (by kernel_rfl)
          have e := hs'.shape
          simp only [List.toList_toArray, List.foldl, Go.Rel.reset, Array.getD_eq_getD_getElem?, s44, s45, s46, s47, s48, s49, s50, s51, s52, Option.getD_some] at e
          simp at e
          clear hR' hs' s44 s45 s46 s47 s48 s49 s50 s51 s52
          subst e
          have c1x := (HBx.out w6 HB6.out).1
          have HLk := Lib.hid (pair_looks HP6.out x.id hwx.1 (by omega))
          go_wp2_with fail
          refine HLk.out.mono ?_
          rintro e w7 ⟨rfl, hp7, hb7⟩
          have HF := Lib.hid (HBack.out w7 s' (HB6.out.trans (But.of_below hb7)) hp7)
          clear hp7 hb7 c1x
          go_wp2
          go_roundw
          case rel => exact ⟨k + 1, s', by go_num, by omega, by omega, by omega, Lib.hid HF.out.1, Lib.hid HF.out.2⟩
          case measure => simp [RowKit.intOf]; omega
      · rw [hkd] at ck
        clear hkd
        go_wp2
        obtain ⟨T, w5, hw5, hp5, hbx, hback⟩ := play_start hp.out hbe.out (2) x.id x.n
        rw [hw5]
        obtain ⟨bx, hbx0⟩ : ∃ bx, wr.heap.size = bx := ⟨_, rfl⟩
        rw [hbx0] at hbx
        rw [hbx0]
        have HP5 := Lib.hid hp5
        have HBx := Lib.hid hbx
        have HBack := Lib.hid hback
        clear hw5 hp5 hbx hback hbx0 ck ci cn
        obtain ⟨r, hr, hmany⟩ : ∃ r : Nat, r < 300 ∧ ∀ w', Calls Try.prog 12 #[.int .i64 x.n] w' fun e w2 => e = .returned (.int .i64 (r : Int)) ∧ w' = w2 :=
          ⟨_, Nat.mod_lt _ (by omega), fun w' => (many_any x.n hwx.2 w').mono (fun e w2 ⟨⟨r, _, he, e2⟩, hw⟩ => ⟨by rw [he, e2], hw⟩)⟩
        have HMany := Lib.hid hmany
        clear hmany
        go_loopw [7] (fun jv wv => ∃ (j : Nat) (s' : St), jv = .int .i64 (j : Int) ∧ j ≤ r ∧ s'.now = s.now + j ∧ Hid (Pair T wv B B2 s' s') ∧ Hid (But T w5 wv)) (fun jv _ => r - (RowKit.intOf jv).toNat)
        case atStart => exact ⟨0, s, rfl, Nat.zero_le _, rfl, HP5, Lib.hid (But.refl _ _)⟩
        case round =>
          obtain ⟨j, s', rfl, hj, hn2, HP6, HB6⟩ := hrel
          obtain ⟨c1y, c2y⟩ := HBx.out _ HB6.out
          by_cases hjr : j < r
          · have z1 : (j : Int) < (r : Int) := by omega
            have HTick := Lib.hid (fun (s2 : St) (w' : World) (h : Pair T w' B B2 s' s2) => pair_tick h (by omega))
            have HRTick := Lib.hid (fun (s1 : St) (w' : World) (h : Pair T w' B B2 s1 s') => pair_rtick h (by omega))
            obtain ⟨D, hD⟩ : ∃ D, s'.due = D := ⟨_, rfl⟩
            have hD64 : D.length ≤ 64 := by rw [← hD]; exact due_le HP6.out.ok
            have HNow : Hid (s'.tick.now = s.now + (j + 1)) := Lib.hid (by show s'.now + 1 = _; omega)
            obtain ⟨s3, hs3⟩ : ∃ s3, s'.tick = s3 := ⟨_, rfl⟩
            rw [hD, hs3] at HTick HRTick
            rw [hs3] at HNow
            clear hD hs3
            go_wp2_with fail
            refine (HMany.out _).mono ?_
            rintro e wq ⟨rfl, rfl⟩
            go_wp2_with fail
            refine (HTick.out _ _ HP6.out).mono ?_
            rintro e w7 ⟨⟨v, rfl, hv, hvb⟩, hp7, hb7⟩
            have HV := Lib.hid hv
            have HVb := Lib.hid hvb
            have HP7 := Lib.hid hp7
            have HB7 := Lib.hid (HB6.out.trans hb7)
            clear hv hvb hp7 hb7
            go_wp2_with fail
            refine (HRTick.out _ _ HP7.out).mono ?_
            rintro e w8 ⟨⟨v2, rfl, hv2⟩, hp8, hb8⟩
            have hv1 := own_but HV.out hb8 HVb.out
            obtain ⟨A1, e1, rfl, hr1, _⟩ := row_shape hv1
            obtain ⟨A2, e2, rfl, hr2, _⟩ := row_shape hv2
            have HSm := Lib.hid (same_any A1 A2 _ e1 e2 D w8 hr1 hr2 (by omega))
            have HP8 := Lib.hid hp8
            have HB8 : Hid (But T w5 w8) := Lib.hid (HB7.out.trans (hb8.mono (fun k e => by rw [e]; exact hp8.tB2)))
            clear hv1 hv2 hr1 hr2 hp8 hb8 HV HVb
            go_wp2_with fail
            refine HSm.out.mono ?_
            rintro e w9 ⟨rfl, hb9⟩
            have HP9 := Lib.hid (HP8.out.below hb9)
            have HB9 := Lib.hid (HB8.out.trans (But.of_below hb9))
            clear hb9
            go_wp2
            go_roundw
            case rel => exact ⟨j + 1, s3, by go_num, by omega, HNow.out, HP9, HB9⟩
            case measure => simp [RowKit.intOf]; omega
          · obtain rfl : j = r := by omega
            go_wp2_with fail
            refine (HMany.out _).mono ?_
            rintro e wq ⟨rfl, rfl⟩
            clear c1y
            have c1x := (HBx.out _ HB6.out).1
            have HLk := Lib.hid (pair_looks HP6.out x.id hwx.1 (by omega))
            go_wp2_with fail
            refine HLk.out.mono ?_
            rintro e w7 ⟨rfl, hp7, hb7⟩
            have HF := Lib.hid (HBack.out w7 s' (HB6.out.trans (But.of_below hb7)) hp7)
            clear hp7 hb7 c1x
            go_wp2
            go_roundw
            case rel => exact ⟨k + 1, s', by go_num, by omega, by omega, by omega, Lib.hid HF.out.1, Lib.hid HF.out.2⟩
            case measure => simp [RowKit.intOf]; omega
      · have z0 : (x.kind == 0) = false := by rw [beq_eq_false_iff_ne]; exact hkd
        have z1 : (x.kind == 1) = false := by rw [beq_eq_false_iff_ne]; exact hkd1
        have z2 : (x.kind == 2) = false := by rw [beq_eq_false_iff_ne]; exact hkd2
        obtain ⟨T, w5, hw5, hp5, hbx, hback⟩ := play_start hp.out hbe.out x.kind x.id x.n
        have HP6 := Lib.hid hp5
        have HB6 : Hid (But T w5 w5) := Lib.hid (But.refl _ _)
        have HBack := Lib.hid hback
        have HLk := Lib.hid (pair_looks HP6.out x.id hwx.1 (by omega))
        rw [← hw5] at HLk
        have HW5 := Lib.hid hw5
        clear hp5 hbx hback hkd hkd1 hkd2 hw5
        go_wp2_with fail
        refine HLk.out.mono ?_
        rintro e w7 ⟨rfl, hp7, hb7⟩
        rw [HW5.out] at hb7
        have HF := Lib.hid (HBack.out w7 s (But.of_below hb7) hp7)
        clear hp7 hb7
        go_wp2
        go_roundw
        case rel => exact ⟨k + 1, s, by go_num, by omega, by omega, by omega, Lib.hid HF.out.1, Lib.hid HF.out.2⟩
        case measure => simp [RowKit.intOf]; omega
    · have hge : ¬ ((k : Int) < (n : Int)) ∨ ((k : Int) < (n : Int) ∧ ¬ ((k : Int) < 60)) := by omega
      clear hlt
      rcases hge with q1 | ⟨q1, q2⟩
      all_goals
        have HWr := Lib.hid (HWk.out wr)
        go_wp2_with fail
        refine HWr.out.mono ?_
        rintro e w4 ⟨rfl, hb4⟩
        go_wp2
        go_ret
        exact ⟨rfl, hbe.out.trans (hb4.mono hbe.out.size)⟩
end Go.Proofs.Ytcekpkjibabjmaa
