/-
  put of the program's wheel, walked (layer 6).
-/
import Derived.Test.YtcekpkjibabjmaaWRow
namespace Go.Proofs.Ytcekpkjibabjmaa
open Go.RowKit
set_option linter.unusedSimpArgs false
set_option linter.unusedVariables false

def putR (S : Nat → Prop) (w0 : World) (B : Nat) (lv : Int) (j : Nat) (A1 : Nat) (O : Nat) (id : Int) (u : Value) (v1 : Value) (l : List Int) (room : Prop) : Nat → Value → World → Prop
  | 0, v, _ => v = .pointer (some ⟨B, 0, none⟩)
  | 1, v, _ => v = .int .i64 lv
  | 2, v, _ => v = .int .i64 (j : Int)
  | 3, v, _ => v = .pointer (some ⟨B, 0, none⟩)
  | 4, v, _ => v = .int .i64 lv
  | 5, v, _ => v = .int .i64 (j : Int)
  | 6, v, _ => v = .pointer (some ⟨B, 0, none⟩)
  | 7, v, _ => v = .pointer (some ⟨B, 2, none⟩)
  | 8, v, _ => v = .pointer (some ⟨B, A1, none⟩)
  | 9, v, _ => v = .pointer (some ⟨B, O, none⟩)
  | 10, v, _ => v = u
  | 11, v, _ => v = .int .i64 id
  | 12, v, w => ∃ X, v = .slice (some ⟨X, 0, none⟩) 1 1 ∧ w0.heap.size ≤ X ∧ X < w.heap.size ∧ w.cell? ⟨X, 0, none⟩ = some (.int .i64 id)
  | 13, v, w => rowR room v1 l w0 v w
  | 14, v, _ => v = .pointer (some ⟨B, 0, none⟩)
  | 15, v, _ => v = .pointer (some ⟨B, 2, none⟩)
  | 16, v, _ => v = .pointer (some ⟨B, A1, none⟩)
  | 17, v, _ => v = .pointer (some ⟨B, O, none⟩)
  | 18, v, _ => v = undef
  | _, _, _ => True
theorem putR_stable (S : Nat → Prop) (w0 : World) (B : Nat) (lv : Int) (j : Nat) (A1 : Nat) (O : Nat) (id : Int) (u : Value) (v1 : Value) (l : List Int) (room : Prop) : ∀ i v w w', putR S w0 B lv j A1 O id u v1 l room i v w → But (Olds S w0) w w' → putR S w0 B lv j A1 O id u v1 l room i v w'
  | 0, _, _, _, h, _ | 1, _, _, _, h, _ | 2, _, _, _, h, _ | 3, _, _, _, h, _ | 4, _, _, _, h, _ | 5, _, _, _, h, _ | 6, _, _, _, h, _ | 7, _, _, _, h, _ | 8, _, _, _, h, _ | 9, _, _, _, h, _ | 10, _, _, _, h, _ | 11, _, _, _, h, _ | 14, _, _, _, h, _ | 15, _, _, _, h, _ | 16, _, _, _, h, _ | 17, _, _, _, h, _ | 18, _, _, _, h, _ => h
  | 12, _, _, _, h, g => by obtain ⟨X, e, h0, h1, h2⟩ := h; exact ⟨X, e, h0, Nat.lt_of_lt_of_le h1 g.size, (g.cell (p := ⟨X, 0, none⟩) h1 (fun hs => absurd hs.2 (Nat.not_lt.2 h0))).trans h2⟩
  | 13, _, _, _, h, g => rowR_stable h g
  | _ + 19, _, _, _, h, _ => h

theorem lvl_cases {D l : Nat} (h : lvl D = l) : (l = 0 ∧ D < 64) ∨ (l = 1 ∧ 64 ≤ D ∧ D < 4096) ∨ (l = 2 ∧ 4096 ≤ D) := by
  unfold lvl at h
  split at h
  · exact .inl ⟨h.symm, by omega⟩
  · split at h
    · exact .inr (.inl ⟨h.symm, by omega, by omega⟩)
    · exact .inr (.inr ⟨h.symm, by omega⟩)
set_option maxHeartbeats 8000000 in
set_option maxRecDepth 100000 in
theorem put_any {S : Nat → Prop} {B M N n : Nat} {g : Nat → Value} {m : Mp} {q : Nat → List Int} (w0 : World) (h : WhIs S w0 B M g N m n q) (hcl : ∀ k, w0.heap.size ≤ k → S k) (id : Int) (hid : wfI id) (d lz : Nat) (h1 : N ≤ d) (h2 : d ≤ N + 262144) (hN : N ≤ 1099511627776) (hlz : lvl (d - N) = lz)
    (hq : (q (slotOf lz d)).length ≤ 4096) (hn : n ≤ 4294967296) :
    Calls Try.prog 23 #[.pointer (some ⟨B, 0, none⟩), .int .i64 id, .int .i64 (d : Int)] w0 fun e w' => e = .returned (.tuple #[]) ∧
      ∃ g', WhIs S w' B M g' N (upM m id (some (d, lz))) (n + 1) (upQ q (slotOf lz d) (q (slotOf lz d) ++ [id])) ∧ Kept S w0 w' := by
  have hl3 : lz < 3 := by rw [← hlz]; exact lvl_lt _
  have hk := slotOf_lt hl3 d
  have hp := place_of (t := d) hl3
  have HSl := Lib.hid (fun w => slot_any d lz w hl3 (by omega))
  obtain ⟨Ks, hK⟩ : ∃ Ks, slotOf lz d = Ks := ⟨_, rfl⟩
  rw [hK] at hk hp hq ⊢
  obtain ⟨j, hj⟩ : ∃ j, blkOf lz d % 64 = j := ⟨_, rfl⟩
  have hj64 : j < 64 := by omega
  have q3 : (j : Int) < 64 := by omega
  rw [hj] at HSl hp
  obtain ⟨O, hO⟩ : ∃ O, 2 + Ks = O := ⟨_, rfl⟩
  rw [hO] at hp
  have hrow := h.rows.own Ks hk
  obtain ⟨room, v1, hr1, hr2⟩ := row_room hrow
  obtain ⟨u, hu⟩ : ∃ u, g Ks = u := ⟨_, rfl⟩
  obtain ⟨l, hl⟩ : ∃ l, q Ks ++ [id] = l := ⟨_, rfl⟩
  have hll : l.length = (q Ks).length + 1 := by rw [← hl]; simp
  have HC : Hid (∀ a w, rowI S w0 B M g N m n q Ks l v1 room a false w → w.cell? ⟨B, O, none⟩ = some u) := Lib.hid (fun a w hI => by
    rw [← hO, ← hu]; exact (rowI.cell h hk hI _).1.trans (h.c2 hk))
  have HApp : Hid (∀ w, rowI S w0 B M g N m n q Ks l v1 room false false w → ∀ X, w.cell? ⟨X, 0, none⟩ = some (.int .i64 id) → ∃ v' w', (Builtin.append_ #[35, 35] 35 #[u, .slice (some ⟨X, 0, none⟩) 1 1]).run Try.prog w = .ok v' w' ∧ But (Olds S w0) w w' ∧ rowI S w0 B M g N m n q Ks l v1 room true false w' ∧ rowR room v1 l w0 v' w') := Lib.hid (fun w hI X hX => by
    rw [← hu]; subst hl; exact rowI.append h hk hr1 hr2 hq hI hX _)
  have HSt : Hid (∀ w v, rowI S w0 B M g N m n q Ks l v1 room true false w → rowR room v1 l w0 v w → ∃ b c, v = .slice (some ⟨b, 0, none⟩) l.length c ∧ w.cell? ⟨B, O, none⟩ = some (g Ks) ∧ w.frozen? ⟨B, O, none⟩ = false ∧ But (Olds S w0) w (w.setCell ⟨B, O, none⟩ v) ∧ rowI S w0 B M g N m n q Ks l v1 room true true (w.setCell ⟨B, O, none⟩ v)) := Lib.hid (fun w v hI hR => rowI.store h hk hcl (fun hr => by
    obtain ⟨b, c, e, _, e1⟩ := hr1 hr
    exact ⟨b, c, by rw [hll]; exact e1, by rw [rowB, e]; rfl⟩) hI hR hO)
  have HPut : Hid (∀ g' w, WhIs S w B M g' N m n (upQ q Ks l) → ∃ w', (Instr.mapUpdate 44 (.map (some M)) (.int .i64 id) (.agg #[.int .i64 (d : Int), .int .i64 (lz : Int)])).run Try.prog w = .ok () w' ∧ WhIs S w' B M g' N (upM m id (some (d, lz))) (n + 1) (upQ q Ks l) ∧ Kept S w w') := Lib.hid (fun g' w hW => by
    obtain ⟨w', hrun, hm, hg, _⟩ := hW.map.put hid (d, lz) (by unfold maxLen; omega)
    exact ⟨w', hrun, hW.mapTurn hg hm⟩)
  have HBR : Hid (∀ w, But (fun x => x = B ∨ rowB g Ks x) w0 w → Kept S w0 w) := Lib.hid (fun w hb => h.keptRow hk hb)
  have c0 := h.c0
  have q0 : (0 : Int) ≤ (N : Int) := by omega
  have q1 : (N : Int) ≤ (d : Int) := by omega
  have q2 : (d : Int) ≤ (N : Int) + 262144 := by omega
  have hcs := lvl_cases hlz
  clear hrow hr1 hr2 hu hll hK hj hO hlz h
  rcases hcs with ⟨rfl, hD⟩ | ⟨rfl, hD, hD2⟩ | ⟨rfl, hD⟩
  · obtain ⟨rfl, rfl⟩ : Ks = 0 + j ∧ O = 2 + j := by unfold Place at hp; omega
    have r1 : ¬ (0 : Int) < ((d : Int) - (N : Int)) / 64 := by omega
    obtain ⟨Ks, hK⟩ : ∃ Ks, 0 + j = Ks := ⟨_, rfl⟩
    have HL : Hid (q Ks ++ [id] = l) := Lib.hid (by rw [← hK]; exact hl)
    rw [hK] at HC HApp HSt HPut HBR ⊢
    clear hK hl hp
    go_enter Try.func23, Try.ntmps23
    go_wp2
    refine wp_loop_rounds 1 ?_
    rw [rounds_succ]
    go_wp2_with fail
    refine (HSl.out _).mono ?_
    rintro e w' ⟨rfl, rfl⟩
    go_wp2
    refine Go.Rel.wp_region_states (by kernel_rfl) (by kernel_rfl) (by kernel_rfl) (by kernel_rfl) (fun f w => rowI S w0 B M g N m n q Ks l v1 room (f 13) (f 18) w) (But (Olds S w0)) (fun _ _ _ h k => h.trans k) ((But.refl _ _).drew) rowI.start (putR S w0 B 0 j 2 (2 + j) id u v1 l room) (putR_stable S w0 B 0 j 2 (2 + j) id u v1 l room) ?hsteps ?hend
    case hsteps =>
      refine (.cons ?_ (.cons ?_ (.cons ?_ (.cons ?_ (.cons ?_ (.cons ?_ (.cons ?_ (.cons ?_ (.cons ?_ (.cons ?_ (.cons ?_ (.cons ?_ (.cons ?_ (.cons ?_ (.cons ?_ (.cons ?_ (.cons ?_ (.cons ?_ (.cons ?_ .nil)))))))))))))))))))
      · intro f a w' hI hf hanc hdesc hle hs' hd K hK
        have f0 : a.tmps[0]? = some (.pointer (some ⟨B, 0, none⟩)) := hs'.2.2 0 (by kernel_rfl)
        unfold Go.Rel.stepOf
        go_simp
        exact hK _ _ (But.refl _ _) (hI) rfl
      · intro f a w' hI hf hanc hdesc hle hs' hd K hK
        have f6 : a.tmps[6]? = some (.int .i64 0) := hs'.2.2 6 (by kernel_rfl)
        unfold Go.Rel.stepOf
        go_simp
        exact hK _ _ (But.refl _ _) (hI) rfl
      · intro f a w' hI hf hanc hdesc hle hs' hd K hK
        have f7 : a.tmps[7]? = some (.int .i64 (j : Int)) := hs'.2.2 7 (by kernel_rfl)
        unfold Go.Rel.stepOf
        go_simp
        exact hK _ _ (But.refl _ _) (hI) rfl
      · intro f a w' hI hf hanc hdesc hle hs' hd K hK
        have f0 : a.tmps[0]? = some (.pointer (some ⟨B, 0, none⟩)) := hs'.2.2 0 (by kernel_rfl)
        unfold Go.Rel.stepOf
        go_simp
        exact hK _ _ (But.refl _ _) (hI) rfl
      · intro f a w' hI hf hanc hdesc hle hs' hd K hK
        have f6 : a.tmps[6]? = some (.int .i64 0) := hs'.2.2 6 (by kernel_rfl)
        unfold Go.Rel.stepOf
        go_simp
        exact hK _ _ (But.refl _ _) (hI) rfl
      · intro f a w' hI hf hanc hdesc hle hs' hd K hK
        have f7 : a.tmps[7]? = some (.int .i64 (j : Int)) := hs'.2.2 7 (by kernel_rfl)
        unfold Go.Rel.stepOf
        go_simp
        exact hK _ _ (But.refl _ _) (hI) rfl
      · intro f a w' hI hf hanc hdesc hle hs' hd K hK
        obtain ⟨_, t3, rfl⟩ := hd 3 31 (by kernel_rfl)
        unfold Go.Rel.stepOf
        go_simp
        exact hK _ _ (But.refl _ _) (hI) rfl
      · intro f a w' hI hf hanc hdesc hle hs' hd K hK
        obtain ⟨_, t6, rfl⟩ := hd 6 34 (by kernel_rfl)
        unfold Go.Rel.stepOf
        go_simp
        exact hK _ _ (But.refl _ _) (hI) rfl
      · intro f a w' hI hf hanc hdesc hle hs' hd K hK
        obtain ⟨_, t7, rfl⟩ := hd 7 35 (by kernel_rfl)
        obtain ⟨_, t4, rfl⟩ := hd 4 32 (by kernel_rfl)
        unfold Go.Rel.stepOf
        go_simp
        exact hK _ _ (But.refl _ _) (hI) rfl
      · intro f a w' hI hf hanc hdesc hle hs' hd K hK
        obtain ⟨_, t8, rfl⟩ := hd 8 36 (by kernel_rfl)
        obtain ⟨_, t5, rfl⟩ := hd 5 33 (by kernel_rfl)
        unfold Go.Rel.stepOf
        go_simp
        exact hK _ _ (But.refl _ _) (hI) rfl
      · intro f a w' hI hf hanc hdesc hle hs' hd K hK
        obtain ⟨_, t9, rfl⟩ := hd 9 37 (by kernel_rfl)
        have hz : f 18 = false := hdesc 3 18 (by kernel_rfl)
        have hI2 := hI
        rw [hz] at hI2
        have cc := HC.out _ w' hI2
        unfold Go.Rel.stepOf
        go_simp
        exact hK _ _ (But.refl _ _) (hI) rfl
      · intro f a w' hI hf hanc hdesc hle hs' hd K hK
        have f1 : a.tmps[1]? = some (.int .i64 id) := hs'.2.2 1 (by kernel_rfl)
        unfold Go.Rel.stepOf
        go_simp
        exact hK _ _ (But.refl _ _) (hI) rfl
      · intro f a w' hI hf hanc hdesc hle hs' hd K hK
        obtain ⟨_, t11, rfl⟩ := hd 11 39 (by kernel_rfl)
        have hz : f 18 = false := hdesc 3 18 (by kernel_rfl)
        have ha : f 13 = false := hdesc 2 13 (by kernel_rfl)
        have hI2 := hI
        rw [hz, ha] at hI2
        unfold Go.Rel.stepOf
        go_simp
        refine hK _ _ (But.of_below ((Below.refl _ _).alloc (Nat.le_refl _) _)) ?_ ⟨w'.heap.size, rfl, hI2.size, by simp, by simp⟩
        show rowI S w0 B M g N m n q Ks l v1 room (f 13) (f 18) _
        rw [hz, ha]
        exact hI2.alloc rfl _
      · intro f a w' hI hf hanc hdesc hle hs' hd K hK
        obtain ⟨_, t10, rfl⟩ := hd 10 38 (by kernel_rfl)
        obtain ⟨_, t12, X, rfl, hx0, hx1, hx2⟩ := hd 12 40 (by kernel_rfl)
        have hz : f 18 = false := hdesc 3 18 (by kernel_rfl)
        have hI2 := hI
        rw [hz, hf] at hI2
        obtain ⟨v3, w3, hr3, hb3, hI3, hR3⟩ := HApp.out w' hI2 X hx2
        refine stepOf_append (.tmp 38) (.tmp 40) 35 rfl rfl (by simp [Act.eval, t10]) (by simp [Act.eval, t12]) hr3 (hK _ _ hb3 ?_ hR3)
        show rowI S w0 B M g N m n q Ks l v1 room true (f 18) _
        rw [hz]
        exact hI3
      · intro f a w' hI hf hanc hdesc hle hs' hd K hK
        obtain ⟨_, t0, rfl⟩ := hd 0 28 (by kernel_rfl)
        unfold Go.Rel.stepOf
        go_simp
        exact hK _ _ (But.refl _ _) (hI) rfl
      · intro f a w' hI hf hanc hdesc hle hs' hd K hK
        obtain ⟨_, t14, rfl⟩ := hd 14 42 (by kernel_rfl)
        unfold Go.Rel.stepOf
        go_simp
        exact hK _ _ (But.refl _ _) (hI) rfl
      · intro f a w' hI hf hanc hdesc hle hs' hd K hK
        obtain ⟨_, t15, rfl⟩ := hd 15 43 (by kernel_rfl)
        obtain ⟨_, t1, rfl⟩ := hd 1 29 (by kernel_rfl)
        unfold Go.Rel.stepOf
        go_simp
        exact hK _ _ (But.refl _ _) (hI) rfl
      · intro f a w' hI hf hanc hdesc hle hs' hd K hK
        obtain ⟨_, t16, rfl⟩ := hd 16 44 (by kernel_rfl)
        obtain ⟨_, t2, rfl⟩ := hd 2 30 (by kernel_rfl)
        unfold Go.Rel.stepOf
        go_simp
        exact hK _ _ (But.refl _ _) (hI) rfl
      · intro f a w' hI hf hanc hdesc hle hs' hd K hK
        obtain ⟨_, t17, rfl⟩ := hd 17 45 (by kernel_rfl)
        obtain ⟨_, t13, h13⟩ := hd 13 41 (by kernel_rfl)
        have ha : f 13 = true := hanc 2 13 (by kernel_rfl)
        have hI2 := hI
        rw [hf, ha] at hI2
        obtain ⟨b3, c3, rfl, hc3, hf3, hb3, hI3⟩ := HSt.out w' _ hI2 h13
        unfold Go.Rel.stepOf
        go_simp
        refine hK _ _ hb3 ?_ rfl
        show rowI S w0 B M g N m n q Ks l v1 room (f 13) true _
        rw [ha]
        exact hI3
    case hend =>
      intro f a w3 hall hI hle hs' hR'
      have hz := hall 18 (by decide)
      obtain ⟨g', hW, hb0⟩ := hI.1 hz
      have hb := HBR.out _ hb0
      have HB := Lib.hid hb
      obtain ⟨w4, hrun, hW4, hb4⟩ := HPut.out g' w3 hW
      rw [show ((0 : Nat) : Int) = 0 from rfl] at hrun
      have HW4 := Lib.hid hW4
      have HB4 := Lib.hid hb4
      have c1 := hW.c1
      clear hz hI hW hb hb0 hW4 hb4 hall hle
      obtain ⟨v28, s28, _⟩ := hR' 0 28 (by kernel_rfl)
      obtain ⟨v29, s29, _⟩ := hR' 1 29 (by kernel_rfl)
      obtain ⟨v30, s30, _⟩ := hR' 2 30 (by kernel_rfl)
      obtain ⟨v31, s31, _⟩ := hR' 3 31 (by kernel_rfl)
      obtain ⟨v32, s32, _⟩ := hR' 4 32 (by kernel_rfl)
      obtain ⟨v33, s33, _⟩ := hR' 5 33 (by kernel_rfl)
      obtain ⟨v34, s34, _⟩ := hR' 6 34 (by kernel_rfl)
      obtain ⟨v35, s35, _⟩ := hR' 7 35 (by kernel_rfl)
      obtain ⟨v36, s36, _⟩ := hR' 8 36 (by kernel_rfl)
      obtain ⟨v37, s37, _⟩ := hR' 9 37 (by kernel_rfl)
      obtain ⟨v38, s38, _⟩ := hR' 10 38 (by kernel_rfl)
      obtain ⟨v39, s39, _⟩ := hR' 11 39 (by kernel_rfl)
      obtain ⟨v40, s40, _⟩ := hR' 12 40 (by kernel_rfl)
      obtain ⟨v41, s41, _⟩ := hR' 13 41 (by kernel_rfl)
      obtain ⟨v42, s42, _⟩ := hR' 14 42 (by kernel_rfl)
      obtain ⟨v43, s43, _⟩ := hR' 15 43 (by kernel_rfl)
      obtain ⟨v44, s44, _⟩ := hR' 16 44 (by kernel_rfl)
      obtain ⟨v45, s45, _⟩ := hR' 17 45 (by kernel_rfl)
      have e := hs'.shape
      simp only [List.toList_toArray, List.foldl, Go.Rel.reset, Array.getD_eq_getD_getElem?, s28, s29, s30, s31, s32, s33, s34, s35, s36, s37, s38, s39, s40, s41, s42, s43, s44, s45, Option.getD_some] at e
      simp at e
      clear hR' hs' s28 s29 s30 s31 s32 s33 s34 s35 s36 s37 s38 s39 s40 s41 s42 s43 s44 s45
      subst e
      go_wp2
      go_end0
      exact ⟨rfl, g', by rw [HL.out]; exact HW4.out, HB.out.trans HB4.out⟩
  · obtain ⟨rfl, rfl⟩ : Ks = 64 + j ∧ O = 66 + j := by unfold Place at hp; omega
    have r1 : (0 : Int) < ((d : Int) - (N : Int)) / 64 := by omega
    have r2 : ¬ (0 : Int) < ((d : Int) - (N : Int)) / 4096 := by omega
    obtain ⟨Ks, hK⟩ : ∃ Ks, 64 + j = Ks := ⟨_, rfl⟩
    have HL : Hid (q Ks ++ [id] = l) := Lib.hid (by rw [← hK]; exact hl)
    rw [hK] at HC HApp HSt HPut HBR ⊢
    clear hK hl hp
    go_enter Try.func23, Try.ntmps23
    go_wp2
    refine wp_loop_rounds 2 ?_
    rw [rounds_succ]
    go_wp2_with fail
    rw [rounds_succ]
    go_wp2_with fail
    refine (HSl.out _).mono ?_
    rintro e w' ⟨rfl, rfl⟩
    go_wp2
    refine Go.Rel.wp_region_states (by kernel_rfl) (by kernel_rfl) (by kernel_rfl) (by kernel_rfl) (fun f w => rowI S w0 B M g N m n q Ks l v1 room (f 13) (f 18) w) (But (Olds S w0)) (fun _ _ _ h k => h.trans k) ((But.refl _ _).drew) rowI.start (putR S w0 B 1 j 66 (66 + j) id u v1 l room) (putR_stable S w0 B 1 j 66 (66 + j) id u v1 l room) ?hsteps ?hend
    case hsteps =>
      refine (.cons ?_ (.cons ?_ (.cons ?_ (.cons ?_ (.cons ?_ (.cons ?_ (.cons ?_ (.cons ?_ (.cons ?_ (.cons ?_ (.cons ?_ (.cons ?_ (.cons ?_ (.cons ?_ (.cons ?_ (.cons ?_ (.cons ?_ (.cons ?_ (.cons ?_ .nil)))))))))))))))))))
      · intro f a w' hI hf hanc hdesc hle hs' hd K hK
        have f0 : a.tmps[0]? = some (.pointer (some ⟨B, 0, none⟩)) := hs'.2.2 0 (by kernel_rfl)
        unfold Go.Rel.stepOf
        go_simp
        exact hK _ _ (But.refl _ _) (hI) rfl
      · intro f a w' hI hf hanc hdesc hle hs' hd K hK
        have f6 : a.tmps[6]? = some (.int .i64 1) := hs'.2.2 6 (by kernel_rfl)
        unfold Go.Rel.stepOf
        go_simp
        exact hK _ _ (But.refl _ _) (hI) rfl
      · intro f a w' hI hf hanc hdesc hle hs' hd K hK
        have f7 : a.tmps[7]? = some (.int .i64 (j : Int)) := hs'.2.2 7 (by kernel_rfl)
        unfold Go.Rel.stepOf
        go_simp
        exact hK _ _ (But.refl _ _) (hI) rfl
      · intro f a w' hI hf hanc hdesc hle hs' hd K hK
        have f0 : a.tmps[0]? = some (.pointer (some ⟨B, 0, none⟩)) := hs'.2.2 0 (by kernel_rfl)
        unfold Go.Rel.stepOf
        go_simp
        exact hK _ _ (But.refl _ _) (hI) rfl
      · intro f a w' hI hf hanc hdesc hle hs' hd K hK
        have f6 : a.tmps[6]? = some (.int .i64 1) := hs'.2.2 6 (by kernel_rfl)
        unfold Go.Rel.stepOf
        go_simp
        exact hK _ _ (But.refl _ _) (hI) rfl
      · intro f a w' hI hf hanc hdesc hle hs' hd K hK
        have f7 : a.tmps[7]? = some (.int .i64 (j : Int)) := hs'.2.2 7 (by kernel_rfl)
        unfold Go.Rel.stepOf
        go_simp
        exact hK _ _ (But.refl _ _) (hI) rfl
      · intro f a w' hI hf hanc hdesc hle hs' hd K hK
        obtain ⟨_, t3, rfl⟩ := hd 3 31 (by kernel_rfl)
        unfold Go.Rel.stepOf
        go_simp
        exact hK _ _ (But.refl _ _) (hI) rfl
      · intro f a w' hI hf hanc hdesc hle hs' hd K hK
        obtain ⟨_, t6, rfl⟩ := hd 6 34 (by kernel_rfl)
        unfold Go.Rel.stepOf
        go_simp
        exact hK _ _ (But.refl _ _) (hI) rfl
      · intro f a w' hI hf hanc hdesc hle hs' hd K hK
        obtain ⟨_, t7, rfl⟩ := hd 7 35 (by kernel_rfl)
        obtain ⟨_, t4, rfl⟩ := hd 4 32 (by kernel_rfl)
        unfold Go.Rel.stepOf
        go_simp
        exact hK _ _ (But.refl _ _) (hI) rfl
      · intro f a w' hI hf hanc hdesc hle hs' hd K hK
        obtain ⟨_, t8, rfl⟩ := hd 8 36 (by kernel_rfl)
        obtain ⟨_, t5, rfl⟩ := hd 5 33 (by kernel_rfl)
        unfold Go.Rel.stepOf
        go_simp
        exact hK _ _ (But.refl _ _) (hI) rfl
      · intro f a w' hI hf hanc hdesc hle hs' hd K hK
        obtain ⟨_, t9, rfl⟩ := hd 9 37 (by kernel_rfl)
        have hz : f 18 = false := hdesc 3 18 (by kernel_rfl)
        have hI2 := hI
        rw [hz] at hI2
        have cc := HC.out _ w' hI2
        unfold Go.Rel.stepOf
        go_simp
        exact hK _ _ (But.refl _ _) (hI) rfl
      · intro f a w' hI hf hanc hdesc hle hs' hd K hK
        have f1 : a.tmps[1]? = some (.int .i64 id) := hs'.2.2 1 (by kernel_rfl)
        unfold Go.Rel.stepOf
        go_simp
        exact hK _ _ (But.refl _ _) (hI) rfl
      · intro f a w' hI hf hanc hdesc hle hs' hd K hK
        obtain ⟨_, t11, rfl⟩ := hd 11 39 (by kernel_rfl)
        have hz : f 18 = false := hdesc 3 18 (by kernel_rfl)
        have ha : f 13 = false := hdesc 2 13 (by kernel_rfl)
        have hI2 := hI
        rw [hz, ha] at hI2
        unfold Go.Rel.stepOf
        go_simp
        refine hK _ _ (But.of_below ((Below.refl _ _).alloc (Nat.le_refl _) _)) ?_ ⟨w'.heap.size, rfl, hI2.size, by simp, by simp⟩
        show rowI S w0 B M g N m n q Ks l v1 room (f 13) (f 18) _
        rw [hz, ha]
        exact hI2.alloc rfl _
      · intro f a w' hI hf hanc hdesc hle hs' hd K hK
        obtain ⟨_, t10, rfl⟩ := hd 10 38 (by kernel_rfl)
        obtain ⟨_, t12, X, rfl, hx0, hx1, hx2⟩ := hd 12 40 (by kernel_rfl)
        have hz : f 18 = false := hdesc 3 18 (by kernel_rfl)
        have hI2 := hI
        rw [hz, hf] at hI2
        obtain ⟨v3, w3, hr3, hb3, hI3, hR3⟩ := HApp.out w' hI2 X hx2
        refine stepOf_append (.tmp 38) (.tmp 40) 35 rfl rfl (by simp [Act.eval, t10]) (by simp [Act.eval, t12]) hr3 (hK _ _ hb3 ?_ hR3)
        show rowI S w0 B M g N m n q Ks l v1 room true (f 18) _
        rw [hz]
        exact hI3
      · intro f a w' hI hf hanc hdesc hle hs' hd K hK
        obtain ⟨_, t0, rfl⟩ := hd 0 28 (by kernel_rfl)
        unfold Go.Rel.stepOf
        go_simp
        exact hK _ _ (But.refl _ _) (hI) rfl
      · intro f a w' hI hf hanc hdesc hle hs' hd K hK
        obtain ⟨_, t14, rfl⟩ := hd 14 42 (by kernel_rfl)
        unfold Go.Rel.stepOf
        go_simp
        exact hK _ _ (But.refl _ _) (hI) rfl
      · intro f a w' hI hf hanc hdesc hle hs' hd K hK
        obtain ⟨_, t15, rfl⟩ := hd 15 43 (by kernel_rfl)
        obtain ⟨_, t1, rfl⟩ := hd 1 29 (by kernel_rfl)
        unfold Go.Rel.stepOf
        go_simp
        exact hK _ _ (But.refl _ _) (hI) rfl
      · intro f a w' hI hf hanc hdesc hle hs' hd K hK
        obtain ⟨_, t16, rfl⟩ := hd 16 44 (by kernel_rfl)
        obtain ⟨_, t2, rfl⟩ := hd 2 30 (by kernel_rfl)
        unfold Go.Rel.stepOf
        go_simp
        exact hK _ _ (But.refl _ _) (hI) rfl
      · intro f a w' hI hf hanc hdesc hle hs' hd K hK
        obtain ⟨_, t17, rfl⟩ := hd 17 45 (by kernel_rfl)
        obtain ⟨_, t13, h13⟩ := hd 13 41 (by kernel_rfl)
        have ha : f 13 = true := hanc 2 13 (by kernel_rfl)
        have hI2 := hI
        rw [hf, ha] at hI2
        obtain ⟨b3, c3, rfl, hc3, hf3, hb3, hI3⟩ := HSt.out w' _ hI2 h13
        unfold Go.Rel.stepOf
        go_simp
        refine hK _ _ hb3 ?_ rfl
        show rowI S w0 B M g N m n q Ks l v1 room (f 13) true _
        rw [ha]
        exact hI3
    case hend =>
      intro f a w3 hall hI hle hs' hR'
      have hz := hall 18 (by decide)
      obtain ⟨g', hW, hb0⟩ := hI.1 hz
      have hb := HBR.out _ hb0
      have HB := Lib.hid hb
      obtain ⟨w4, hrun, hW4, hb4⟩ := HPut.out g' w3 hW
      rw [show ((1 : Nat) : Int) = 1 from rfl] at hrun
      have HW4 := Lib.hid hW4
      have HB4 := Lib.hid hb4
      have c1 := hW.c1
      clear hz hI hW hb hb0 hW4 hb4 hall hle
      obtain ⟨v28, s28, _⟩ := hR' 0 28 (by kernel_rfl)
      obtain ⟨v29, s29, _⟩ := hR' 1 29 (by kernel_rfl)
      obtain ⟨v30, s30, _⟩ := hR' 2 30 (by kernel_rfl)
      obtain ⟨v31, s31, _⟩ := hR' 3 31 (by kernel_rfl)
      obtain ⟨v32, s32, _⟩ := hR' 4 32 (by kernel_rfl)
      obtain ⟨v33, s33, _⟩ := hR' 5 33 (by kernel_rfl)
      obtain ⟨v34, s34, _⟩ := hR' 6 34 (by kernel_rfl)
      obtain ⟨v35, s35, _⟩ := hR' 7 35 (by kernel_rfl)
      obtain ⟨v36, s36, _⟩ := hR' 8 36 (by kernel_rfl)
      obtain ⟨v37, s37, _⟩ := hR' 9 37 (by kernel_rfl)
      obtain ⟨v38, s38, _⟩ := hR' 10 38 (by kernel_rfl)
      obtain ⟨v39, s39, _⟩ := hR' 11 39 (by kernel_rfl)
      obtain ⟨v40, s40, _⟩ := hR' 12 40 (by kernel_rfl)
      obtain ⟨v41, s41, _⟩ := hR' 13 41 (by kernel_rfl)
      obtain ⟨v42, s42, _⟩ := hR' 14 42 (by kernel_rfl)
      obtain ⟨v43, s43, _⟩ := hR' 15 43 (by kernel_rfl)
      obtain ⟨v44, s44, _⟩ := hR' 16 44 (by kernel_rfl)
      obtain ⟨v45, s45, _⟩ := hR' 17 45 (by kernel_rfl)
      have e := hs'.shape
      simp only [List.toList_toArray, List.foldl, Go.Rel.reset, Array.getD_eq_getD_getElem?, s28, s29, s30, s31, s32, s33, s34, s35, s36, s37, s38, s39, s40, s41, s42, s43, s44, s45, Option.getD_some] at e
      simp at e
      clear hR' hs' s28 s29 s30 s31 s32 s33 s34 s35 s36 s37 s38 s39 s40 s41 s42 s43 s44 s45
      subst e
      go_wp2
      go_end0
      exact ⟨rfl, g', by rw [HL.out]; exact HW4.out, HB.out.trans HB4.out⟩
  · obtain ⟨rfl, rfl⟩ : Ks = 128 + j ∧ O = 130 + j := by unfold Place at hp; omega
    have r1 : (0 : Int) < ((d : Int) - (N : Int)) / 64 := by omega
    have r2 : (0 : Int) < ((d : Int) - (N : Int)) / 4096 := by omega
    obtain ⟨Ks, hK⟩ : ∃ Ks, 128 + j = Ks := ⟨_, rfl⟩
    have HL : Hid (q Ks ++ [id] = l) := Lib.hid (by rw [← hK]; exact hl)
    rw [hK] at HC HApp HSt HPut HBR ⊢
    clear hK hl hp
    go_enter Try.func23, Try.ntmps23
    go_wp2
    refine wp_loop_rounds 3 ?_
    rw [rounds_succ]
    go_wp2_with fail
    rw [rounds_succ]
    go_wp2_with fail
    rw [rounds_succ]
    go_wp2_with fail
    refine (HSl.out _).mono ?_
    rintro e w' ⟨rfl, rfl⟩
    go_wp2
    refine Go.Rel.wp_region_states (by kernel_rfl) (by kernel_rfl) (by kernel_rfl) (by kernel_rfl) (fun f w => rowI S w0 B M g N m n q Ks l v1 room (f 13) (f 18) w) (But (Olds S w0)) (fun _ _ _ h k => h.trans k) ((But.refl _ _).drew) rowI.start (putR S w0 B 2 j 130 (130 + j) id u v1 l room) (putR_stable S w0 B 2 j 130 (130 + j) id u v1 l room) ?hsteps ?hend
    case hsteps =>
      refine (.cons ?_ (.cons ?_ (.cons ?_ (.cons ?_ (.cons ?_ (.cons ?_ (.cons ?_ (.cons ?_ (.cons ?_ (.cons ?_ (.cons ?_ (.cons ?_ (.cons ?_ (.cons ?_ (.cons ?_ (.cons ?_ (.cons ?_ (.cons ?_ (.cons ?_ .nil)))))))))))))))))))
      · intro f a w' hI hf hanc hdesc hle hs' hd K hK
        have f0 : a.tmps[0]? = some (.pointer (some ⟨B, 0, none⟩)) := hs'.2.2 0 (by kernel_rfl)
        unfold Go.Rel.stepOf
        go_simp
        exact hK _ _ (But.refl _ _) (hI) rfl
      · intro f a w' hI hf hanc hdesc hle hs' hd K hK
        have f6 : a.tmps[6]? = some (.int .i64 2) := hs'.2.2 6 (by kernel_rfl)
        unfold Go.Rel.stepOf
        go_simp
        exact hK _ _ (But.refl _ _) (hI) rfl
      · intro f a w' hI hf hanc hdesc hle hs' hd K hK
        have f7 : a.tmps[7]? = some (.int .i64 (j : Int)) := hs'.2.2 7 (by kernel_rfl)
        unfold Go.Rel.stepOf
        go_simp
        exact hK _ _ (But.refl _ _) (hI) rfl
      · intro f a w' hI hf hanc hdesc hle hs' hd K hK
        have f0 : a.tmps[0]? = some (.pointer (some ⟨B, 0, none⟩)) := hs'.2.2 0 (by kernel_rfl)
        unfold Go.Rel.stepOf
        go_simp
        exact hK _ _ (But.refl _ _) (hI) rfl
      · intro f a w' hI hf hanc hdesc hle hs' hd K hK
        have f6 : a.tmps[6]? = some (.int .i64 2) := hs'.2.2 6 (by kernel_rfl)
        unfold Go.Rel.stepOf
        go_simp
        exact hK _ _ (But.refl _ _) (hI) rfl
      · intro f a w' hI hf hanc hdesc hle hs' hd K hK
        have f7 : a.tmps[7]? = some (.int .i64 (j : Int)) := hs'.2.2 7 (by kernel_rfl)
        unfold Go.Rel.stepOf
        go_simp
        exact hK _ _ (But.refl _ _) (hI) rfl
      · intro f a w' hI hf hanc hdesc hle hs' hd K hK
        obtain ⟨_, t3, rfl⟩ := hd 3 31 (by kernel_rfl)
        unfold Go.Rel.stepOf
        go_simp
        exact hK _ _ (But.refl _ _) (hI) rfl
      · intro f a w' hI hf hanc hdesc hle hs' hd K hK
        obtain ⟨_, t6, rfl⟩ := hd 6 34 (by kernel_rfl)
        unfold Go.Rel.stepOf
        go_simp
        exact hK _ _ (But.refl _ _) (hI) rfl
      · intro f a w' hI hf hanc hdesc hle hs' hd K hK
        obtain ⟨_, t7, rfl⟩ := hd 7 35 (by kernel_rfl)
        obtain ⟨_, t4, rfl⟩ := hd 4 32 (by kernel_rfl)
        unfold Go.Rel.stepOf
        go_simp
        exact hK _ _ (But.refl _ _) (hI) rfl
      · intro f a w' hI hf hanc hdesc hle hs' hd K hK
        obtain ⟨_, t8, rfl⟩ := hd 8 36 (by kernel_rfl)
        obtain ⟨_, t5, rfl⟩ := hd 5 33 (by kernel_rfl)
        unfold Go.Rel.stepOf
        go_simp
        exact hK _ _ (But.refl _ _) (hI) rfl
      · intro f a w' hI hf hanc hdesc hle hs' hd K hK
        obtain ⟨_, t9, rfl⟩ := hd 9 37 (by kernel_rfl)
        have hz : f 18 = false := hdesc 3 18 (by kernel_rfl)
        have hI2 := hI
        rw [hz] at hI2
        have cc := HC.out _ w' hI2
        unfold Go.Rel.stepOf
        go_simp
        exact hK _ _ (But.refl _ _) (hI) rfl
      · intro f a w' hI hf hanc hdesc hle hs' hd K hK
        have f1 : a.tmps[1]? = some (.int .i64 id) := hs'.2.2 1 (by kernel_rfl)
        unfold Go.Rel.stepOf
        go_simp
        exact hK _ _ (But.refl _ _) (hI) rfl
      · intro f a w' hI hf hanc hdesc hle hs' hd K hK
        obtain ⟨_, t11, rfl⟩ := hd 11 39 (by kernel_rfl)
        have hz : f 18 = false := hdesc 3 18 (by kernel_rfl)
        have ha : f 13 = false := hdesc 2 13 (by kernel_rfl)
        have hI2 := hI
        rw [hz, ha] at hI2
        unfold Go.Rel.stepOf
        go_simp
        refine hK _ _ (But.of_below ((Below.refl _ _).alloc (Nat.le_refl _) _)) ?_ ⟨w'.heap.size, rfl, hI2.size, by simp, by simp⟩
        show rowI S w0 B M g N m n q Ks l v1 room (f 13) (f 18) _
        rw [hz, ha]
        exact hI2.alloc rfl _
      · intro f a w' hI hf hanc hdesc hle hs' hd K hK
        obtain ⟨_, t10, rfl⟩ := hd 10 38 (by kernel_rfl)
        obtain ⟨_, t12, X, rfl, hx0, hx1, hx2⟩ := hd 12 40 (by kernel_rfl)
        have hz : f 18 = false := hdesc 3 18 (by kernel_rfl)
        have hI2 := hI
        rw [hz, hf] at hI2
        obtain ⟨v3, w3, hr3, hb3, hI3, hR3⟩ := HApp.out w' hI2 X hx2
        refine stepOf_append (.tmp 38) (.tmp 40) 35 rfl rfl (by simp [Act.eval, t10]) (by simp [Act.eval, t12]) hr3 (hK _ _ hb3 ?_ hR3)
        show rowI S w0 B M g N m n q Ks l v1 room true (f 18) _
        rw [hz]
        exact hI3
      · intro f a w' hI hf hanc hdesc hle hs' hd K hK
        obtain ⟨_, t0, rfl⟩ := hd 0 28 (by kernel_rfl)
        unfold Go.Rel.stepOf
        go_simp
        exact hK _ _ (But.refl _ _) (hI) rfl
      · intro f a w' hI hf hanc hdesc hle hs' hd K hK
        obtain ⟨_, t14, rfl⟩ := hd 14 42 (by kernel_rfl)
        unfold Go.Rel.stepOf
        go_simp
        exact hK _ _ (But.refl _ _) (hI) rfl
      · intro f a w' hI hf hanc hdesc hle hs' hd K hK
        obtain ⟨_, t15, rfl⟩ := hd 15 43 (by kernel_rfl)
        obtain ⟨_, t1, rfl⟩ := hd 1 29 (by kernel_rfl)
        unfold Go.Rel.stepOf
        go_simp
        exact hK _ _ (But.refl _ _) (hI) rfl
      · intro f a w' hI hf hanc hdesc hle hs' hd K hK
        obtain ⟨_, t16, rfl⟩ := hd 16 44 (by kernel_rfl)
        obtain ⟨_, t2, rfl⟩ := hd 2 30 (by kernel_rfl)
        unfold Go.Rel.stepOf
        go_simp
        exact hK _ _ (But.refl _ _) (hI) rfl
      · intro f a w' hI hf hanc hdesc hle hs' hd K hK
        obtain ⟨_, t17, rfl⟩ := hd 17 45 (by kernel_rfl)
        obtain ⟨_, t13, h13⟩ := hd 13 41 (by kernel_rfl)
        have ha : f 13 = true := hanc 2 13 (by kernel_rfl)
        have hI2 := hI
        rw [hf, ha] at hI2
        obtain ⟨b3, c3, rfl, hc3, hf3, hb3, hI3⟩ := HSt.out w' _ hI2 h13
        unfold Go.Rel.stepOf
        go_simp
        refine hK _ _ hb3 ?_ rfl
        show rowI S w0 B M g N m n q Ks l v1 room (f 13) true _
        rw [ha]
        exact hI3
    case hend =>
      intro f a w3 hall hI hle hs' hR'
      have hz := hall 18 (by decide)
      obtain ⟨g', hW, hb0⟩ := hI.1 hz
      have hb := HBR.out _ hb0
      have HB := Lib.hid hb
      obtain ⟨w4, hrun, hW4, hb4⟩ := HPut.out g' w3 hW
      rw [show ((2 : Nat) : Int) = 2 from rfl] at hrun
      have HW4 := Lib.hid hW4
      have HB4 := Lib.hid hb4
      have c1 := hW.c1
      clear hz hI hW hb hb0 hW4 hb4 hall hle
      obtain ⟨v28, s28, _⟩ := hR' 0 28 (by kernel_rfl)
      obtain ⟨v29, s29, _⟩ := hR' 1 29 (by kernel_rfl)
      obtain ⟨v30, s30, _⟩ := hR' 2 30 (by kernel_rfl)
      obtain ⟨v31, s31, _⟩ := hR' 3 31 (by kernel_rfl)
      obtain ⟨v32, s32, _⟩ := hR' 4 32 (by kernel_rfl)
      obtain ⟨v33, s33, _⟩ := hR' 5 33 (by kernel_rfl)
      obtain ⟨v34, s34, _⟩ := hR' 6 34 (by kernel_rfl)
      obtain ⟨v35, s35, _⟩ := hR' 7 35 (by kernel_rfl)
      obtain ⟨v36, s36, _⟩ := hR' 8 36 (by kernel_rfl)
      obtain ⟨v37, s37, _⟩ := hR' 9 37 (by kernel_rfl)
      obtain ⟨v38, s38, _⟩ := hR' 10 38 (by kernel_rfl)
      obtain ⟨v39, s39, _⟩ := hR' 11 39 (by kernel_rfl)
      obtain ⟨v40, s40, _⟩ := hR' 12 40 (by kernel_rfl)
      obtain ⟨v41, s41, _⟩ := hR' 13 41 (by kernel_rfl)
      obtain ⟨v42, s42, _⟩ := hR' 14 42 (by kernel_rfl)
      obtain ⟨v43, s43, _⟩ := hR' 15 43 (by kernel_rfl)
      obtain ⟨v44, s44, _⟩ := hR' 16 44 (by kernel_rfl)
      obtain ⟨v45, s45, _⟩ := hR' 17 45 (by kernel_rfl)
      have e := hs'.shape
      simp only [List.toList_toArray, List.foldl, Go.Rel.reset, Array.getD_eq_getD_getElem?, s28, s29, s30, s31, s32, s33, s34, s35, s36, s37, s38, s39, s40, s41, s42, s43, s44, s45, Option.getD_some] at e
      simp at e
      clear hR' hs' s28 s29 s30 s31 s32 s33 s34 s35 s36 s37 s38 s39 s40 s41 s42 s43 s44 s45
      subst e
      go_wp2
      go_end0
      exact ⟨rfl, g', by rw [HL.out]; exact HW4.out, HB.out.trans HB4.out⟩
end Go.Proofs.Ytcekpkjibabjmaa
