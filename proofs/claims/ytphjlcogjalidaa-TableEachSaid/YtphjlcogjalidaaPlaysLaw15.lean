/-
  Whatever is put, dropped and asked for, a table has, and answers, what the document says: the law sodalitylaw15.TablePlays, walked over what the program's table does.
-/
import Derived.Test.YtphjlcogjalidaaTbStepB
import Derived.Test.YtphjlcogjalidaaTbStepD
namespace Go.Proofs.Ytphjlcogjalidaa
open Go.RowKit
set_option linter.unusedSimpArgs false
set_option linter.unusedVariables false

/-- A slice of one row, outside S. -/
def OneV (S : Nat → Prop) (w : World) (v : Value) (r : Rw Int) : Prop := ∃ b, v = .slice (some ⟨b, 0, none⟩) 1 1 ∧ SK trC 4 w (some ⟨b, 0, none⟩) 1 [r] ∧ ¬ S b
theorem OneV.but {S : Nat → Prop} {w w' : World} {v : Value} {r : Rw Int} (h : OneV S w v r) (hb : But S w w') : OneV S w' v r := by
  obtain ⟨b, e, h1, h2⟩ := h
  refine ⟨b, e, h1.but hb fun b' off e' _ => ?_, h2⟩
  cases e'
  exact h2
def tbPl (S : Nat → Prop) (Bp : Nat) (Bd : Nat) (Y1 : Nat) (Y2 : Nat) (bb : Bool) (r : Rw Int) (lst : Nat) (L : Nat) : Nat → Value → World → Prop
  | 0, v, _ => v = .bool bb
  | 1, v, _ => v = .bool bb
  | 2, v, _ => v = .bool false
  | 3, v, _ => v = .bool false
  | 4, v, _ => v = .agg #[.string r.key, .int .i64 r.val, .int .u64 (r.made : Int), .int .u64 (r.ix : Int)]
  | 5, v, w => OneV S w v r
  | 6, v, _ => v = .agg #[.string r.key, .int .i64 r.val, .int .u64 (r.made : Int), .int .u64 (r.ix : Int)]
  | 7, v, w => OneV S w v r
  | 8, v, _ => v = .bool true
  | 9, v, _ => v = .bool false
  | 10, v, _ => v = .bool false
  | 11, v, _ => v = .bool false
  | 12, v, _ => v = .pointer (some ⟨Bp, 0, none⟩)
  | 13, v, _ => v = .int .u64 (lst : Int)
  | 14, v, _ => v = .pointer (some ⟨Bd, 0, none⟩)
  | 15, v, _ => v = .pointer (some ⟨Bd, 0, none⟩)
  | 16, v, _ => v = .pointer (some ⟨Bd, 2, none⟩)
  | 17, v, _ => v = .int .u64 (lst : Int)
  | 18, v, _ => v = .bool false
  | 19, v, _ => v = .bool false
  | 20, v, _ => v = .bool false
  | 21, v, _ => v = .pointer (some ⟨Bp, 0, none⟩)
  | 22, v, _ => v = .int .i64 (L : Int)
  | 23, v, _ => v = .pointer (some ⟨Bd, 0, none⟩)
  | 24, v, _ => v = .pointer (some ⟨Bd, 0, none⟩)
  | 25, v, _ => v = .pointer (some ⟨Bd, 1, none⟩)
  | 26, v, _ => ∃ A c, v = .slice A L c
  | 27, v, _ => v = .int .i64 (L : Int)
  | 28, v, _ => v = .bool false
  | 29, v, _ => v = .bool false
  | _, _, _ => True
theorem tbPl_stable (S : Nat → Prop) (Bp : Nat) (Bd : Nat) (Y1 : Nat) (Y2 : Nat) (bb : Bool) (r : Rw Int) (lst : Nat) (L : Nat) : ∀ i v w w', tbPl S Bp Bd Y1 Y2 bb r lst L i v w → But S w w' → tbPl S Bp Bd Y1 Y2 bb r lst L i v w'
  | 0, _, _, _, h, _ | 1, _, _, _, h, _ | 2, _, _, _, h, _ | 3, _, _, _, h, _ | 4, _, _, _, h, _ | 6, _, _, _, h, _ | 8, _, _, _, h, _ | 9, _, _, _, h, _ | 10, _, _, _, h, _ | 11, _, _, _, h, _ | 12, _, _, _, h, _ | 13, _, _, _, h, _ | 14, _, _, _, h, _ | 15, _, _, _, h, _ | 16, _, _, _, h, _ | 17, _, _, _, h, _ | 18, _, _, _, h, _ | 19, _, _, _, h, _ | 20, _, _, _, h, _ | 21, _, _, _, h, _ | 22, _, _, _, h, _ | 23, _, _, _, h, _ | 24, _, _, _, h, _ | 25, _, _, _, h, _ | 26, _, _, _, h, _ | 27, _, _, _, h, _ | 28, _, _, _, h, _ | 29, _, _, _, h, _ => h
  | 5, _, _, _, h, g => h.but g
  | 7, _, _, _, h, g => h.but g
  | _ + 30, _, _, _, h, _ => h
def tbPe (S : Nat → Prop) (Bp : Nat) (Bd : Nat) (M : List (Rw Int)) : Nat → Value → World → Prop
  | 0, v, _ => v = .pointer (some ⟨Bp, 0, none⟩)
  | 1, v, w => RowsV S w v M
  | 2, v, _ => v = .pointer (some ⟨Bd, 0, none⟩)
  | 3, v, _ => v = .pointer (some ⟨Bd, 0, none⟩)
  | 4, v, _ => v = .pointer (some ⟨Bd, 1, none⟩)
  | 5, v, w => RowsV S w v M
  | 6, v, _ => v = .bool true
  | 7, v, _ => v = .bool true
  | 8, v, _ => v = .bool true
  | 9, v, _ => v = .bool true
  | 10, v, _ => v = .bool true
  | _, _, _ => True
theorem tbPe_stable (S : Nat → Prop) (Bp : Nat) (Bd : Nat) (M : List (Rw Int)) : ∀ i v w w', tbPe S Bp Bd M i v w → But S w w' → tbPe S Bp Bd M i v w'
  | 0, _, _, _, h, _ | 2, _, _, _, h, _ | 3, _, _, _, h, _ | 4, _, _, _, h, _ | 6, _, _, _, h, _ | 7, _, _, _, h, _ | 8, _, _, _, h, _ | 9, _, _, _, h, _ | 10, _, _, _, h, _ => h
  | 1, _, _, _, h, g => h.but g
  | 5, _, _, _, h, g => h.but g
  | _ + 11, _, _, _, h, _ => h
section
variable {P : (Nat → Prop) → World → Nat → Tb Int → Prop} {O : Nat → Prop} {Bp Bd : Nat} {t : Tb Int}
theorem step_any (C : Prg P) (s : TSt) (w : World) (h : Both P O w Bp t Bd t) (hs : s.ok) :
    Calls Try.prog 9 #[.pointer (some ⟨Bp, 0, none⟩), .pointer (some ⟨Bd, 0, none⟩), tsV s] w (StepPost P O w Bp Bd (s.after t)) := by
  unfold TSt.after
  by_cases h0 : s.kind = 0
  · rw [if_pos h0]; exact step_put C s w h hs h0
  by_cases h1 : s.kind = 1
  · rw [if_neg h0, if_pos h1]; exact step_drop C s w h hs h1
  by_cases h2 : s.kind = 2
  · rw [if_neg h0, if_neg h1, if_pos h2]; exact step_raise C s w h hs h2
  rw [if_neg h0, if_neg h1, if_neg h2]
  by_cases h3 : s.kind = 3
  · exact step_under C s w h hs h3
  by_cases h4 : s.kind = 4
  · exact step_copy C s w h hs h4
  exact step_rest C s w h hs ⟨h0, h1, h2, h3, h4⟩
theorem ts_cells {w : World} {b o : Nat} {s : TSt} (h : ItAt tsC w b o s) : w.cell? ⟨b, o, none⟩ = some (.int .i64 s.kind) ∧ w.cell? ⟨b, o + 1, none⟩ = some (.string s.key) ∧ w.cell? ⟨b, o + 2, none⟩ = some (.int .i64 s.v) ∧ w.cell? ⟨b, o + 3, none⟩ = some (.int .u64 (s.ix : Int)) :=
  ⟨h 0 _ rfl, h 1 _ rfl, h 2 _ rfl, h 3 _ rfl⟩
theorem gotR_form (o : Option (Rw Int)) : ∃ r b, gotR o = .tuple #[trV r, .bool b] := ⟨_, _, rfl⟩
set_option maxHeartbeats 16000000 in
set_option maxRecDepth 100000 in
theorem plays_walk (C : Prg P) (m : Int) (hm : -9223372036854775808 ≤ m ∧ m ≤ 9223372036854775807) (A : Option Addr) (n c : Nat) (ss : List TSt) (w : World) (hS : SK tsC 4 w A n ss) (hok : ∀ s ∈ ss, s.ok) (hn : n ≤ maxLen) :
    Calls Try.prog 3 #[.int .i64 m, .slice A n c] w fun e w' => e = .returned (.bool true) ∧ Below w.heap.size w w' := by
  unfold maxLen at hn
  have hn' : (n : Int) ≤ 9223372036854775807 := by omega
  have HC := Lib.hid C
  have HN := Lib.hid (C.new m w hm)
  have HNd : Hid (∀ w1, Calls Try.prog 8 #[.int .i64 m] w1 fun e w' => e = .returned (.pointer (some ⟨w1.heap.size, 0, none⟩)) ∧ RtAt (· = w1.heap.size) w' w1.heap.size ⟨mostT m, [], 0⟩ ∧ Below w1.heap.size w1 w') := Lib.hid fun w1 => rnew_any m w1 hm
  have HSS := Lib.hid hS
  have HSl := Lib.hid hS.1
  have HOk := Lib.hid hok
  obtain ⟨g0, hg0⟩ : ∃ g0, w.heap.size = g0 := ⟨_, rfl⟩
  rw [hg0] at HN ⊢
  have HG0 := Lib.hid hg0
  clear C hm hS hok hn hg0
  go_enter Try.func3, Try.ntmps3
  go_wp2_with fail
  refine HN.out.mono ?_
  rintro e w1 ⟨Bp, rfl, hp, hb1⟩
  have HP1 := Lib.hid hp
  have HB1 := Lib.hid hb1
  clear HN hp hb1
  go_wp2_with fail
  refine (HNd.out w1).mono ?_
  rintro e w2 ⟨rfl, hd, hb2⟩
  obtain ⟨Bd, hBd⟩ : ∃ Bd, w1.heap.size = Bd := ⟨_, rfl⟩
  rw [hBd] at hd hb2 ⊢
  have hz1 : g0 ≤ w1.heap.size := by rw [← HG0.out]; exact HB1.out.size
  have HBo : Hid (Both P (fun k => g0 ≤ k) w2 Bp ⟨mostT m, [], 0⟩ Bd ⟨mostT m, [], 0⟩) := Lib.hid (by
    have hz := hb2.size
    refine ⟨fun k => g0 ≤ k ∧ k < Bd, (· = Bd), HC.out.below (HC.out.narrow HP1.out fun k hk hs => ⟨hs, by omega⟩) (by rw [hBd]; exact hb2), hd, fun k hk => ⟨hk.1, by omega, by omega⟩, fun k hk => ⟨by omega, by have := hd.lt; omega⟩, fun k hk => by omega⟩)
  have HB2 : Hid (Below g0 w w2) := Lib.hid (HB1.out.trans (hb2.mono (by omega)))
  clear HNd hd hb2 hBd hz1 HP1 HB1
  go_wp2
  go_loopw [7] (fun iv wr => ∃ (k : Nat) (t : Tb Int), k ≤ n ∧ iv = .int .i64 (k : Int) ∧ Hid (Both P (fun k => g0 ≤ k) wr Bp t Bd t) ∧ Hid (Below g0 w wr)) (fun iv _ => n - (intOf iv).toNat)
  case atStart => exact ⟨0, _, Nat.zero_le _, rfl, HBo, HB2⟩
  case round =>
    obtain ⟨k, t, hk, rfl, hbo, hb⟩ := hrel
    by_cases hlt : k < n ∧ k < 100
    · obtain ⟨h1, h2⟩ := hlt
      have hkl : k < ss.length := by rw [HSl.out]; exact h1
      have ht := HSS.out.below (w' := wr) (by rw [HG0.out]; exact hb.out)
      obtain ⟨b, off, rfl, hbl, hit⟩ := ht.at_ h1 hkl
      have hso := HOk.out ss[k] (List.getElem_mem _)
      obtain ⟨s, hs⟩ : ∃ s, ss[k] = s := ⟨_, rfl⟩
      rw [hs] at hit hso
      have HK := Lib.hid (show ∀ wx, Below g0 w wx → ItAt tsC wx b (off + k * 4) s from fun wx hx => by
        obtain ⟨b', off', e, _, h2⟩ := (HSS.out.below (w' := wx) (by rw [HG0.out]; exact hx)).at_ h1 hkl
        cases e
        rw [hs] at h2
        exact h2)
      obtain ⟨c0, c1, c2, c3⟩ := ts_cells hit
      have HSt := Lib.hid (step_any HC.out s wr hbo.out hso)
      unfold tsV at HSt
      obtain ⟨t', ht'⟩ : ∃ t', s.after t = t' := ⟨_, rfl⟩
      rw [ht'] at HSt
      have HSo := Lib.hid hso
      have q1 : (k : Int) < (n : Int) := by omega
      have q2 : (k : Int) < 100 := by omega
      have q0 : (0 : Int) ≤ (k : Int) := by omega
      clear ht hit hso hs ht' hkl
      go_wp2_with fail
      refine HSt.out.mono ?_
      rintro e w3 ⟨rfl, hb3, hbt⟩
      have hz3 : g0 ≤ wr.heap.size := by have := hb.out.size; have := HG0.out; omega
      have HB3 : Hid (Below g0 w w3) := Lib.hid (hb.out.trans (hbt.below hz3 fun k hk hs => by omega))
      obtain ⟨c0', c1', c2', c3'⟩ := ts_cells (HK.out w3 HB3.out)
      obtain ⟨r, bb, hgr⟩ := gotR_form (getR t'.l s.key)
      have HG : Hid (∀ wx, Both P (fun k => g0 ≤ k) wx Bp t' Bd t' → Calls Try.prog 10 #[.pointer (some ⟨Bp, 0, none⟩), .string s.key] wx fun e w' => e = .returned (.tuple #[trV r, .bool bb]) ∧ Below wx.heap.size wx w') := Lib.hid fun wx h => by
        obtain ⟨S, hp⟩ := h.read
        rw [← hgr]
        exact HC.out.get s.key wx hp HSo.out.key
      have HGd : Hid (∀ wx, Both P (fun k => g0 ≤ k) wx Bp t' Bd t' → Calls Try.prog 11 #[.pointer (some ⟨Bd, 0, none⟩), .string s.key] wx fun e w' => e = .returned (.tuple #[trV r, .bool bb]) ∧ Below wx.heap.size wx w') := Lib.hid fun wx h => by
        obtain ⟨S, hok, A9, c9, hp⟩ := h.ref
        rw [← hgr]
        exact rget_any s.key wx hp
      have HO3 := Lib.hid hb3
      clear HSt hb3 hbt hgr c0 c1 c2 c3 c0' c2' c3'
      go_wp2_with fail
      refine (HG.out w3 HO3.out).mono ?_
      rintro e w4 ⟨rfl, hb4⟩
      unfold trV
      obtain ⟨Y1, hY1⟩ : ∃ Y, w4.heap.size = Y := ⟨_, rfl⟩
      obtain ⟨W4, hW4⟩ : ∃ W4, w4.alloc (.cells #[.string r.key, .int .i64 r.val, .int .u64 (r.made : Int), .int .u64 (r.ix : Int)] 32) = W4 := ⟨_, rfl⟩
      have hba : Below w4.heap.size w4 W4 := by rw [← hW4]; exact below1 _ _ _
      have ky1 : W4.heap[Y1]? = some (.cells #[.string r.key, .int .i64 r.val, .int .u64 (r.made : Int), .int .u64 (r.ix : Int)] 32 (0, 0)) := by rw [← hW4, ← hY1]; exact heap_alloc_new w4 _
      have hz4 := hb4.size
      have HO4 := Lib.hid ((HO3.out.below HC.out hb4).below HC.out hba)
      have hz5 : g0 ≤ w3.heap.size := by have := HB3.out.size; have := HG0.out; omega
      have HB4 : Hid (Below g0 w W4) := Lib.hid ((HB3.out.trans (hb4.mono hz5)).trans (hba.mono (by omega)))
      obtain ⟨c0, c1, c2, c3⟩ := ts_cells (HK.out W4 HB4.out)
      have HKY1 := Lib.hid ky1
      have HW4 := Lib.hid hW4
      have HY1 := Lib.hid hY1
      clear hba ky1 hz4 hz5 hb4 hW4 hY1 c0 c2 c3 c1' HG
      go_upto_region 9 with fail
      rw [HW4.out, HY1.out]
      go_wp2_with fail
      refine (HGd.out W4 HO4.out).mono ?_
      rintro e w5 ⟨rfl, hb5⟩
      unfold trV
      obtain ⟨Y2, hY2⟩ : ∃ Y, w5.heap.size = Y := ⟨_, rfl⟩
      obtain ⟨W5, hW5⟩ : ∃ W5, w5.alloc (.cells #[.string r.key, .int .i64 r.val, .int .u64 (r.made : Int), .int .u64 (r.ix : Int)] 35) = W5 := ⟨_, rfl⟩
      have hba : Below w5.heap.size w5 W5 := by rw [← hW5]; exact below1 _ _ _
      have ky2 : W5.heap[Y2]? = some (.cells #[.string r.key, .int .i64 r.val, .int .u64 (r.made : Int), .int .u64 (r.ix : Int)] 35 (0, 0)) := by rw [← hW5, ← hY2]; exact heap_alloc_new w5 _
      have HKY2 := Lib.hid ky2
      have HKY1b := Lib.hid ((hba.block Y1 (by have := block_lt HKY1.out; have := hb5.size; omega)).trans ((hb5.block Y1 (block_lt HKY1.out)).trans HKY1.out))
      have HO5 := Lib.hid ((HO4.out.below HC.out hb5).below HC.out hba)
      have hz5 : g0 ≤ W4.heap.size := by have := HB4.out.size; have := HG0.out; omega
      have HB5 : Hid (Below g0 w W5) := Lib.hid ((HB4.out.trans (hb5.mono hz5)).trans (hba.mono (by have := hb5.size; omega)))
      have HW5 := Lib.hid hW5
      have HY2 := Lib.hid hY2
      obtain ⟨lst, hlst⟩ : ∃ x, t'.last = x := ⟨_, rfl⟩
      obtain ⟨L, hL⟩ : ∃ x, t'.l.length = x := ⟨_, rfl⟩
      have HLst := Lib.hid hlst
      have HLl := Lib.hid hL
      have HLa : Hid (∀ wx, Both P (fun k => g0 ≤ k) wx Bp t' Bd t' → Calls Try.prog 13 #[.pointer (some ⟨Bp, 0, none⟩)] wx fun e w' => e = .returned (.int .u64 (lst : Int)) ∧ Below wx.heap.size wx w') := Lib.hid fun wx h => by
        obtain ⟨S, hp⟩ := h.read
        rw [← hlst]
        exact HC.out.last wx hp
      have HCn : Hid (∀ wx, Both P (fun k => g0 ≤ k) wx Bp t' Bd t' → Calls Try.prog 14 #[.pointer (some ⟨Bp, 0, none⟩)] wx fun e w' => e = .returned (.int .i64 (L : Int)) ∧ Below wx.heap.size wx w') := Lib.hid fun wx h => by
        obtain ⟨S, hp⟩ := h.read
        rw [← hL]
        exact HC.out.count wx hp
      have HSm : Hid (∀ (wx : World) (b1 b2 : Nat), SK trC 4 wx (some ⟨b1, 0, none⟩) 1 [r] → SK trC 4 wx (some ⟨b2, 0, none⟩) 1 [r] → Calls Try.prog 12 #[.slice (some ⟨b1, 0, none⟩) 1 1, .slice (some ⟨b2, 0, none⟩) 1 1] wx fun e w2 => e = .returned (.bool true) ∧ Below wx.heap.size wx w2) := Lib.hid fun wx b1 b2 h1 h2 => by
        rw [← same_one r]
        exact same_any _ 1 1 [r] _ 1 1 [r] wx h1 h2 (by decide)
      clear hba ky2 hz5 hb5 hW5 hY2 c1 HGd hlst hL HKY1
      go_upto_region 10 with fail
      rw [HW5.out, HY2.out]
      refine Go.Rel.wp_region_states (by kernel_rfl) (by kernel_rfl) (by kernel_rfl) (by kernel_rfl) (fun _ w => Both P (fun k => g0 ≤ k) w Bp t' Bd t' ∧ w.heap[Y1]? = some (.cells #[.string r.key, .int .i64 r.val, .int .u64 (r.made : Int), .int .u64 (r.ix : Int)] 32 (0, 0)) ∧ w.heap[Y2]? = some (.cells #[.string r.key, .int .i64 r.val, .int .u64 (r.made : Int), .int .u64 (r.ix : Int)] 35 (0, 0))) (But NoB) (fun _ _ _ h k => h.trans k) ((But.refl _ _).drew) ⟨HO5.out.below HC.out ((Below.refl _ _).drew), HKY1b.out, HKY2.out⟩ (tbPl NoB Bp Bd Y1 Y2 bb r lst L) (tbPl_stable NoB Bp Bd Y1 Y2 bb r lst L) ?hsq ?heq
      case hsq =>
        refine (.cons ?_ (.cons ?_ (.cons ?_ (.cons ?_ (.cons ?_ (.cons ?_ (.cons ?_ (.cons ?_ (.cons ?_ (.cons ?_ (.cons ?_ (.cons ?_ (.cons ?_ (.cons ?_ (.cons ?_ (.cons ?_ (.cons ?_ (.cons ?_ (.cons ?_ (.cons ?_ (.cons ?_ (.cons ?_ (.cons ?_ (.cons ?_ (.cons ?_ (.cons ?_ (.cons ?_ (.cons ?_ (.cons ?_ (.cons ?_ .nil))))))))))))))))))))))))))))))
        · intro f a w' hI hf hanc hdesc hle hs' hd K hK
          have f9 : a.tmps[9]? = some (.bool bb) := hs'.2.2 9 (by kernel_rfl)
          unfold Go.Rel.stepOf
          go_simp
          exact hK _ _ (But.refl _ _) (hI) rfl
        · intro f a w' hI hf hanc hdesc hle hs' hd K hK
          have f11 : a.tmps[11]? = some (.bool bb) := hs'.2.2 11 (by kernel_rfl)
          unfold Go.Rel.stepOf
          go_simp
          exact hK _ _ (But.refl _ _) (hI) rfl
        · intro f a w' hI hf hanc hdesc hle hs' hd K hK
          obtain ⟨_, t0, rfl⟩ := hd 0 54 (by kernel_rfl)
          obtain ⟨_, t1, rfl⟩ := hd 1 55 (by kernel_rfl)
          unfold Go.Rel.stepOf
          go_simp
          exact hK _ _ (But.refl _ _) (hI) rfl
        · intro f a w' hI hf hanc hdesc hle hs' hd K hK
          obtain ⟨_, t2, rfl⟩ := hd 2 56 (by kernel_rfl)
          unfold Go.Rel.stepOf
          go_simp
          exact hK _ _ (But.refl _ _) (hI) rfl
        · intro f a w' hI hf hanc hdesc hle hs' hd K hK
          obtain ⟨_, tg, rfl⟩ := hd 3 57 (by kernel_rfl)
          have f8 : a.tmps[8]? = some (.pointer (some ⟨Y1, 0, none⟩)) := hs'.2.2 8 (by kernel_rfl)
          obtain ⟨f0, f1, f2, f3⟩ := blk4 hI.2.1
          unfold Go.Rel.stepOf
          go_simp
          exact hK _ _ (But.refl _ _) (hI) rfl
        · intro f a w' hI hf hanc hdesc hle hs' hd K hK
          obtain ⟨_, tg, rfl⟩ := hd 3 57 (by kernel_rfl)
          obtain ⟨_, t4, rfl⟩ := hd 4 58 (by kernel_rfl)
          unfold Go.Rel.stepOf
          go_simp
          have hb5 := below1 w' #[.string r.key, .int .i64 r.val, .int .u64 (r.made : Int), .int .u64 (r.ix : Int)] 32
          exact hK _ _ (But.of_below hb5) ⟨hI.1.below HC.out hb5, (hb5.block Y1 (block_lt hI.2.1)).trans hI.2.1, (hb5.block Y2 (block_lt hI.2.2)).trans hI.2.2⟩ ⟨_, rfl, SK.one (by simp) (tr_new w' r _), fun h => h⟩
        · intro f a w' hI hf hanc hdesc hle hs' hd K hK
          obtain ⟨_, tg, rfl⟩ := hd 3 57 (by kernel_rfl)
          have f10 : a.tmps[10]? = some (.pointer (some ⟨Y2, 0, none⟩)) := hs'.2.2 10 (by kernel_rfl)
          obtain ⟨f0, f1, f2, f3⟩ := blk4 hI.2.2
          unfold Go.Rel.stepOf
          go_simp
          exact hK _ _ (But.refl _ _) (hI) rfl
        · intro f a w' hI hf hanc hdesc hle hs' hd K hK
          obtain ⟨_, tg, rfl⟩ := hd 3 57 (by kernel_rfl)
          obtain ⟨_, t6, rfl⟩ := hd 6 60 (by kernel_rfl)
          unfold Go.Rel.stepOf
          go_simp
          have hb5 := below1 w' #[.string r.key, .int .i64 r.val, .int .u64 (r.made : Int), .int .u64 (r.ix : Int)] 35
          exact hK _ _ (But.of_below hb5) ⟨hI.1.below HC.out hb5, (hb5.block Y1 (block_lt hI.2.1)).trans hI.2.1, (hb5.block Y2 (block_lt hI.2.2)).trans hI.2.2⟩ ⟨_, rfl, SK.one (by simp) (tr_new w' r _), fun h => h⟩
        · intro f a w' hI hf hanc hdesc hle hs' hd K hK
          obtain ⟨_, tg, rfl⟩ := hd 3 57 (by kernel_rfl)
          obtain ⟨_, t5, b5, rfl, k5, n5⟩ := hd 5 59 (by kernel_rfl)
          obtain ⟨_, t7, b7, rfl, k7, n7⟩ := hd 7 61 (by kernel_rfl)
          unfold Go.Rel.stepOf
          go_simp
          refine (HSm.out w' b5 b7 k5 k7).mono ?_
          rintro e w2 ⟨rfl, hb5⟩
          exact hK _ _ (But.of_below hb5) ⟨hI.1.below HC.out hb5, (hb5.block Y1 (block_lt hI.2.1)).trans hI.2.1, (hb5.block Y2 (block_lt hI.2.2)).trans hI.2.2⟩ rfl
        · intro f a w' hI hf hanc hdesc hle hs' hd K hK
          obtain ⟨_, tg, rfl⟩ := hd 3 57 (by kernel_rfl)
          obtain ⟨_, t8, rfl⟩ := hd 8 62 (by kernel_rfl)
          unfold Go.Rel.stepOf
          go_simp
          exact hK _ _ (But.refl _ _) (hI) rfl
        · intro f a w' hI hf hanc hdesc hle hs' hd K hK
          obtain ⟨_, t3, rfl⟩ := hd 3 57 (by kernel_rfl)
          obtain ⟨_, t9, rfl⟩ := hd 9 63 (by kernel_rfl)
          unfold Go.Rel.stepOf
          go_simp
          exact hK _ _ (But.refl _ _) (hI) rfl
        · intro f a w' hI hf hanc hdesc hle hs' hd K hK
          obtain ⟨_, t10, rfl⟩ := hd 10 64 (by kernel_rfl)
          unfold Go.Rel.stepOf
          go_simp
          exact hK _ _ (But.refl _ _) (hI) rfl
        · intro f a w' hI hf hanc hdesc hle hs' hd K hK
          obtain ⟨_, tg, rfl⟩ := hd 11 65 (by kernel_rfl)
          have f5 : a.tmps[5]? = some (.pointer (some ⟨Bp, 0, none⟩)) := hs'.2.2 5 (by kernel_rfl)
          unfold Go.Rel.stepOf
          go_simp
          exact hK _ _ (But.refl _ _) (hI) rfl
        · intro f a w' hI hf hanc hdesc hle hs' hd K hK
          obtain ⟨_, tg, rfl⟩ := hd 11 65 (by kernel_rfl)
          obtain ⟨_, t12, rfl⟩ := hd 12 66 (by kernel_rfl)
          unfold Go.Rel.stepOf
          go_simp
          refine (HLa.out w' hI.1).mono ?_
          rintro e w2 ⟨rfl, hb5⟩
          exact hK _ _ (But.of_below hb5) ⟨hI.1.below HC.out hb5, (hb5.block Y1 (block_lt hI.2.1)).trans hI.2.1, (hb5.block Y2 (block_lt hI.2.2)).trans hI.2.2⟩ rfl
        · intro f a w' hI hf hanc hdesc hle hs' hd K hK
          obtain ⟨_, tg, rfl⟩ := hd 11 65 (by kernel_rfl)
          have f6 : a.tmps[6]? = some (.pointer (some ⟨Bd, 0, none⟩)) := hs'.2.2 6 (by kernel_rfl)
          unfold Go.Rel.stepOf
          go_simp
          exact hK _ _ (But.refl _ _) (hI) rfl
        · intro f a w' hI hf hanc hdesc hle hs' hd K hK
          obtain ⟨_, tg, rfl⟩ := hd 11 65 (by kernel_rfl)
          obtain ⟨_, t14, rfl⟩ := hd 14 68 (by kernel_rfl)
          unfold Go.Rel.stepOf
          go_simp
          exact hK _ _ (But.refl _ _) (hI) rfl
        · intro f a w' hI hf hanc hdesc hle hs' hd K hK
          obtain ⟨_, tg, rfl⟩ := hd 11 65 (by kernel_rfl)
          obtain ⟨_, t15, rfl⟩ := hd 15 69 (by kernel_rfl)
          unfold Go.Rel.stepOf
          go_simp
          exact hK _ _ (But.refl _ _) (hI) rfl
        · intro f a w' hI hf hanc hdesc hle hs' hd K hK
          obtain ⟨_, tg, rfl⟩ := hd 11 65 (by kernel_rfl)
          obtain ⟨_, t16, rfl⟩ := hd 16 70 (by kernel_rfl)
          obtain ⟨Sd, hok, A9, c9, hri⟩ := hI.1.ref
          have c2 := hri.c2
          rw [HLst.out] at c2
          unfold Go.Rel.stepOf
          go_simp
          exact hK _ _ (But.refl _ _) (hI) rfl
        · intro f a w' hI hf hanc hdesc hle hs' hd K hK
          obtain ⟨_, tg, rfl⟩ := hd 11 65 (by kernel_rfl)
          obtain ⟨_, t13, rfl⟩ := hd 13 67 (by kernel_rfl)
          obtain ⟨_, t17, rfl⟩ := hd 17 71 (by kernel_rfl)
          unfold Go.Rel.stepOf
          go_simp
          exact hK _ _ (But.refl _ _) (hI) rfl
        · intro f a w' hI hf hanc hdesc hle hs' hd K hK
          obtain ⟨_, t11, rfl⟩ := hd 11 65 (by kernel_rfl)
          obtain ⟨_, t18, rfl⟩ := hd 18 72 (by kernel_rfl)
          unfold Go.Rel.stepOf
          go_simp
          exact hK _ _ (But.refl _ _) (hI) rfl
        · intro f a w' hI hf hanc hdesc hle hs' hd K hK
          obtain ⟨_, t19, rfl⟩ := hd 19 73 (by kernel_rfl)
          unfold Go.Rel.stepOf
          go_simp
          exact hK _ _ (But.refl _ _) (hI) rfl
        · intro f a w' hI hf hanc hdesc hle hs' hd K hK
          obtain ⟨_, tg, rfl⟩ := hd 20 74 (by kernel_rfl)
          have f5 : a.tmps[5]? = some (.pointer (some ⟨Bp, 0, none⟩)) := hs'.2.2 5 (by kernel_rfl)
          unfold Go.Rel.stepOf
          go_simp
          exact hK _ _ (But.refl _ _) (hI) rfl
        · intro f a w' hI hf hanc hdesc hle hs' hd K hK
          obtain ⟨_, tg, rfl⟩ := hd 20 74 (by kernel_rfl)
          obtain ⟨_, t21, rfl⟩ := hd 21 75 (by kernel_rfl)
          unfold Go.Rel.stepOf
          go_simp
          refine (HCn.out w' hI.1).mono ?_
          rintro e w2 ⟨rfl, hb5⟩
          exact hK _ _ (But.of_below hb5) ⟨hI.1.below HC.out hb5, (hb5.block Y1 (block_lt hI.2.1)).trans hI.2.1, (hb5.block Y2 (block_lt hI.2.2)).trans hI.2.2⟩ rfl
        · intro f a w' hI hf hanc hdesc hle hs' hd K hK
          obtain ⟨_, tg, rfl⟩ := hd 20 74 (by kernel_rfl)
          have f6 : a.tmps[6]? = some (.pointer (some ⟨Bd, 0, none⟩)) := hs'.2.2 6 (by kernel_rfl)
          unfold Go.Rel.stepOf
          go_simp
          exact hK _ _ (But.refl _ _) (hI) rfl
        · intro f a w' hI hf hanc hdesc hle hs' hd K hK
          obtain ⟨_, tg, rfl⟩ := hd 20 74 (by kernel_rfl)
          obtain ⟨_, t23, rfl⟩ := hd 23 77 (by kernel_rfl)
          unfold Go.Rel.stepOf
          go_simp
          exact hK _ _ (But.refl _ _) (hI) rfl
        · intro f a w' hI hf hanc hdesc hle hs' hd K hK
          obtain ⟨_, tg, rfl⟩ := hd 20 74 (by kernel_rfl)
          obtain ⟨_, t24, rfl⟩ := hd 24 78 (by kernel_rfl)
          unfold Go.Rel.stepOf
          go_simp
          exact hK _ _ (But.refl _ _) (hI) rfl
        · intro f a w' hI hf hanc hdesc hle hs' hd K hK
          obtain ⟨_, tg, rfl⟩ := hd 20 74 (by kernel_rfl)
          obtain ⟨_, t25, rfl⟩ := hd 25 79 (by kernel_rfl)
          obtain ⟨Sd, hok, A9, c9, hri⟩ := hI.1.ref
          have c2 := hri.c2
          rw [HLst.out] at c2
          obtain ⟨Sd, hok, A9, c9, hri⟩ := hI.1.ref
          have c1 := hri.c1
          rw [HLl.out] at c1
          unfold Go.Rel.stepOf
          go_simp
          exact hK _ _ (But.refl _ _) hI ⟨_, _, rfl⟩
        · intro f a w' hI hf hanc hdesc hle hs' hd K hK
          obtain ⟨_, tg, rfl⟩ := hd 20 74 (by kernel_rfl)
          obtain ⟨_, t26, A26, c26, rfl⟩ := hd 26 80 (by kernel_rfl)
          unfold Go.Rel.stepOf
          go_simp
          exact hK _ _ (But.refl _ _) (hI) rfl
        · intro f a w' hI hf hanc hdesc hle hs' hd K hK
          obtain ⟨_, tg, rfl⟩ := hd 20 74 (by kernel_rfl)
          obtain ⟨_, t22, rfl⟩ := hd 22 76 (by kernel_rfl)
          obtain ⟨_, t27, rfl⟩ := hd 27 81 (by kernel_rfl)
          unfold Go.Rel.stepOf
          go_simp
          exact hK _ _ (But.refl _ _) (hI) rfl
        · intro f a w' hI hf hanc hdesc hle hs' hd K hK
          obtain ⟨_, t20, rfl⟩ := hd 20 74 (by kernel_rfl)
          obtain ⟨_, t28, rfl⟩ := hd 28 82 (by kernel_rfl)
          unfold Go.Rel.stepOf
          go_simp
          exact hK _ _ (But.refl _ _) (hI) rfl
      case heq =>
        intro f a w6 hall hI hle hs' hR'
        have HI6 := Lib.hid hI.1
        have HB6 : Hid (Below g0 w w6) := Lib.hid (HB5.out.trans (hle.below (by have := HB5.out.size; have := HG0.out; omega) fun k _ (h : NoB k) => h))
        clear hI hle hall
        obtain ⟨v54, s54, _⟩ := hR' 0 54 (by kernel_rfl)
        obtain ⟨v55, s55, _⟩ := hR' 1 55 (by kernel_rfl)
        obtain ⟨v56, s56, _⟩ := hR' 2 56 (by kernel_rfl)
        obtain ⟨v57, s57, _⟩ := hR' 3 57 (by kernel_rfl)
        obtain ⟨v58, s58, _⟩ := hR' 4 58 (by kernel_rfl)
        obtain ⟨v59, s59, _⟩ := hR' 5 59 (by kernel_rfl)
        obtain ⟨v60, s60, _⟩ := hR' 6 60 (by kernel_rfl)
        obtain ⟨v61, s61, _⟩ := hR' 7 61 (by kernel_rfl)
        obtain ⟨v62, s62, _⟩ := hR' 8 62 (by kernel_rfl)
        obtain ⟨v63, s63, _⟩ := hR' 9 63 (by kernel_rfl)
        obtain ⟨v64, s64, _⟩ := hR' 10 64 (by kernel_rfl)
        obtain ⟨v65, s65, _⟩ := hR' 11 65 (by kernel_rfl)
        obtain ⟨v66, s66, _⟩ := hR' 12 66 (by kernel_rfl)
        obtain ⟨v67, s67, _⟩ := hR' 13 67 (by kernel_rfl)
        obtain ⟨v68, s68, _⟩ := hR' 14 68 (by kernel_rfl)
        obtain ⟨v69, s69, _⟩ := hR' 15 69 (by kernel_rfl)
        obtain ⟨v70, s70, _⟩ := hR' 16 70 (by kernel_rfl)
        obtain ⟨v71, s71, _⟩ := hR' 17 71 (by kernel_rfl)
        obtain ⟨v72, s72, _⟩ := hR' 18 72 (by kernel_rfl)
        obtain ⟨v73, s73, _⟩ := hR' 19 73 (by kernel_rfl)
        obtain ⟨v74, s74, _⟩ := hR' 20 74 (by kernel_rfl)
        obtain ⟨v75, s75, _⟩ := hR' 21 75 (by kernel_rfl)
        obtain ⟨v76, s76, _⟩ := hR' 22 76 (by kernel_rfl)
        obtain ⟨v77, s77, _⟩ := hR' 23 77 (by kernel_rfl)
        obtain ⟨v78, s78, _⟩ := hR' 24 78 (by kernel_rfl)
        obtain ⟨v79, s79, _⟩ := hR' 25 79 (by kernel_rfl)
        obtain ⟨v80, s80, _⟩ := hR' 26 80 (by kernel_rfl)
        obtain ⟨v81, s81, _⟩ := hR' 27 81 (by kernel_rfl)
        obtain ⟨v82, s82, _⟩ := hR' 28 82 (by kernel_rfl)
        obtain ⟨_, s83, rfl⟩ := hR' 29 83 (by kernel_rfl)
        have e := hs'.shape
        simp only [List.toList_toArray, List.foldl, Go.Rel.reset, Array.getD_eq_getD_getElem?, s54, s55, s56, s57, s58, s59, s60, s61, s62, s63, s64, s65, s66, s67, s68, s69, s70, s71, s72, s73, s74, s75, s76, s77, s78, s79, s80, s81, s82, s83, Option.getD_some] at e
        simp at e
        clear hR' hs' s54 s55 s56 s57 s58 s59 s60 s61 s62 s63 s64 s65 s66 s67 s68 s69 s70 s71 s72 s73 s74 s75 s76 s77 s78 s79 s80 s81 s82 s83
        subst e
        go_wp2
        go_roundw
        case rel => exact ⟨k + 1, t', by omega, by go_num, HI6, HB6⟩
        case measure => simp [intOf]; omega
    · obtain ⟨M, hM⟩ : ∃ M, t.l = M := ⟨_, rfl⟩
      have HMl := Lib.hid hM
      have HLi : Hid (∀ wx, Both P (fun k => g0 ≤ k) wx Bp t Bd t → Calls Try.prog 15 #[.pointer (some ⟨Bp, 0, none⟩)] wx fun e w2 => ∃ v, e = .returned v ∧ RowsV NoB w2 v M ∧ Below wx.heap.size wx w2) := Lib.hid fun wx h => by
        obtain ⟨S, hp⟩ := h.read
        rw [← hM]
        refine (HC.out.list wx hp).mono ?_
        rintro e w2 ⟨A, c, rfl, hs, _, _, _, hb⟩
        exact ⟨_, rfl, ⟨A, c, rfl, hs, fun _ _ _ h => h⟩, hb⟩
      have hml : M.length ≤ maxLen := by
        obtain ⟨S, hp⟩ := hbo.out.read
        have ho := HC.out.ok hp
        have := ho.len
        have := ho.most.2
        rw [← hM]
        unfold maxLen
        omega
      have HSm : Hid (∀ (w' : World) A c A2 c2, SK trC 4 w' A M.length M → SK trC 4 w' A2 M.length M → Calls Try.prog 12 #[.slice A M.length c, .slice A2 M.length c2] w' fun e w2 => e = .returned (.bool true) ∧ Below w'.heap.size w' w2) := Lib.hid fun w' A c A2 c2 h1 h2 => by
        rw [← (sameT_iff M M).2 rfl]
        exact same_any A _ c M A2 _ c2 M w' h1 h2 hml
      clear hM hml
      by_cases h1 : k < n
      case' pos =>
        have q1 : (k : Int) < (n : Int) := by omega
        have q2 : ¬ (k : Int) < 100 := by omega
        go_wp2_with fail
      case' neg =>
        have q1 : ¬ (k : Int) < (n : Int) := by omega
        go_wp2_with fail
      all_goals
        refine Go.Rel.wp_region_states (by kernel_rfl) (by kernel_rfl) (by kernel_rfl) (by kernel_rfl) (fun _ w => Both P (fun k => g0 ≤ k) w Bp t Bd t ∧ True) (But NoB) (fun _ _ _ h k => h.trans k) ((But.refl _ _).drew) ⟨hbo.out.below HC.out ((Below.refl _ _).drew), trivial⟩ (tbPe NoB Bp Bd M) (tbPe_stable NoB Bp Bd M) ?hsE ?heE
        case hsE =>
          refine (.cons ?_ (.cons ?_ (.cons ?_ (.cons ?_ (.cons ?_ (.cons ?_ (.cons ?_ (.cons ?_ (.cons ?_ (.cons ?_ (.cons ?_ .nil)))))))))))
          · intro f a w' hI hf hanc hdesc hle hs' hd K hK
            have f5 : a.tmps[5]? = some (.pointer (some ⟨Bp, 0, none⟩)) := hs'.2.2 5 (by kernel_rfl)
            unfold Go.Rel.stepOf
            go_simp
            exact hK _ _ (But.refl _ _) (hI) rfl
          · intro f a w' hI hf hanc hdesc hle hs' hd K hK
            obtain ⟨_, t0, rfl⟩ := hd 0 84 (by kernel_rfl)
            unfold Go.Rel.stepOf
            go_simp
            refine (HLi.out w' hI.1).mono ?_
            rintro e w2 ⟨v, rfl, hv5, hb5⟩
            exact hK _ _ (But.of_below hb5) ⟨hI.1.below HC.out hb5, trivial⟩ hv5
          · intro f a w' hI hf hanc hdesc hle hs' hd K hK
            have f6 : a.tmps[6]? = some (.pointer (some ⟨Bd, 0, none⟩)) := hs'.2.2 6 (by kernel_rfl)
            unfold Go.Rel.stepOf
            go_simp
            exact hK _ _ (But.refl _ _) (hI) rfl
          · intro f a w' hI hf hanc hdesc hle hs' hd K hK
            obtain ⟨_, t2, rfl⟩ := hd 2 86 (by kernel_rfl)
            unfold Go.Rel.stepOf
            go_simp
            exact hK _ _ (But.refl _ _) (hI) rfl
          · intro f a w' hI hf hanc hdesc hle hs' hd K hK
            obtain ⟨_, t3, rfl⟩ := hd 3 87 (by kernel_rfl)
            unfold Go.Rel.stepOf
            go_simp
            exact hK _ _ (But.refl _ _) (hI) rfl
          · intro f a w' hI hf hanc hdesc hle hs' hd K hK
            obtain ⟨_, t4, rfl⟩ := hd 4 88 (by kernel_rfl)
            obtain ⟨Sd, hok, A9, c9, hri⟩ := hI.1.ref
            have c1 := hri.c1
            have hrw := hri.row
            rw [HMl.out] at c1 hrw
            unfold Go.Rel.stepOf
            go_simp
            exact hK _ _ (But.refl _ _) hI ⟨_, _, rfl, hrw, fun _ _ _ h => h⟩
          · intro f a w' hI hf hanc hdesc hle hs' hd K hK
            obtain ⟨_, t1, A1, c1, rfl, k1, n1⟩ := hd 1 85 (by kernel_rfl)
            obtain ⟨_, t5, A5, c5, rfl, k5, n5⟩ := hd 5 89 (by kernel_rfl)
            unfold Go.Rel.stepOf
            go_simp
            refine (HSm.out w' A1 c1 A5 c5 k1 k5).mono ?_
            rintro e w2 ⟨rfl, hb5⟩
            exact hK _ _ (But.of_below hb5) ⟨hI.1.below HC.out hb5, trivial⟩ rfl
          · intro f a w' hI hf hanc hdesc hle hs' hd K hK
            obtain ⟨_, t6, rfl⟩ := hd 6 90 (by kernel_rfl)
            unfold Go.Rel.stepOf
            go_simp
            exact hK _ _ (But.refl _ _) (hI) rfl
          · intro f a w' hI hf hanc hdesc hle hs' hd K hK
            obtain ⟨_, tg, rfl⟩ := hd 7 91 (by kernel_rfl)
            unfold Go.Rel.stepOf
            go_simp
            refine (works_any HC.out w').mono ?_
            rintro e w2 ⟨rfl, hb5⟩
            exact hK _ _ (But.of_below hb5) ⟨hI.1.below HC.out hb5, trivial⟩ rfl
          · intro f a w' hI hf hanc hdesc hle hs' hd K hK
            obtain ⟨_, t7, rfl⟩ := hd 7 91 (by kernel_rfl)
            obtain ⟨_, t8, rfl⟩ := hd 8 92 (by kernel_rfl)
            unfold Go.Rel.stepOf
            go_simp
            exact hK _ _ (But.refl _ _) (hI) rfl
          · intro f a w' hI hf hanc hdesc hle hs' hd K hK
            obtain ⟨_, t9, rfl⟩ := hd 9 93 (by kernel_rfl)
            unfold Go.Rel.stepOf
            go_simp
            exact hK _ _ (But.refl _ _) (hI) rfl
        case heE =>
          intro f a w6 hall hI hle hs' hR'
          have HB6 : Hid (Below g0 w w6) := Lib.hid (hb.out.trans (hle.below (by have := hb.out.size; have := HG0.out; omega) fun k _ (h : NoB k) => h))
          clear hI hle hall
          obtain ⟨v84, s84, _⟩ := hR' 0 84 (by kernel_rfl)
          obtain ⟨v85, s85, _⟩ := hR' 1 85 (by kernel_rfl)
          obtain ⟨v86, s86, _⟩ := hR' 2 86 (by kernel_rfl)
          obtain ⟨v87, s87, _⟩ := hR' 3 87 (by kernel_rfl)
          obtain ⟨v88, s88, _⟩ := hR' 4 88 (by kernel_rfl)
          obtain ⟨v89, s89, _⟩ := hR' 5 89 (by kernel_rfl)
          obtain ⟨v90, s90, _⟩ := hR' 6 90 (by kernel_rfl)
          obtain ⟨v91, s91, _⟩ := hR' 7 91 (by kernel_rfl)
          obtain ⟨v92, s92, _⟩ := hR' 8 92 (by kernel_rfl)
          obtain ⟨v93, s93, _⟩ := hR' 9 93 (by kernel_rfl)
          obtain ⟨_, s4, rfl⟩ := hR' 10 4 (by kernel_rfl)
          have e := hs'.shape
          simp only [List.toList_toArray, List.foldl, Go.Rel.reset, Array.getD_eq_getD_getElem?, s84, s85, s86, s87, s88, s89, s90, s91, s92, s93, s4, Option.getD_some] at e
          simp at e
          clear hR' hs' s84 s85 s86 s87 s88 s89 s90 s91 s92 s93 s4
          subst e
          go_wp2
          go_ret
          exact ⟨rfl, HB6.out⟩
end
end Go.Proofs.Ytphjlcogjalidaa
