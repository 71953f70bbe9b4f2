/-
  The reader's parts: wide, small, update of the program, walked (layer 13).
-/
import Derived.Test.YtjbemjnofnifaaaZj30
import Derived.Test.YtjbemjnofnifaaaZj31
namespace Go.Proofs.Ytjbemjnofnifaaa
open Go.RowKit
set_option linter.unusedSimpArgs false
set_option linter.unusedVariables false

theorem num_out_le (most : Nat) (s : St) : (itNum most).out s ≤ most := by
  unfold It.out
  split
  · exact Nat.zero_le _
  · split
    · exact Nat.zero_le _
    · rename_i h
      have h1 : errNum most s.b = 0 := by simpa [itNum] using h
      unfold errNum at h1
      show valN s.b ≤ most
      split at h1
      · contradiction
      · split at h1
        · cases h1
        · omega
/-- The program's reader of messages, as a value. -/
def rdV (B : Nat) : Value := .agg #[.pointer (some ⟨B, 0, none⟩)]
theorem wide_any (S : Nat → Prop) (B : Nat) (s : St) (w : World) (h : RdAt S w B s) :
    Calls Try.prog 49 #[rdV B] w (Reads S B w (.int .u32 ((itNum 4294967295).out s : Int)) ((itNum 4294967295).next s)) := by
  have hb : Below w.heap.size w (w.alloc (.cells #[.pointer (some ⟨B, 0, none⟩)] 73)) := below1 _ _
  have s1 := (rNum_any S B 4294967295 s _ (h.below hb) (by decide)).mono fun e w' h => Reads.from h hb
  have hle := num_out_le 4294967295 s
  obtain ⟨m, hm⟩ : ∃ m : Int, ((4294967295 : Nat) : Int) = m := ⟨_, rfl⟩
  obtain ⟨z, hz⟩ : ∃ z, (itNum 4294967295).out s = z := ⟨_, rfl⟩
  obtain ⟨s', hs'⟩ : ∃ s', (itNum 4294967295).next s = s' := ⟨_, rfl⟩
  rw [hz] at hle s1 ⊢
  rw [hs'] at s1 ⊢
  unfold u64V at s1
  have S1 := Lib.hid s1
  have zl : (z : Int) < 4294967296 := by omega
  unfold rdV
  clear h hb s1 hz hs' hm hle
  go_enter Try.func49, Try.ntmps49
  go_wp2_with fail
  refine S1.out.mono ?_
  rintro e w1 ⟨rfl, h2, h3⟩
  have HR : Hid (Reads S B w (.int .u32 (z : Int)) s' (.returned (.int .u32 (z : Int))) w1) := Lib.hid ⟨rfl, h2, h3⟩
  clear h2 h3
  go_wp2
  go_ret
  exact HR.out
theorem small_any (S : Nat → Prop) (B : Nat) (s : St) (w : World) (h : RdAt S w B s) :
    Calls Try.prog 50 #[rdV B] w (Reads S B w (.int .i64 ((itNum 255).out s : Int)) ((itNum 255).next s)) := by
  have hb : Below w.heap.size w (w.alloc (.cells #[.pointer (some ⟨B, 0, none⟩)] 73)) := below1 _ _
  have s1 := (rNum_any S B 255 s _ (h.below hb) (by decide)).mono fun e w' h => Reads.from h hb
  have hle := num_out_le 255 s
  obtain ⟨z, hz⟩ : ∃ z, (itNum 255).out s = z := ⟨_, rfl⟩
  obtain ⟨s', hs'⟩ : ∃ s', (itNum 255).next s = s' := ⟨_, rfl⟩
  rw [hz] at hle s1 ⊢
  rw [hs'] at s1 ⊢
  unfold u64V at s1
  have S1 := Lib.hid s1
  have zl : (z : Int) < 256 := by omega
  unfold rdV
  clear h hb s1 hz hs' hle
  go_enter Try.func50, Try.ntmps50
  go_wp2_with fail
  refine S1.out.mono ?_
  rintro e w1 ⟨rfl, h2, h3⟩
  have HR : Hid (Reads S B w (.int .i64 (z : Int)) s' (.returned (.int .i64 (z : Int))) w1) := Lib.hid ⟨rfl, h2, h3⟩
  clear h2 h3
  go_wp2
  go_ret
  exact HR.out
end Go.Proofs.Ytjbemjnofnifaaa

/-
  update of the program's reader of messages, walked (layer 13).
-/
namespace Go.Proofs.Ytjbemjnofnifaaa
open Go.RowKit
set_option linter.unusedSimpArgs false
set_option linter.unusedVariables false

/-- Where the reader stands when these calls have been made. -/
def updSt (s : St) (f : Nat → Bool) : St := cond (f 5) (upNext s) (cond (f 3) (upS2 s) (cond (f 1) (upS1 s) s))
structure UpdI (S : Nat → Prop) (B X a9 b9 c9 : Nat) (s : St) (f : Nat → Bool) (w : World) : Prop where
  rd : RdAt S w B (updSt s f)
  own : w.cell? ⟨X, 0, none⟩ = some (.pointer (some ⟨B, 0, none⟩))
  out : w.heap[X + 1]? = some (.cells (cond (f 7) #[.int .i64 (a9 : Int), .int .u32 (b9 : Int), .int .i64 (c9 : Int)] #[.int .i64 0, .int .u32 0, .int .i64 0]) 66 (0, 0))
theorem upd_set {B : Nat} (w : World) (X : Nat) (a b c : Value) : But (fun k => k = X + 1) w (((w.setCell ⟨X + 1, 0, none⟩ a).setCell ⟨X + 1, 1, none⟩ b).setCell ⟨X + 1, 2, none⟩ c) :=
  ((But.set (S := fun k => k = X + 1) _ (p := ⟨X + 1, 0, none⟩) rfl _).trans (But.set (S := fun k => k = X + 1) _ (p := ⟨X + 1, 1, none⟩) rfl _)).trans (But.set (S := fun k => k = X + 1) _ (p := ⟨X + 1, 2, none⟩) rfl _)
def updR (_ : Nat → Prop) (B : Nat) (X : Nat) (a9 : Nat) (b9 : Nat) (c9 : Nat) : Nat → Value → World → Prop
  | 0, v, _ => v = .agg #[.pointer (some ⟨B, 0, none⟩)]
  | 1, v, _ => v = .int .i64 (a9 : Int)
  | 2, v, _ => v = .agg #[.pointer (some ⟨B, 0, none⟩)]
  | 3, v, _ => v = .int .u32 (b9 : Int)
  | 4, v, _ => v = .agg #[.pointer (some ⟨B, 0, none⟩)]
  | 5, v, _ => v = .int .i64 (c9 : Int)
  | 6, v, _ => v = .agg #[.int .i64 (a9 : Int), .int .u32 (b9 : Int), .int .i64 (c9 : Int)]
  | _, _, _ => True
theorem updR_stable (S : Nat → Prop) (B : Nat) (X : Nat) (a9 : Nat) (b9 : Nat) (c9 : Nat) : ∀ i v w w', updR S B X a9 b9 c9 i v w → But S w w' → updR S B X a9 b9 c9 i v w'
  | 0, _, _, _, h, _ | 1, _, _, _, h, _ | 2, _, _, _, h, _ | 3, _, _, _, h, _ | 4, _, _, _, h, _ | 5, _, _, _, h, _ | 6, _, _, _, h, _ => h
  | _ + 7, _, _, _, h, _ => h
set_option maxHeartbeats 8000000 in
set_option maxRecDepth 100000 in
theorem update_any (S : Nat → Prop) (B : Nat) (s : St) (w : World) (h : RdAt S w B s) :
    Calls Try.prog 53 #[rdV B] w (Reads S B w (upV (upOut s)) (upNext s)) := by
  have hlt := h.lt
  -- the new blocks may change
  have h' : RdAt (fun k => S k ∨ k = w.heap.size + 1) w B s := by
    obtain ⟨h0, A, n, c, hh, hr, hm⟩ := h
    refine ⟨.inl h0, A, n, c, hh, ⟨hr.1, fun b off e hn => ?_⟩, hm⟩
    obtain ⟨b', off', e', hlt', _⟩ := hr.1.2 hn
    rw [e] at e'
    simp only [Option.some.injEq, Addr.mk.injEq] at e'
    rintro (h | h)
    · exact hr.2 b off e hn h
    · omega
  have hSB := h.1
  obtain ⟨S', hS'⟩ : ∃ S', (fun k => S k ∨ k = w.heap.size + 1) = S' := ⟨_, rfl⟩
  rw [hS'] at h'
  have HXS : Hid ((∀ k, k = w.heap.size + 1 → S' k) ∧ (∀ k, S k → S' k) ∧ S B) := Lib.hid ⟨fun k hk => by rw [← hS']; exact .inr hk, fun k hk => by rw [← hS']; exact .inl hk, hSB⟩
  have e := heap_alloc_new (w.alloc (.cells #[.pointer (some ⟨B, 0, none⟩)] 73)) (.cells #[.int .i64 0, .int .u32 0, .int .i64 0] 66)
  rw [World.size_alloc] at e
  have e2 := ((below1 (w.alloc (.cells #[.pointer (some ⟨B, 0, none⟩)] 73)) (.cells #[.int .i64 0, .int .u32 0, .int .i64 0] 66)).block w.heap.size (by simp)).trans (heap_alloc_new w _)
  have H0 : Hid (RdAt S' ((w.alloc (.cells #[.pointer (some ⟨B, 0, none⟩)] 73)).alloc (.cells #[.int .i64 0, .int .u32 0, .int .i64 0] 66)) B s ∧ ((w.alloc (.cells #[.pointer (some ⟨B, 0, none⟩)] 73)).alloc (.cells #[.int .i64 0, .int .u32 0, .int .i64 0] 66)).cell? ⟨w.heap.size, 0, none⟩ = some (.pointer (some ⟨B, 0, none⟩)) ∧ ((w.alloc (.cells #[.pointer (some ⟨B, 0, none⟩)] 73)).alloc (.cells #[.int .i64 0, .int .u32 0, .int .i64 0] 66)).heap[w.heap.size + 1]? = some (.cells #[.int .i64 0, .int .u32 0, .int .i64 0] 66 (0, 0)) ∧ Below w.heap.size w ((w.alloc (.cells #[.pointer (some ⟨B, 0, none⟩)] 73)).alloc (.cells #[.int .i64 0, .int .u32 0, .int .i64 0] 66))) :=
    Lib.hid ⟨h'.below (below2 w _ _), by rw [cell_of_row _ _ _ _ _ _ e2]; rfl, e, below2 w _ _⟩
  have S1 := Lib.hid (fun w' (h : RdAt S' w' B s) => small_any S' B s w' h)
  have S2 := Lib.hid (fun w' (h : RdAt S' w' B (upS1 s)) => wide_any S' B (upS1 s) w' h)
  have S3 := Lib.hid (fun w' (h : RdAt S' w' B (upS2 s)) => small_any S' B (upS2 s) w' h)
  have e1 : (itNum 255).next s = upS1 s := rfl
  have e2' : (itNum 4294967295).next (upS1 s) = upS2 s := rfl
  have e3 : (itNum 255).next (upS2 s) = upNext s := rfl
  rw [e1] at S1
  rw [e2'] at S2
  rw [e3] at S3
  have hup : upV (upOut s) = .agg #[.int .i64 ((itNum 255).out s : Int), .int .u32 ((itNum 4294967295).out (upS1 s) : Int), .int .i64 ((itNum 255).out (upS2 s) : Int)] := rfl
  rw [hup]
  obtain ⟨a9, ha⟩ : ∃ a, (itNum 255).out s = a := ⟨_, rfl⟩
  obtain ⟨b9, hb⟩ : ∃ a, (itNum 4294967295).out (upS1 s) = a := ⟨_, rfl⟩
  obtain ⟨c9, hc⟩ : ∃ a, (itNum 255).out (upS2 s) = a := ⟨_, rfl⟩
  rw [ha] at S1
  rw [hb] at S2
  rw [hc] at S3
  rw [ha, hb, hc]
  obtain ⟨X, hX⟩ : ∃ X, w.heap.size = X := ⟨_, rfl⟩
  rw [hX] at HXS
  have HX := Lib.hid hX
  have hBX : B < X := by omega
  obtain ⟨PO, hPO⟩ : ∃ PO, Reads S B w (.agg #[.int .i64 (a9 : Int), .int .u32 (b9 : Int), .int .i64 (c9 : Int)]) (upNext s) = PO := ⟨_, rfl⟩
  rw [hPO]
  have HPO := Lib.hid hPO
  unfold rdV at S1 S2 S3 ⊢
  clear h h' hSB hS' e e2 e1 e2' e3 ha hb hc hup hX hPO
  go_enter Try.func53, Try.ntmps53
  go_wp2
  generalize (w.alloc (.cells #[.pointer (some ⟨B, 0, none⟩)] 73)).alloc (.cells #[.int .i64 0, .int .u32 0, .int .i64 0] 66) = W at H0 ⊢
  rw [HX.out]
  rw [HX.out] at H0
  have hD : Below W.heap.size W W.drew := (Below.refl _ _).drew
  refine Go.Rel.wp_region_states (by kernel_rfl) (by kernel_rfl) (by kernel_rfl) (by kernel_rfl) (UpdI S' B X a9 b9 c9 s) (But (fun k => k = B ∨ k = X + 1)) (fun _ _ _ h k => h.trans k) ((But.refl _ _).drew) ⟨H0.out.1.below hD, H0.out.2.1, H0.out.2.2.1⟩ (updR (fun k => k = B ∨ k = X + 1) B X a9 b9 c9) (updR_stable (fun k => k = B ∨ k = X + 1) B X a9 b9 c9) ?hsteps ?hend
  case hsteps =>
    refine (.cons ?_ (.cons ?_ (.cons ?_ (.cons ?_ (.cons ?_ (.cons ?_ (.cons ?_ (.cons ?_ .nil))))))))
    · intro f a w' hI hf hanc hdesc hle hs' hd K hK
      have f1 : a.tmps[1]? = some (.pointer (some ⟨X, 0, none⟩)) := hs'.2.2 1 (by kernel_rfl)
      have hcl := hI.own
      unfold Go.Rel.stepOf
      go_simp
      exact hK _ _ (But.refl _ _) (⟨hI.rd, hI.own, hI.out⟩) rfl
    · intro f a w' hI hf hanc hdesc hle hs' hd K hK
      obtain ⟨_, t0, rfl⟩ := hd 0 3 (by kernel_rfl)
      have z3 := hdesc 40 3 (by kernel_rfl)
      have z5 := hdesc 40 5 (by kernel_rfl)
      have z7 := hdesc 40 7 (by kernel_rfl)
      have hr := hI.rd
      unfold updSt at hr
      rw [hf, z3, z5] at hr
      simp only [cond_false, cond_true] at hr
      unfold Go.Rel.stepOf
      go_simp
      refine (S1.out w' hr).mono ?_
      rintro e w2 ⟨rfl, h9, hb⟩
      exact hK _ _ (hb.mono (fun k h => .inl h)) ⟨by unfold updSt; simp only [Go.Rel.upd, z3, z5]; exact h9, (hb.cell (p := ⟨X, 0, none⟩) (bcell_lt hI.own) (by show ¬ X = B; omega)).trans hI.own, (hb.block _ (block_lt hI.out) (by omega)).trans (by have := hI.out; rw [z7] at this; rw [this]; simp [Go.Rel.upd, z7])⟩ rfl
    · intro f a w' hI hf hanc hdesc hle hs' hd K hK
      have f1 : a.tmps[1]? = some (.pointer (some ⟨X, 0, none⟩)) := hs'.2.2 1 (by kernel_rfl)
      have hcl := hI.own
      unfold Go.Rel.stepOf
      go_simp
      exact hK _ _ (But.refl _ _) (⟨hI.rd, hI.own, hI.out⟩) rfl
    · intro f a w' hI hf hanc hdesc hle hs' hd K hK
      obtain ⟨_, t2, rfl⟩ := hd 2 5 (by kernel_rfl)
      have z1 := hanc 40 1 (by kernel_rfl)
      have z5 := hdesc 40 5 (by kernel_rfl)
      have z7 := hdesc 40 7 (by kernel_rfl)
      have hr := hI.rd
      unfold updSt at hr
      rw [hf, z1, z5] at hr
      simp only [cond_false, cond_true] at hr
      unfold Go.Rel.stepOf
      go_simp
      refine (S2.out w' hr).mono ?_
      rintro e w2 ⟨rfl, h9, hb⟩
      exact hK _ _ (hb.mono (fun k h => .inl h)) ⟨by unfold updSt; simp only [Go.Rel.upd, z1, z5]; exact h9, (hb.cell (p := ⟨X, 0, none⟩) (bcell_lt hI.own) (by show ¬ X = B; omega)).trans hI.own, (hb.block _ (block_lt hI.out) (by omega)).trans (by have := hI.out; rw [z7] at this; rw [this]; simp [Go.Rel.upd, z7])⟩ rfl
    · intro f a w' hI hf hanc hdesc hle hs' hd K hK
      have f1 : a.tmps[1]? = some (.pointer (some ⟨X, 0, none⟩)) := hs'.2.2 1 (by kernel_rfl)
      have hcl := hI.own
      unfold Go.Rel.stepOf
      go_simp
      exact hK _ _ (But.refl _ _) (⟨hI.rd, hI.own, hI.out⟩) rfl
    · intro f a w' hI hf hanc hdesc hle hs' hd K hK
      obtain ⟨_, t4, rfl⟩ := hd 4 7 (by kernel_rfl)
      have z1 := hanc 40 1 (by kernel_rfl)
      have z3 := hanc 40 3 (by kernel_rfl)
      have z7 := hdesc 40 7 (by kernel_rfl)
      have hr := hI.rd
      unfold updSt at hr
      rw [hf, z1, z3] at hr
      simp only [cond_false, cond_true] at hr
      unfold Go.Rel.stepOf
      go_simp
      refine (S3.out w' hr).mono ?_
      rintro e w2 ⟨rfl, h9, hb⟩
      exact hK _ _ (hb.mono (fun k h => .inl h)) ⟨by unfold updSt; simp only [Go.Rel.upd, z1, z3]; exact h9, (hb.cell (p := ⟨X, 0, none⟩) (bcell_lt hI.own) (by show ¬ X = B; omega)).trans hI.own, (hb.block _ (block_lt hI.out) (by omega)).trans (by have := hI.out; rw [z7] at this; rw [this]; simp [Go.Rel.upd, z7])⟩ rfl
    · intro f a w' hI hf hanc hdesc hle hs' hd K hK
      obtain ⟨_, t1, rfl⟩ := hd 1 4 (by kernel_rfl)
      obtain ⟨_, t3, rfl⟩ := hd 3 6 (by kernel_rfl)
      obtain ⟨_, t5, rfl⟩ := hd 5 8 (by kernel_rfl)
      unfold Go.Rel.stepOf
      go_simp
      exact hK _ _ (But.refl _ _) (⟨hI.rd, hI.own, hI.out⟩) rfl
    · intro f a w' hI hf hanc hdesc hle hs' hd K hK
      obtain ⟨_, t6, rfl⟩ := hd 6 9 (by kernel_rfl)
      have f2 : a.tmps[2]? = some (.pointer (some ⟨X + 1, 0, none⟩)) := hs'.2.2 2 (by kernel_rfl)
      have z1 := hanc 40 1 (by kernel_rfl)
      have z3 := hanc 40 3 (by kernel_rfl)
      have z5 := hanc 40 5 (by kernel_rfl)
      have ho := hI.out
      rw [hf] at ho
      simp only [cond_false] at ho
      obtain ⟨d0, d1, d2⟩ := blk3 ho
      have g0 := blk_froz ho 0
      have g1 := blk_froz ho 1
      have g2 := blk_froz ho 2
      unfold Go.Rel.stepOf
      go_simp
      have hbt := upd_set (B := B) w' X (.int .i64 (a9 : Int)) (.int .u32 (b9 : Int)) (.int .i64 (c9 : Int))
      have hr := hI.rd
      refine hK undef _ (hbt.mono (fun k h => .inr h)) ⟨?_, (hbt.cell (p := ⟨X, 0, none⟩) (bcell_lt hI.own) (by show ¬ X = X + 1; omega)).trans hI.own, by rw [set3_blk ho]; rfl⟩ trivial
      have e5 : updSt s (Go.Rel.upd f 7) = updSt s f := rfl
      rw [e5]
      exact hr.but hbt HXS.out.1 (fun h => by omega)
  case hend =>
    intro f a w3 hall hI hle hs' hR'
    have f5 := hall 5 (by decide)
    have f7 := hall 7 (by decide)
    have hr := hI.rd
    unfold updSt at hr
    rw [f5] at hr
    simp only [cond_true] at hr
    have ho := hI.out
    rw [f7] at ho
    simp only [cond_true] at ho
    obtain ⟨d0, d1, d2⟩ := blk3 ho
    have HF : Hid (PO (.returned (.agg #[.int .i64 (a9 : Int), .int .u32 (b9 : Int), .int .i64 (c9 : Int)])) w3) := Lib.hid (by
      rw [← HPO.out]
      refine ⟨rfl, ?_, ?_⟩
      · obtain ⟨_, A, n, c, hh, hr, hm⟩ := hr
        exact ⟨HXS.out.2.2, A, n, c, hh, ⟨hr.1, fun b off e hn h => hr.2 b off e hn (HXS.out.2.1 b h)⟩, hm⟩
      · exact (But.of_below (by rw [HX.out]; exact H0.out.2.2.2) (S := fun k => k = B)).then_ hle (fun i hi hlt => by
          rcases hi with h | h
          · exact h
          · have := HX.out; omega))
    clear hr ho hall hI hle f5 f7
    obtain ⟨v3, s3, _⟩ := hR' 0 3 (by kernel_rfl)
    obtain ⟨v4, s4, _⟩ := hR' 1 4 (by kernel_rfl)
    obtain ⟨v5, s5, _⟩ := hR' 2 5 (by kernel_rfl)
    obtain ⟨v6, s6, _⟩ := hR' 3 6 (by kernel_rfl)
    obtain ⟨v7, s7, _⟩ := hR' 4 7 (by kernel_rfl)
    obtain ⟨v8, s8, _⟩ := hR' 5 8 (by kernel_rfl)
    obtain ⟨v9, s9, _⟩ := hR' 6 9 (by kernel_rfl)
    have e := hs'.shape
    simp only [List.toList_toArray, List.foldl, Go.Rel.reset, Array.getD_eq_getD_getElem?, s3, s4, s5, s6, s7, s8, s9, Option.getD_some] at e
    simp at e
    clear hR' hs' s3 s4 s5 s6 s7 s8 s9
    subst e
    go_wp2
    refine bodyPost_ret (v := .agg #[.int .i64 (a9 : Int), .int .u32 (b9 : Int), .int .i64 (c9 : Int)]) (by simp [results, Try.results53, go_sem, d0, d1, d2]) rfl HF.out
end Go.Proofs.Ytjbemjnofnifaaa

/-
  list of the program's reader of messages, walked (layer 13).
-/
namespace Go.Proofs.Ytjbemjnofnifaaa
open Go.RowKit
set_option linter.unusedSimpArgs false
set_option linter.unusedVariables false

theorem upsNext_snoc : ∀ (k : Nat) (s : St), upsNext (k + 1) s = upNext (upsNext k s)
  | 0, _ => rfl
  | k + 1, s => by rw [upsNext, upsNext_snoc k]; rfl
theorem upsOut_snoc : ∀ (k : Nat) (s : St), upsOut (k + 1) s = upsOut k s ++ [upOut (upsNext k s)]
  | 0, _ => rfl
  | k + 1, s => by rw [upsOut, upsOut_snoc k]; rfl
theorem UsOk.of_row {w : World} {base : Nat} {v : Value} {l : List Up} (h : upRow w base v l) : ∃ A c, v = .slice A l.length c ∧ UsOk w ⟨A, c, l⟩ ∧ (∀ b off, A = some ⟨b, off, .none⟩ → base ≤ b) ∧ TyU w ⟨A, c, l⟩ := by
  obtain ⟨A, c, e, h1, h2, h3⟩ := SUp.of_row h
  rcases h.2 with ⟨e', _⟩ | ⟨g, cap, cur, e', hg, hh, _⟩
  · rw [e] at e'
    simp only [Value.slice.injEq] at e'
    obtain ⟨rfl, _, rfl⟩ := e'
    refine ⟨Option.none, 0, e, ⟨h1, h2, h3, fun _ => rfl⟩, (fun _ _ e => by cases e), fun hn => ?_⟩
    have h9 : l.length = 0 := by
      rcases Nat.eq_zero_or_pos l.length with e9 | e9
      · exact e9
      · obtain ⟨b, off, e8, _⟩ := h1.2 e9
        cases e8
    exact absurd hn (by simp only; omega)
  · rw [e] at e'
    simp only [Value.slice.injEq] at e'
    obtain ⟨rfl, _, rfl⟩ := e'
    refine ⟨_, _, e, ⟨h1, h2, h3, fun e => by cases e⟩, fun b off e => ?_, fun _ => ⟨_, _, cur, rfl, hh⟩⟩
    simp only [Option.some.injEq, Addr.mk.injEq] at e
    omega
/-- What a list's call does. -/
def ListPost (S : Nat → Prop) (B : Nat) (w : World) (l : List Up) (s : St) (e : Ending) (w' : World) : Prop :=
  ∃ A c, e = .returned (.slice A l.length c) ∧ (UsOk w' ⟨A, c, l⟩ ∧ (∀ b off, A = some ⟨b, off, none⟩ → w.heap.size ≤ b) ∧ TyU w' ⟨A, c, l⟩) ∧ RdAt S w' B s ∧ But (fun k => k = B) w w'
set_option maxHeartbeats 8000000 in
theorem list_any (S : Nat → Prop) (B : Nat) (s : St) (w : World) (h : RdAt S w B s) :
    Calls Try.prog 52 #[rdV B, .func (.func 53) #[rdV B] #[]] w (ListPost S B w (upsOut ((itNum 16).out s) ((itNum 16).next s)) (upsNext ((itNum 16).out s) ((itNum 16).next s))) := by
  have hlt := h.lt
  have hSB := h.1
  have hwd := h.widen
  have hb0 : Below w.heap.size w (w.alloc (.cells #[.pointer (some ⟨B, 0, none⟩)] 73)) := below1 _ _
  have hn16 := num_out_le 16 s
  obtain ⟨g, hg⟩ : ∃ g, w.heap.size = g := ⟨_, rfl⟩
  rw [hg] at hwd
  obtain ⟨S2, hS2⟩ : ∃ S2, (fun k => S k ∨ g ≤ k) = S2 := ⟨_, rfl⟩
  rw [hS2] at hwd
  have HS2 : Hid ((∀ k, S k → S2 k) ∧ (∀ k, g ≤ k → S2 k) ∧ S B) := Lib.hid ⟨fun k h => by rw [← hS2]; exact .inl h, fun k h => by rw [← hS2]; exact .inr h, hSB⟩
  have s1 := (rNum_any S2 B 16 s _ (hwd.below hb0) (by decide)).mono fun e w' h => Reads.from h hb0
  have HU := Lib.hid (fun w' t (h : RdAt S2 w' B t) => update_any S2 B t w' h)
  obtain ⟨n, hn⟩ : ∃ n, (itNum 16).out s = n := ⟨_, rfl⟩
  obtain ⟨t1, ht1⟩ : ∃ t, (itNum 16).next s = t := ⟨_, rfl⟩
  rw [hn] at s1 hn16 ⊢
  rw [ht1] at s1 ⊢
  unfold u64V at s1
  have S1 := Lib.hid s1
  have HG := Lib.hid hg
  have hBg : B < g := by omega
  obtain ⟨PO, hPO⟩ : ∃ PO, ListPost S B w (upsOut n t1) (upsNext n t1) = PO := ⟨_, rfl⟩
  rw [hPO]
  have HPO := Lib.hid hPO
  unfold rdV at HU ⊢
  clear h hSB hwd hb0 hg hS2 s1 hn ht1 hPO
  go_enter Try.func52, Try.ntmps52
  go_wp2_with fail
  refine S1.out.mono ?_
  rintro e w1 ⟨rfl, h2, h3⟩
  have HR1 := Lib.hid h2
  have HB1 := Lib.hid h3
  clear h2 h3
  go_wp2
  go_loopw [5, 9] (fun lv kv wr => ∃ k : Nat, k ≤ n ∧ kv = .int .u64 (k : Int) ∧ Hid (upRow wr g lv (upsOut k t1)) ∧ Hid (RdAt S2 wr B (upsNext k t1)) ∧ Hid (But (fun k => k = B) w wr)) (fun _ kv _ => n - (RowKit.intOf kv).toNat)
  case atStart => exact ⟨0, Nat.zero_le _, rfl, Lib.hid (upRow.nil _ _), HR1, HB1⟩
  case round =>
    obtain ⟨k, hk, rfl, hrow, hrd, hbt⟩ := hrel
    by_cases hlt2 : k < n
    · have q2 : (k : Int) < (n : Int) := by omega
      have HS := Lib.hid (upsOut_snoc k t1)
      have HN := Lib.hid (upsNext_snoc k t1)
      have HL := Lib.hid (upsOut_length k t1)
      obtain ⟨t, ht⟩ : ∃ t, upsNext k t1 = t := ⟨_, rfl⟩
      obtain ⟨l, hl⟩ : ∃ l, upsOut k t1 = l := ⟨_, rfl⟩
      rw [ht] at HS HN hrd
      rw [hl] at HS HL hrow
      have S3 := Lib.hid (HU.out wr t hrd.out)
      obtain ⟨u, hu⟩ : ∃ u, upOut t = u := ⟨_, rfl⟩
      rw [hu] at HS S3
      unfold upV at S3
      clear ht hl hu
      go_wp2_with fail
      refine S3.out.mono ?_
      rintro e w2 ⟨rfl, h2, h3⟩
      have HR2 := Lib.hid h2
      have HB2 : Hid (But (fun k => k = B) w w2) := Lib.hid (hbt.out.trans h3)
      have HO2 : Hid (upRow (w2.alloc (.cells #[.int .i64 u.node, .int .u32 (u.inc : Int), .int .i64 u.st] 66)) g u5 l) := Lib.hid (bown_keep (own_but hrow.out h3 (fun j hj hs => by have := (hrow.out.lt j hj).1; omega)) (below1 _ _))
      have HX := Lib.hid (up_new w2 u 66)
      have HLE : Hid (g ≤ w2.heap.size) := Lib.hid (by have := HB2.out.size; rw [HG.out] at this; exact this)
      clear h2 h3
      go_wp2_with (at_builtin; refine wpList_append_up rfl (.tmp 11) (.tmp 14) rfl g u5 l rfl HO2.out w2.heap.size u rfl HX.out (by rw [HL.out]; omega) (by rw [World.size_alloc]; exact Nat.le_succ_of_le HLE.out) ?_)
      refine Lib.hid ?_
      intro v3 w3 hr3 hg3
      have HR3 : Hid (upRow w3 g v3 (upsOut (k + 1) t1)) := Lib.hid (by rw [HS.out]; exact hr3)
      have hbg : But (fun i => g ≤ i) w2 w3 := (But.of_below (below1 w2 _)).trans (But.of_grown hg3 (fun r hr _ => (HO2.out.lt r hr).1))
      have HRd3 : Hid (RdAt S2 w3 B (upsNext (k + 1) t1)) := Lib.hid (by rw [HN.out]; exact HR2.out.but hbg HS2.out.2.1 (by omega))
      have HB3 : Hid (But (fun k => k = B) w w3) := Lib.hid (HB2.out.then_ hbg (fun i hi hlt => by rw [HG.out] at hlt; omega))
      clear hr3 hg3 hbg
      go_wp2
      go_roundw
      case rel => exact ⟨k + 1, by omega, by go_num, HR3, HRd3, HB3⟩
      case measure => simp [RowKit.intOf]; omega
    · obtain rfl : k = n := by omega
      have q1 : ¬ (k : Int) < (k : Int) := by omega
      obtain ⟨A, c, rfl, hU, hfr, hty⟩ := UsOk.of_row hrow.out
      have HF : Hid (PO (.returned (.slice A (upsOut k t1).length c)) wr) := Lib.hid (by
        rw [← HPO.out]
        exact ⟨A, c, rfl, ⟨hU, (fun b off e => by rw [HG.out]; exact hfr b off e), hty⟩, hrd.out.narrow HS2.out.1 HS2.out.2.2, hbt.out⟩)
      obtain ⟨L, hL⟩ : ∃ L, (upsOut k t1).length = L := ⟨_, rfl⟩
      rw [hL] at HF ⊢
      clear hU hfr hty hL
      go_wp2
      exact HF.out
end Go.Proofs.Ytjbemjnofnifaaa
