/-
  Remove of the program's ring, walked (layer 12).
-/
import Derived.Test.YtckeknhoimgccaaPrApp
import Derived.IntWalk
namespace Go.Proofs.Ytckeknhoimgccaa
open Go.RowKit
set_option linter.unusedSimpArgs false
set_option linter.unusedVariables false

/-- What is so as the region of Remove begins. -/
structure ReOk (S : Nat → Prop) (w0 : World) (B : Nat) (A : Option Addr) (c : Nat) (g : Rg) (ip L : Nat) : Prop where
  ring : RgIs true S w0 B A c g
  len : g.row.length = L
  le : ip + 1 ≤ L
  few : L ≤ 8
  lt : ∀ k, S k → k < w0.heap.size
def ReJ (S : Nat → Prop) (w0 : World) (B : Nat) (g : Rg) (ip : Nat) (f : Nat → Bool) (w : World) : Prop :=
  (f 20 = false → Below w0.heap.size w0 w) ∧ (f 20 = true → (∃ A c, RgIs true S w B A c ⟨g.row.eraseIdx ip, g.at_⟩) ∧ But (· = B) w0 w)
section
variable {S : Nat → Prop} {w0 : World} {B : Nat} {A : Option Addr} {c : Nat} {g : Rg} {ip L : Nat} {f : Nat → Bool} {w : World}
theorem ReOk.rv (h : ReOk S w0 B A c g ip L) : RV w0 A L (g.row.map nV) := by have := h.ring.row.1; rw [h.len] at this; exact this
theorem ReOk.lc (h : ReOk S w0 B A c g ip L) : L ≤ c := h.len ▸ h.ring.le
theorem ReOk.none_ (h : ReOk S w0 B A c g ip L) (e : A = none) : L = 0 := by have := h.ring.nil e; have := h.lc; omega
theorem ReJ.cl (HOK : ReOk S w0 B A c g ip L) (h : ReJ S w0 B g ip f w) (z : f 20 = false) : w.cell? ⟨B, 1, none⟩ = some (.slice A L c) := by
  have h1 := (HOK.ring.below (h.1 z)).cl
  rw [HOK.len] at h1
  exact h1
theorem ReJ.start (w0 : World) : ReJ S w0 B g ip (fun _ => false) { w0 with drawn := w0.drawn + 1 } :=
  ⟨fun _ => ⟨rfl, rfl, rfl, Nat.le_refl _, fun _ _ => rfl⟩, (fun h => by cases h)⟩
theorem ReJ.append (HOK : ReOk S w0 B A c g ip L) (h : ReJ S w0 B g ip f w) (z : f 20 = false) (ty : TypeId) :
    ∃ A' c' w', (Builtin.append_ #[27, 27] ty #[.slice A ip ip, .slice (tailA A (ip + 1) L) (L - (ip + 1)) (L - (ip + 1))]).run Try.prog w = .ok (.slice A' (L - 1) c') w' ∧ But S w w' ∧ ReJ S w0 B g ip (Go.Rel.upd f 17) w' ∧
      (RVn S w' A' (L - 1) ((g.row.eraseIdx ip).map nV) ∧ L - 1 ≤ c' ∧ c' ≤ maxLen ∧ (A' = none → c' = 0)) := by
  have hb := h.1 z
  have hle := HOK.le
  have hfew := HOK.few
  have hrv := HOK.rv.below hb
  have hhead := hrv.take (k := ip) (by omega)
  have htail := hrv.tail (lo := ip + 1) hle
  have he : (g.row.eraseIdx ip).map nV = (g.row.map nV).take ip ++ (g.row.map nV).drop (ip + 1) := by rw [List.eraseIdx_eq_take_drop_succ, List.map_append, List.map_take, List.map_drop]
  have hJ : ∀ w', Below w0.heap.size w0 w' → ReJ S w0 B g ip (Go.Rel.upd f 17) w' := fun w' hb' => ⟨fun _ => hb', fun h => by
    have : Go.Rel.upd f 17 20 = f 20 := rfl
    rw [this, z] at h
    cases h⟩
  have hnone : A = none → ip = 0 := fun e => by have := HOK.none_ e; omega
  rcases Nat.eq_zero_or_pos (L - (ip + 1)) with e0 | e0
  · rw [e0] at htail ⊢
    have hy : (g.row.map nV).drop (ip + 1) = [] := List.eq_nil_of_length_eq_zero htail.1
    have hi1 : ip = L - 1 := by omega
    refine ⟨A, ip, w, ?_, But.refl _ _, hJ w hb, ?_, by omega, by unfold maxLen; omega, hnone⟩
    · rw [← hi1]
      exact run_append_nothing w ty A ip ⟨_, hhead⟩ hnone _
    · rw [he, hy, List.append_nil, ← hi1]
      refine ⟨hhead, fun b off e hn => ?_⟩
      have hrow := HOK.ring.row.2 b off e (by have := HOK.len; omega)
      exact hrow
  · obtain ⟨v', w', hr, ho, hb'⟩ := run_append_full w ty A ip _ hhead hnone _ (L - (ip + 1)) (L - (ip + 1)) _ htail (fun u hu => nV_one g.row u (List.mem_of_mem_drop hu)) e0 (by omega)
    rw [show ip + (L - (ip + 1)) = L - 1 by omega, ← he] at ho
    obtain ⟨A', c', rfl, hR, hnil, hnc, hm, hbase⟩ := RV.own ho
    refine ⟨A', c', w', hr, But.of_below hb', hJ w' (hb.trans (hb'.mono hb.size)), ⟨hR, fun b off e _ hs => ?_⟩, hnc, hm, hnil⟩
    have h1 := hbase b off e
    have h2 := HOK.lt b hs
    have h3 := hb.size
    omega
theorem ReJ.store (HOK : ReOk S w0 B A c g ip L) (h : ReJ S w0 B g ip f w) (z : f 20 = false) {A' : Option Addr} {c' : Nat} (h1 : RVn S w A' (L - 1) ((g.row.eraseIdx ip).map nV)) (h2 : L - 1 ≤ c') (h3 : c' ≤ maxLen) (h4 : A' = none → c' = 0) :
    w.cell? ⟨B, 1, none⟩ = some (.slice A L c) ∧ w.frozen? ⟨B, 1, none⟩ = false ∧ But S w (w.setCell ⟨B, 1, none⟩ (.slice A' (L - 1) c')) ∧ ReJ S w0 B g ip (Go.Rel.upd f 20) (w.setCell ⟨B, 1, none⟩ (.slice A' (L - 1) c')) := by
  have hb := h.1 z
  have hri := HOK.ring.below hb
  have hset : But (· = B) w (w.setCell ⟨B, 1, none⟩ (.slice A' (L - 1) c')) := But.set_ _ w B 1 _ rfl
  have hlen : (g.row.eraseIdx ip).length = L - 1 := by rw [List.length_eraseIdx_of_lt (by rw [HOK.len]; exact HOK.le), HOK.len]
  refine ⟨ReJ.cl HOK h z, hri.froz 1, hset.mono (fun k e => by rw [e]; exact HOK.ring.mine), (fun h => by cases h), fun _ => ⟨⟨A', c', ?_⟩, (But.of_below hb).trans hset⟩⟩
  have h5 := hri.setRow (A' := A') (c' := c') (row := g.row.eraseIdx ip) (by rw [hlen]; exact h1) (by omega) h3 h4
  rw [hlen] at h5
  exact h5
end
def reR (S : Nat → Prop) (B : Nat) (A : Option Addr) (c : Nat) (l : List Int) (n : Int) (ip : Nat) (L : Nat) : Nat → Value → World → Prop
  | 0, v, _ => v = .pointer (some ⟨B, 0, none⟩)
  | 1, v, _ => v = .pointer (some ⟨B, 0, none⟩)
  | 2, v, _ => v = .pointer (some ⟨B, 0, none⟩)
  | 3, v, _ => v = .pointer (some ⟨B, 1, none⟩)
  | 4, v, _ => v = .slice A L c
  | 5, v, _ => v = .int .i64 (ip : Int)
  | 6, v, _ => v = .int .i64 (ip : Int)
  | 7, v, _ => v = .slice A ip ip
  | 8, v, _ => v = .pointer (some ⟨B, 0, none⟩)
  | 9, v, _ => v = .pointer (some ⟨B, 0, none⟩)
  | 10, v, _ => v = .pointer (some ⟨B, 1, none⟩)
  | 11, v, _ => v = .slice A L c
  | 12, v, _ => v = .int .i64 (ip : Int)
  | 13, v, _ => v = .int .i64 ((ip + 1 : Nat) : Int)
  | 14, v, _ => v = .int .i64 (L : Int)
  | 15, v, _ => v = .int .i64 (L : Int)
  | 16, v, _ => v = .slice (tailA A (ip + 1) L) (L - (ip + 1)) (L - (ip + 1))
  | 17, v, w => ∃ A c, v = .slice A (L - 1) c ∧ RVn S w A (L - 1) ((l.eraseIdx ip).map nV) ∧ L - 1 ≤ c ∧ c ≤ maxLen ∧ (A = none → c = 0)
  | 18, v, _ => v = .pointer (some ⟨B, 0, none⟩)
  | 19, v, _ => v = .pointer (some ⟨B, 1, none⟩)
  | 20, v, _ => v = undef
  | _, _, _ => True
theorem reR_stable (S : Nat → Prop) (B : Nat) (A : Option Addr) (c : Nat) (l : List Int) (n : Int) (ip : Nat) (L : Nat) : ∀ i v w w', reR S B A c l n ip L i v w → But S w w' → reR S B A c l n ip L i v w'
  | 0, _, _, _, h, _ | 1, _, _, _, h, _ | 2, _, _, _, h, _ | 3, _, _, _, h, _ | 4, _, _, _, h, _ | 5, _, _, _, h, _ | 6, _, _, _, h, _ | 7, _, _, _, h, _ | 8, _, _, _, h, _ | 9, _, _, _, h, _ | 10, _, _, _, h, _ | 11, _, _, _, h, _ | 12, _, _, _, h, _ | 13, _, _, _, h, _ | 14, _, _, _, h, _ | 15, _, _, _, h, _ | 16, _, _, _, h, _ | 18, _, _, _, h, _ | 19, _, _, _, h, _ | 20, _, _, _, h, _ => h
  | 17, _, _, _, h, g => by obtain ⟨A, c, e, h, h1⟩ := h; exact ⟨A, c, e, h.but g, h1⟩
  | _ + 21, _, _, _, h, _ => h

theorem removeno_ring (v : Value) (n : Int) (w : World) (h : NoRg w v) : Calls Try.prog 13 #[v, .int .i64 n] w fun e w' => e = .returned (.bool false) ∧ w = w' := by
  have HM := Lib.hid (made_no v w h)
  clear h
  go_enter Try.func13, Try.ntmps13
  go_wp2_with fail
  refine HM.out.mono ?_
  rintro e w' ⟨rfl, rfl⟩
  go_wp2
  go_ret
  exact ⟨rfl, rfl⟩
theorem remove_no {S : Nat → Prop} {B : Nat} {g : Rg} (n : Int) (w : World) (h : RgAt true S w B g) (ht : g.row.contains n = false) : Calls Try.prog 13 #[.pointer (some ⟨B, 0, none⟩), .int .i64 n] w fun e w' => e = .returned (.bool false) ∧ w = w' := by
  obtain ⟨hok, A, c, hi⟩ := h
  have HM := Lib.hid (made_yes w hi)
  have HC := Lib.hid (index_any A g.row.length c g.row n w (hi.lst (Rg.few hok)))
  rw [idxI_no ht] at HC
  have cl : w.cell? ⟨B, 1, none⟩ = some (.slice A g.row.length c) := hi.cl
  obtain ⟨L, hL⟩ : ∃ L, g.row.length = L := ⟨_, rfl⟩
  rw [hL] at HC cl
  clear hi hok hL ht
  go_enter Try.func13, Try.ntmps13
  go_wp2_with fail
  refine HM.out.mono ?_
  rintro e w' ⟨rfl, rfl⟩
  go_wp2_with fail
  refine HC.out.mono ?_
  rintro e w' ⟨rfl, rfl⟩
  go_wp2
  go_ret
  exact ⟨rfl, rfl⟩
theorem Rg.remove_eq {g : Rg} (h : g.ok) {n : Int} (hc : g.row.contains n = true) : g.remove n = ⟨g.row.eraseIdx (g.row.idxOf n), if g.row.idxOf n < g.at_ then g.at_ - 1 else g.at_⟩ := by
  unfold Rg.remove
  rw [(idx_split hc).2 h.once, List.eraseIdx_eq_take_drop_succ]
  simp only [hc, and_true]
set_option maxHeartbeats 8000000 in
set_option maxRecDepth 100000 in
theorem remove_yes {S : Nat → Prop} {B : Nat} {g : Rg} (n : Int) (w : World) (h : RgAt true S w B g) (hS : ∀ k, S k → k < w.heap.size) (ht : g.row.contains n = true) :
    Calls Try.prog 13 #[.pointer (some ⟨B, 0, none⟩), .int .i64 n] w fun e w' => e = .returned (.bool true) ∧ RgAt true S w' B (g.remove n) ∧ But (· = B) w w' := by
  have HAok := Lib.hid (Rg.remove_ok h.1 n)
  have HEq := Lib.hid (Rg.remove_eq h.1 ht)
  obtain ⟨hok, A, c, hi⟩ := h
  have hf := Rg.few hok
  have HM := Lib.hid (made_yes w hi)
  have hC := index_any A g.row.length c g.row n w (hi.lst hf)
  have hix : idxI g.row n = (g.row.idxOf n : Int) := by unfold idxI; rw [ht]; rfl
  rw [hix] at hC
  have cl : w.cell? ⟨B, 1, none⟩ = some (.slice A g.row.length c) := hi.cl
  have hpos := hok.pos
  have hlt := (idx_split ht).1
  obtain ⟨L, hL⟩ : ∃ L, g.row.length = L := ⟨_, rfl⟩
  obtain ⟨ip, hii⟩ : ∃ ip, g.row.idxOf n = ip := ⟨_, rfl⟩
  rw [hii] at hC hlt HEq
  rw [hL] at hC cl hf hlt hpos
  have HL := Lib.hid hL
  have HC := Lib.hid hC
  have HI := Lib.hid hi
  have HOKH : Hid (ReOk S w B A c g ip L) := Lib.hid ⟨hi, hL, by omega, hf, hS⟩
  have q1 : ¬ (ip : Int) < 0 := by omega
  clear hok hi hC hL hii ht hS hix
  go_enter Try.func13, Try.ntmps13
  go_wp2_with fail
  refine HM.out.mono ?_
  rintro e w' ⟨rfl, rfl⟩
  go_wp2_with fail
  refine HC.out.mono ?_
  rintro e w' ⟨rfl, rfl⟩
  go_wp2
  have HOK := HOKH.out
  refine Go.Rel.wp_region_states (by kernel_rfl) (by kernel_rfl) (by kernel_rfl) (by kernel_rfl) (ReJ S w B g ip) (But S) (fun _ _ _ h k => h.trans k) ((But.refl _ _).drew) (ReJ.start w) (reR S B A c g.row n ip L) (reR_stable S B A c g.row n ip L) ?hsteps ?hend
  case hsteps =>
    refine (.cons ?_ (.cons ?_ (.cons ?_ (.cons ?_ (.cons ?_ (.cons ?_ (.cons ?_ (.cons ?_ (.cons ?_ (.cons ?_ (.cons ?_ (.cons ?_ (.cons ?_ (.cons ?_ (.cons ?_ (.cons ?_ (.cons ?_ (.cons ?_ (.cons ?_ (.cons ?_ (.cons ?_ .nil)))))))))))))))))))))
    · intro f a w' hI hf hanc hdesc hle hs' hd K hK
      have f0 : a.tmps[0]? = some (.pointer (some ⟨B, 0, none⟩)) := hs'.2.2 0 (by kernel_rfl)
      unfold Go.Rel.stepOf
      go_simp
      exact hK _ _ (But.refl _ _) (hI) rfl
    · intro f a w' hI hf hanc hdesc hle hs' hd K hK
      have f0 : a.tmps[0]? = some (.pointer (some ⟨B, 0, none⟩)) := hs'.2.2 0 (by kernel_rfl)
      unfold Go.Rel.stepOf
      go_simp
      exact hK _ _ (But.refl _ _) (hI) rfl
    · intro f a w' hI hf hanc hdesc hle hs' hd K hK
      obtain ⟨_, t1, rfl⟩ := hd 1 24 (by kernel_rfl)
      unfold Go.Rel.stepOf
      go_simp
      exact hK _ _ (But.refl _ _) (hI) rfl
    · intro f a w' hI hf hanc hdesc hle hs' hd K hK
      obtain ⟨_, t2, rfl⟩ := hd 2 25 (by kernel_rfl)
      unfold Go.Rel.stepOf
      go_simp
      exact hK _ _ (But.refl _ _) (hI) rfl
    · intro f a w' hI hf hanc hdesc hle hs' hd K hK
      obtain ⟨_, t3, rfl⟩ := hd 3 26 (by kernel_rfl)
      have zS : f 20 = false := hdesc 12 20 (by kernel_rfl)
      have cl : w'.cell? ⟨B, 1, none⟩ = some (.slice A L c) := ReJ.cl HOK hI zS
      unfold Go.Rel.stepOf
      go_simp
      exact hK _ _ (But.refl _ _) (hI) rfl
    · intro f a w' hI hf hanc hdesc hle hs' hd K hK
      have f5 : a.tmps[5]? = some (.int .i64 (ip : Int)) := hs'.2.2 5 (by kernel_rfl)
      unfold Go.Rel.stepOf
      go_simp
      exact hK _ _ (But.refl _ _) (hI) rfl
    · intro f a w' hI hf hanc hdesc hle hs' hd K hK
      have f5 : a.tmps[5]? = some (.int .i64 (ip : Int)) := hs'.2.2 5 (by kernel_rfl)
      unfold Go.Rel.stepOf
      go_simp
      exact hK _ _ (But.refl _ _) (hI) rfl
    · intro f a w' hI hf hanc hdesc hle hs' hd K hK
      obtain ⟨_, t4, rfl⟩ := hd 4 27 (by kernel_rfl)
      obtain ⟨_, t5, rfl⟩ := hd 5 28 (by kernel_rfl)
      obtain ⟨_, t6, rfl⟩ := hd 6 29 (by kernel_rfl)
      refine stepOf_slice 27 (.tmp 27) none (some (.tmp 28)) (some (.tmp 29)) rfl rfl (w' := w') (v := .slice A ip ip) ?_ (hK _ _ (But.refl _ _) hI rfl)
      simp only [Act.eval, Option.map_some, Option.map_none, t4, t5, t6, Array.getD_eq_getD_getElem?, Option.getD_some]
      exact run_head3 w' (HOK.rv.some_or (Nat.le_of_lt HOK.le)) (Nat.le_trans (Nat.le_of_lt HOK.le) HOK.lc)
    · intro f a w' hI hf hanc hdesc hle hs' hd K hK
      have f0 : a.tmps[0]? = some (.pointer (some ⟨B, 0, none⟩)) := hs'.2.2 0 (by kernel_rfl)
      unfold Go.Rel.stepOf
      go_simp
      exact hK _ _ (But.refl _ _) (hI) rfl
    · intro f a w' hI hf hanc hdesc hle hs' hd K hK
      obtain ⟨_, t8, rfl⟩ := hd 8 31 (by kernel_rfl)
      unfold Go.Rel.stepOf
      go_simp
      exact hK _ _ (But.refl _ _) (hI) rfl
    · intro f a w' hI hf hanc hdesc hle hs' hd K hK
      obtain ⟨_, t9, rfl⟩ := hd 9 32 (by kernel_rfl)
      unfold Go.Rel.stepOf
      go_simp
      exact hK _ _ (But.refl _ _) (hI) rfl
    · intro f a w' hI hf hanc hdesc hle hs' hd K hK
      obtain ⟨_, t10, rfl⟩ := hd 10 33 (by kernel_rfl)
      have zS : f 20 = false := hdesc 12 20 (by kernel_rfl)
      have cl : w'.cell? ⟨B, 1, none⟩ = some (.slice A L c) := ReJ.cl HOK hI zS
      unfold Go.Rel.stepOf
      go_simp
      exact hK _ _ (But.refl _ _) (hI) rfl
    · intro f a w' hI hf hanc hdesc hle hs' hd K hK
      have f5 : a.tmps[5]? = some (.int .i64 (ip : Int)) := hs'.2.2 5 (by kernel_rfl)
      unfold Go.Rel.stepOf
      go_simp
      exact hK _ _ (But.refl _ _) (hI) rfl
    · intro f a w' hI hf hanc hdesc hle hs' hd K hK
      obtain ⟨_, t12, rfl⟩ := hd 12 35 (by kernel_rfl)
      have hwr : IntKind.i64.wrap ((ip : Int) + 1) = (ip : Int) + 1 := IntWalk.i64_in _ (by have := HOK.le; have := HOK.few; omega)
      unfold Go.Rel.stepOf
      go_simp
      exact hK _ _ (But.refl _ _) hI (by show Value.int _ _ = Value.int _ _; simp)
    · intro f a w' hI hf hanc hdesc hle hs' hd K hK
      have f6 : a.tmps[6]? = some (.int .i64 (L : Int)) := hs'.2.2 6 (by kernel_rfl)
      unfold Go.Rel.stepOf
      go_simp
      exact hK _ _ (But.refl _ _) (hI) rfl
    · intro f a w' hI hf hanc hdesc hle hs' hd K hK
      have f6 : a.tmps[6]? = some (.int .i64 (L : Int)) := hs'.2.2 6 (by kernel_rfl)
      unfold Go.Rel.stepOf
      go_simp
      exact hK _ _ (But.refl _ _) (hI) rfl
    · intro f a w' hI hf hanc hdesc hle hs' hd K hK
      obtain ⟨_, t11, rfl⟩ := hd 11 34 (by kernel_rfl)
      obtain ⟨_, t13, rfl⟩ := hd 13 36 (by kernel_rfl)
      obtain ⟨_, t14, rfl⟩ := hd 14 37 (by kernel_rfl)
      obtain ⟨_, t15, rfl⟩ := hd 15 38 (by kernel_rfl)
      refine stepOf_slice 27 (.tmp 34) (some (.tmp 36)) (some (.tmp 37)) (some (.tmp 38)) rfl rfl (w' := w') (v := .slice (tailA A (ip + 1) L) (L - (ip + 1)) (L - (ip + 1))) ?_ (hK _ _ (But.refl _ _) hI rfl)
      simp only [Act.eval, Option.map_some, Option.map_none, t11, t13, t14, t15, Array.getD_eq_getD_getElem?, Option.getD_some]
      exact run_tail3 w' HOK.le HOK.lc
    · intro f a w' hI hf hanc hdesc hle hs' hd K hK
      obtain ⟨_, t7, rfl⟩ := hd 7 30 (by kernel_rfl)
      obtain ⟨_, t16, rfl⟩ := hd 16 39 (by kernel_rfl)
      have zS : f 20 = false := hdesc 12 20 (by kernel_rfl)
      obtain ⟨A3, c3, w3, hr3, hb3, hJ3, h3⟩ := ReJ.append HOK hI zS 27
      exact stepOf_append (.tmp 30) (.tmp 39) 27 rfl rfl (by simp [Act.eval, t7]) (by simp [Act.eval, t16]) hr3 (hK _ _ hb3 hJ3 ⟨A3, c3, rfl, h3⟩)
    · intro f a w' hI hf hanc hdesc hle hs' hd K hK
      obtain ⟨_, t0, rfl⟩ := hd 0 23 (by kernel_rfl)
      unfold Go.Rel.stepOf
      go_simp
      exact hK _ _ (But.refl _ _) (hI) rfl
    · intro f a w' hI hf hanc hdesc hle hs' hd K hK
      obtain ⟨_, t18, rfl⟩ := hd 18 41 (by kernel_rfl)
      unfold Go.Rel.stepOf
      go_simp
      exact hK _ _ (But.refl _ _) (hI) rfl
    · intro f a w' hI hf hanc hdesc hle hs' hd K hK
      obtain ⟨_, t19, rfl⟩ := hd 19 42 (by kernel_rfl)
      obtain ⟨_, t17, A17, c17, rfl, h17, x1, x2, x3⟩ := hd 17 40 (by kernel_rfl)
      obtain ⟨hc3, hf3, hb3, hJ3⟩ := ReJ.store HOK hI hf h17 x1 x2 x3
      unfold Go.Rel.stepOf
      go_simp
      exact hK _ _ hb3 hJ3 rfl
  case hend =>
    intro f a w5 hall hJ hle hs' hR'
    obtain ⟨⟨A5, c5, hri5⟩, hb5⟩ := hJ.2 (hall 20 (by decide))
    have HRi5 := Lib.hid hri5
    have HB5 := Lib.hid hb5
    clear hJ hall hle hri5 hb5 HOK
    obtain ⟨v23, s23, _⟩ := hR' 0 23 (by kernel_rfl)
    obtain ⟨v24, s24, _⟩ := hR' 1 24 (by kernel_rfl)
    obtain ⟨v25, s25, _⟩ := hR' 2 25 (by kernel_rfl)
    obtain ⟨v26, s26, _⟩ := hR' 3 26 (by kernel_rfl)
    obtain ⟨v27, s27, _⟩ := hR' 4 27 (by kernel_rfl)
    obtain ⟨v28, s28, _⟩ := hR' 5 28 (by kernel_rfl)
    obtain ⟨v29, s29, _⟩ := hR' 6 29 (by kernel_rfl)
    obtain ⟨v30, s30, _⟩ := hR' 7 30 (by kernel_rfl)
    obtain ⟨v31, s31, _⟩ := hR' 8 31 (by kernel_rfl)
    obtain ⟨v32, s32, _⟩ := hR' 9 32 (by kernel_rfl)
    obtain ⟨v33, s33, _⟩ := hR' 10 33 (by kernel_rfl)
    obtain ⟨v34, s34, _⟩ := hR' 11 34 (by kernel_rfl)
    obtain ⟨v35, s35, _⟩ := hR' 12 35 (by kernel_rfl)
    obtain ⟨v36, s36, _⟩ := hR' 13 36 (by kernel_rfl)
    obtain ⟨v37, s37, _⟩ := hR' 14 37 (by kernel_rfl)
    obtain ⟨v38, s38, _⟩ := hR' 15 38 (by kernel_rfl)
    obtain ⟨v39, s39, _⟩ := hR' 16 39 (by kernel_rfl)
    obtain ⟨v40, s40, _⟩ := hR' 17 40 (by kernel_rfl)
    obtain ⟨v41, s41, _⟩ := hR' 18 41 (by kernel_rfl)
    obtain ⟨v42, s42, _⟩ := hR' 19 42 (by kernel_rfl)
    have e := hs'.shape
    simp only [List.toList_toArray, List.foldl, Go.Rel.reset, Array.getD_eq_getD_getElem?, s23, s24, s25, s26, s27, s28, s29, s30, s31, s32, s33, s34, s35, s36, s37, s38, s39, s40, s41, s42, Option.getD_some] at e
    simp at e
    clear hR' hs' s23 s24 s25 s26 s27 s28 s29 s30 s31 s32 s33 s34 s35 s36 s37 s38 s39 s40 s41 s42
    subst e
    have co : w5.cell? ⟨B, 2, none⟩ = some (.int .i64 (g.at_ : Int)) := HRi5.out.co
    have f2 : w5.frozen? ⟨B, 2, none⟩ = false := HRi5.out.froz 2
    have q3 : (g.at_ : Int) ≤ 8 := by omega
    by_cases hlt : ip < g.at_
    · have HFin : Hid (RgAt true S (w5.setCell ⟨B, 2, none⟩ (.int .i64 ((g.at_ : Int) - 1))) B (g.remove n)) := Lib.hid ⟨HAok.out, A5, c5, by
        have h1 := HRi5.out.setAt (g.at_ - 1)
        rw [show ((g.at_ - 1 : Nat) : Int) = (g.at_ : Int) - 1 by omega] at h1
        rw [HEq.out, if_pos hlt]
        exact h1⟩
      have HFb : Hid (But (· = B) w (w5.setCell ⟨B, 2, none⟩ (.int .i64 ((g.at_ : Int) - 1)))) := Lib.hid (HB5.out.trans (But.set_ _ w5 B 2 _ rfl))
      go_wp2
      go_ret
      exact ⟨rfl, HFin.out, HFb.out⟩
    · have HFin : Hid (RgAt true S w5 B (g.remove n)) := Lib.hid ⟨HAok.out, A5, c5, by
        rw [HEq.out, if_neg hlt]
        exact HRi5.out⟩
      go_wp2
      go_ret
      exact ⟨rfl, HFin.out, HB5.out⟩
end Go.Proofs.Ytckeknhoimgccaa
