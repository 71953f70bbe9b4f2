/-
  Just as many timers are set as may be; one that is set is set anew all the same: the law sodalitylaw06.WheelFull over the contracts.
-/
import Derived.Test.YtcekpkjibabjmaaWWorks
namespace Go.Proofs.Ytcekpkjibabjmaa
open Go.RowKit
set_option linter.unusedSimpArgs false

def fullL (f : Int) (d : Nat) : Nat → Tm
  | 0 => []
  | k + 1 => fullL f d k ++ [(f + (k : Int), d)]
theorem fullL_length (f : Int) (d : Nat) : ∀ k, (fullL f d k).length = k
  | 0 => rfl
  | k + 1 => by simp [fullL, fullL_length f d k]
theorem fullL_mem {f : Int} {d : Nat} : ∀ {k : Nat} {x : Int × Nat}, x ∈ fullL f d k → f ≤ x.1 ∧ x.1 < f + (k : Int)
  | 0, _, h => by cases h
  | k + 1, x, h => by
    rcases List.mem_append.1 h with h | h
    · have := fullL_mem h; omega
    · obtain rfl := List.mem_singleton.1 h
      simp only
      omega
theorem fullL_has {f : Int} {d : Nat} : ∀ {k : Nat}, 0 < k → (f, d) ∈ fullL f d k
  | 0, h => absurd h (by omega)
  | 1, _ => by simp [fullL]
  | k + 2, _ => List.mem_append_left _ (fullL_has (k := k + 1) (by omega))
theorem insL_end {id : Int} {d : Nat} : ∀ {L : Tm}, (∀ x ∈ L, x.1 < id) → insL id d L = L ++ [(id, d)]
  | [], _ => rfl
  | y :: r, h => by
    unfold insL
    have h1 := h y (List.mem_cons_self ..)
    rw [if_neg (by omega), insL_end (fun x hx => h x (List.mem_cons_of_mem _ hx))]
    rfl
theorem fullL_set (f : Int) (d k : Nat) : setL (f + (k : Int)) d (fullL f d k) = fullL f d (k + 1) := by
  have h : ∀ x ∈ fullL f d k, x.1 < f + (k : Int) := fun x hx => (fullL_mem hx).2
  unfold setL
  rw [delL_none (dueOf_none.2 (fun x hx => by have := h x hx; omega)), insL_end h]
  rfl
theorem length_delL_eq {L : Tm} {id : Int} (hR : Rise L) (h : hasL L id = true) : (delL id L).length + 1 = L.length := by
  induction L with
  | nil => cases h
  | cons x r ih =>
    have hr := List.pairwise_cons.1 hR
    by_cases e : x.1 = id
    · subst e
      have : delL x.1 r = r := delL_none (dueOf_none.2 (fun y hy => by have := hr.1 y hy; omega))
      have e2 : delL x.1 (x :: r) = delL x.1 r := by unfold delL; rw [List.filter_cons_of_neg (by simp)]
      rw [e2, this]
      rfl
    · have e2 : delL id (x :: r) = x :: delL id r := by unfold delL; rw [List.filter_cons_of_pos (by simp [e])]
      have h2 : hasL r id = true := by
        unfold hasL dueOf at h
        rw [if_neg e] at h
        exact h
      have := ih hr.2 h2
      rw [e2]
      simp only [List.length_cons]
      omega
def fullS (f : Int) (d k : Nat) : St := ⟨0, fullL f d k⟩
theorem fullS_may {f : Int} {t k : Nat} (hk : k < 64) (ht : t ≤ 65535) : (fullS f (1 + t) k).may (f + (k : Int)) (1 + (t : Int)) = true ∧ (fullS f (1 + t) k).set (f + (k : Int)) (1 + (t : Int)) = fullS f (1 + t) (k + 1) := by
  have hm : (fullS f (1 + t) k).may (f + (k : Int)) (1 + (t : Int)) = true := by
    unfold St.may
    rw [decide_eq_true_eq]
    exact ⟨by omega, by omega, .inr (by show (fullL f (1 + t) k).length < 64; rw [fullL_length]; exact hk)⟩
  refine ⟨hm, ?_⟩
  unfold St.set
  rw [if_pos hm]
  show St.mk 0 (setL _ (0 + (1 + (t : Int)).toNat) (fullL f (1 + t) k)) = _
  rw [show 0 + (1 + (t : Int)).toNat = 1 + t by omega, fullL_set]
  rfl
/-- What becomes of a full wheel. -/
theorem full_end (f : Int) (s : St) (hok : s.ok) (hf : wfI f) (hh : hasL s.L f = true) (hno : dueOf s.L (f - 1) = none) (hl : s.L.length = 64) : ∃ s1 s2 s3 : St, s.may (f - 1) 5 = false ∧ s.set (f - 1) 5 = s ∧ s.may f 5 = true ∧ s.set f 5 = s1 ∧
    hasL s1.L f = true ∧ s1.stop f = s2 ∧ hasL s2.L f = false ∧ s2.stop f = s2 ∧ s2.may (f - 1) 5 = true ∧ s2.set (f - 1) 5 = s3 ∧ s3.L.length = 64 ∧ s1.now = s.now ∧ s2.now = s.now := by
  have hR := hok.rise
  have hm0 : s.may (f - 1) 5 = false := by
    unfold St.may
    rw [decide_eq_false_iff_not]
    rintro ⟨_, _, h | h⟩
    · unfold hasL at h; rw [hno] at h; cases h
    · omega
  have hm1 : s.may f 5 = true := by
    unfold St.may
    rw [decide_eq_true_eq]
    exact ⟨by omega, by omega, .inl hh⟩
  have e1 : s.set f 5 = ⟨s.now, setL f (s.now + (5 : Int).toNat) s.L⟩ := by unfold St.set; rw [if_pos hm1]
  have hok1 := hok.set (id := f) (n := 5) hf
  rw [e1] at hok1
  obtain ⟨d, hd⟩ : ∃ d, s.now + (5 : Int).toNat = d := ⟨_, rfl⟩
  rw [hd] at e1 hok1
  have hl1 : (setL f d s.L).length = 64 := by
    unfold setL
    rw [length_insL]
    have := length_delL_eq hR hh
    omega
  have hh1 : hasL (setL f d s.L) f = true := by
    unfold hasL
    rw [dueOf_setL hR, if_pos rfl]
    rfl
  have hl2 := length_delL_eq hok1.rise hh1
  have hh2 : dueOf (delL f (setL f d s.L)) f = none := by rw [dueOf_delL hok1.rise, if_pos rfl]
  simp only at hl2 hh2
  have hm2 : (St.mk s.now (delL f (setL f d s.L))).may (f - 1) 5 = true := by
    unfold St.may
    rw [decide_eq_true_eq]
    exact ⟨by omega, by omega, .inr (by show (delL f (setL f d s.L)).length < 64; omega)⟩
  have hno2 : dueOf (delL f (setL f d s.L)) (f - 1) = none := by
    rw [dueOf_delL hok1.rise, if_neg (by omega), dueOf_setL hR, if_neg (by omega)]
    exact hno
  refine ⟨⟨s.now, setL f d s.L⟩, ⟨s.now, delL f (setL f d s.L)⟩, _, hm0, by unfold St.set; rw [hm0]; rfl, hm1, e1, hh1, rfl, by unfold hasL; rw [hh2]; rfl, by unfold St.stop; rw [delL_none hh2], hm2, rfl, ?_, rfl, rfl⟩
  unfold St.set
  rw [if_pos hm2]
  show (insL (f - 1) _ (delL (f - 1) (delL f (setL f d s.L)))).length = 64
  rw [length_insL, delL_none hno2]
  omega
set_option maxHeartbeats 8000000 in
set_option maxRecDepth 100000 in
theorem full_walk (from_ : Int) (t : Nat) (w : World) (ht : t ≤ 65535) :
    Calls Try.prog 5 #[.int .i64 from_, .int .u16 (t : Int)] w fun e w' => e = .returned (.bool true) ∧ Below w.heap.size w w' := by
  have HNew := Lib.hid (new_at w)
  have HWk := Lib.hid (fun w => works_any w)
  obtain ⟨f, hf⟩ : ∃ f, from_.tmod 1000000 = f := ⟨_, rfl⟩
  have hf1 : -1000000 < f ∧ f < 1000000 := by
    rw [← hf]
    have h1 := Int.tmod_lt_of_pos from_ (b := 1000000) (by omega)
    have h2 := Int.lt_tmod_of_pos from_ (b := 1000000) (by omega)
    omega
  obtain ⟨hf1, hf2⟩ := hf1
  have HF := Lib.hid hf
  have q0 : (0 : Int) ≤ (t : Int) := by omega
  have q1 : (t : Int) ≤ 65535 := by omega
  clear hf
  go_enter Try.func5, Try.ntmps5
  go_wp2_with fail
  refine HNew.out.mono ?_
  rintro e w1 ⟨B, rfl, h1, hb1⟩
  have H1 : Hid (WhAt (From w.heap.size) w1 B (fullS f (1 + t) 0)) := Lib.hid h1
  have HB1 := Lib.hid hb1
  clear h1 hb1
  go_wp2
  rw [HF.out]
  go_loopw [7] (fun kv wr => ∃ (k : Nat), kv = .int .i64 (k : Int) ∧ k ≤ 64 ∧ Hid (WhAt (From w.heap.size) wr B (fullS f (1 + t) k)) ∧ Hid (Below w.heap.size w wr)) (fun kv _ => 64 - (RowKit.intOf kv).toNat)
  case atStart => exact ⟨0, rfl, Nat.zero_le _, H1, HB1⟩
  case round =>
    obtain ⟨k, rfl, hk, hat, hbe⟩ := hrel
    by_cases hlt : k < 64
    · obtain ⟨hm, he⟩ := fullS_may (f := f) hlt ht
      have hs := set_at _ wr B (fullS f (1 + t) k) hat.out (fun j hj => Nat.le_trans hbe.out.size hj) (f + (k : Int)) (1 + (t : Int)) (wfI_small (by omega) (by omega)) (wfI_small (by omega) (by omega)) (by show 0 ≤ _; omega)
      rw [hm, he] at hs
      have HS := Lib.hid hs
      have q2 : (k : Int) < 64 := by omega
      clear hs hm he
      go_wp2_with fail
      refine HS.out.mono ?_
      rintro e w2 ⟨rfl, h2, hk2⟩
      have H2 := Lib.hid h2
      have HB2 : Hid (Below w.heap.size w w2) := Lib.hid (hbe.out.trans (kept_below hk2 hbe.out.size))
      clear h2 hk2
      go_wp2
      go_roundw
      case rel => exact ⟨k + 1, by go_num, by omega, H2, HB2⟩
      case measure => simp [RowKit.intOf]; omega
    · obtain rfl : k = 64 := by omega
      have hwf : wfI f := wfI_small (by omega) (by omega)
      have hmem := fullL_has (f := f) (d := 1 + t) (k := 64) (by omega)
      have hlen := fullL_length f (1 + t) 64
      have hno : dueOf (fullL f (1 + t) 64) (f - 1) = none := dueOf_none.2 (fun x hx => by have := fullL_mem hx; omega)
      have HA : Hid (∀ k, WhAt (From w.heap.size) wr B (fullS f (1 + t) k) → WhAt (From w.heap.size) wr B ⟨0, fullL f (1 + t) k⟩) := Lib.hid (fun k h => h)
      have hat2 := HA.out 64 hat.out
      obtain ⟨L, hL⟩ : ∃ L, fullL f (1 + t) 64 = L := ⟨_, rfl⟩
      rw [hL] at hmem hlen hno hat2
      have hok := hat2.ok
      obtain ⟨s, hs⟩ : ∃ s : St, St.mk 0 L = s := ⟨_, rfl⟩
      have hn0 : s.now = 0 := by rw [← hs]
      have hmem' : hasL s.L f = true := by rw [← hs]; unfold hasL; rw [dueOf_of_mem hok.rise hmem]; rfl
      rw [hs] at hok hat2
      obtain ⟨s1, s2, s3, m0, e0, m1, e1, m2, e2, m3, e3, m4, e4, m5, n1, n2⟩ := full_end f s hok hwf hmem' (by rw [← hs]; exact hno) (by rw [← hs]; exact hlen)
      have hcl := fun (w' : World) (h : Below w.heap.size w w') (j : Nat) (hj : w'.heap.size ≤ j) => (Nat.le_trans h.size hj : From w.heap.size j)
      have F1 : Hid (∀ w', Below w.heap.size w w' → WhAt (From w.heap.size) w' B s → Calls Try.prog 8 #[.pointer (some ⟨B, 0, none⟩), .int .i64 (f - 1), .int .i64 5] w' fun e w2 => e = .returned (.bool false) ∧ WhAt (From w.heap.size) w2 B s ∧ Below w.heap.size w w2) := Lib.hid (fun w' hb h => (set_at _ w' B s h (hcl w' hb) (f - 1) 5 (wfI_small (by omega) (by omega)) (wfI_small (by omega) (by omega)) (by omega)).mono fun e w2 ⟨he, h2, hk⟩ => ⟨by rw [he, m0], by rw [e0] at h2; exact h2, hb.trans (kept_below hk hb.size)⟩)
      have F2 : Hid (∀ w', Below w.heap.size w w' → WhAt (From w.heap.size) w' B s → Calls Try.prog 8 #[.pointer (some ⟨B, 0, none⟩), .int .i64 f, .int .i64 5] w' fun e w2 => e = .returned (.bool true) ∧ WhAt (From w.heap.size) w2 B s1 ∧ Below w.heap.size w w2) := Lib.hid (fun w' hb h => (set_at _ w' B s h (hcl w' hb) f 5 hwf (wfI_small (by omega) (by omega)) (by omega)).mono fun e w2 ⟨he, h2, hk⟩ => ⟨by rw [he, m1], by rw [e1] at h2; exact h2, hb.trans (kept_below hk hb.size)⟩)
      have F3 : Hid (∀ w', Below w.heap.size w w' → WhAt (From w.heap.size) w' B s1 → Calls Try.prog 10 #[.pointer (some ⟨B, 0, none⟩), .int .i64 f] w' fun e w2 => e = .returned (.bool true) ∧ WhAt (From w.heap.size) w2 B s2 ∧ Below w.heap.size w w2) := Lib.hid (fun w' hb h => (stop_at _ w' B s1 h (hcl w' hb) f hwf (by omega)).mono fun e w2 ⟨he, h2, hk⟩ => ⟨by rw [he, m2], by rw [e2] at h2; exact h2, hb.trans (kept_below hk hb.size)⟩)
      have F4 : Hid (∀ w', Below w.heap.size w w' → WhAt (From w.heap.size) w' B s2 → Calls Try.prog 10 #[.pointer (some ⟨B, 0, none⟩), .int .i64 f] w' fun e w2 => e = .returned (.bool false) ∧ WhAt (From w.heap.size) w2 B s2 ∧ Below w.heap.size w w2) := Lib.hid (fun w' hb h => (stop_at _ w' B s2 h (hcl w' hb) f hwf (by omega)).mono fun e w2 ⟨he, h2, hk⟩ => ⟨by rw [he, m3], by rw [e3] at h2; exact h2, hb.trans (kept_below hk hb.size)⟩)
      have F5 : Hid (∀ w', Below w.heap.size w w' → WhAt (From w.heap.size) w' B s2 → Calls Try.prog 8 #[.pointer (some ⟨B, 0, none⟩), .int .i64 (f - 1), .int .i64 5] w' fun e w2 => e = .returned (.bool true) ∧ WhAt (From w.heap.size) w2 B s3 ∧ Below w.heap.size w w2) := Lib.hid (fun w' hb h => (set_at _ w' B s2 h (hcl w' hb) (f - 1) 5 (wfI_small (by omega) (by omega)) (wfI_small (by omega) (by omega)) (by omega)).mono fun e w2 ⟨he, h2, hk⟩ => ⟨by rw [he, m4], by rw [e4] at h2; exact h2, hb.trans (kept_below hk hb.size)⟩)
      have F6 : Hid (∀ w', Below w.heap.size w w' → WhAt (From w.heap.size) w' B s3 → Calls Try.prog 18 #[.pointer (some ⟨B, 0, none⟩)] w' fun e w2 => (∃ A c, e = .returned (.slice A 64 c)) ∧ Below w.heap.size w w2) := Lib.hid (fun w' hb h => (ids_at _ w' B s3 h).mono fun e w2 ⟨v, he, ho, hb2⟩ => ⟨by
        obtain ⟨A, c, e5, _⟩ := RV.own ho
        exact ⟨A, c, by rw [he, e5, m5]⟩, hb.trans (hb2.mono hb.size)⟩)
      have H0 := Lib.hid hat2
      clear hwf hmem hlen hno HA hat2 hL hok hs hn0 hmem' m0 e0 m1 e1 m2 e2 m3 e3 m4 e4 m5 n1 n2 hcl hat hlt
      go_wp2_with fail
      refine (F1.out wr hbe.out H0.out).mono ?_
      rintro e w2 ⟨rfl, h2, hb2⟩
      have C2 := Lib.hid (F2.out w2 hb2 h2)
      clear h2 hb2
      go_wp2_with fail
      refine C2.out.mono ?_
      rintro e w3 ⟨rfl, h3, hb3⟩
      have C3 := Lib.hid (F3.out w3 hb3 h3)
      clear h3 hb3
      go_wp2_with fail
      refine C3.out.mono ?_
      rintro e w4 ⟨rfl, h4, hb4⟩
      have C4 := Lib.hid (F4.out w4 hb4 h4)
      clear h4 hb4
      go_wp2_with fail
      refine C4.out.mono ?_
      rintro e w5 ⟨rfl, h5, hb5⟩
      have C5 := Lib.hid (F5.out w5 hb5 h5)
      clear h5 hb5
      go_wp2_with fail
      refine C5.out.mono ?_
      rintro e w6 ⟨rfl, h6, hb6⟩
      have C6 := Lib.hid (F6.out w6 hb6 h6)
      clear h6 hb6
      go_wp2_with fail
      refine C6.out.mono ?_
      rintro e w7 ⟨⟨A, c, rfl⟩, hb7⟩
      have HB7 := Lib.hid hb7
      have CW := Lib.hid (HWk.out w7)
      clear hb7
      go_wp2_with fail
      refine CW.out.mono ?_
      rintro e w8 ⟨rfl, hb8⟩
      have HB8 := Lib.hid hb8
      clear hb8
      go_wp2
      go_ret
      exact ⟨rfl, HB7.out.trans (HB8.out.mono HB7.out.size)⟩
theorem full_int (from_ z : Int) (w : World) (hz : 0 ≤ z ∧ z ≤ 65535) :
    Calls Try.prog 5 #[.int .i64 from_, .int .u16 z] w fun e w' => e = .returned (.bool true) ∧ Below w.heap.size w w' := by
  obtain ⟨t, rfl⟩ : ∃ t : Nat, z = (t : Int) := ⟨z.toNat, by omega⟩
  exact full_walk from_ t w (by omega)
end Go.Proofs.Ytcekpkjibabjmaa
