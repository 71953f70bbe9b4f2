/-
  A timer comes just once, behind as many ticks as it was set to, whatever other timers do: the law sodalitylaw06.WheelOnce over the contracts.
-/
import Derived.Test.YtcekpkjibabjmaaWWorks
import Derived.Test.YtcekpkjibabjmaaWStp
namespace Go.Proofs.Ytcekpkjibabjmaa
open Go.RowKit
set_option linter.unusedSimpArgs false

theorem dueOf_set_other {s : St} (h : s.ok) {id j n : Int} (hne : j ≠ id) : dueOf (s.set id n).L j = dueOf s.L j ∧ (s.set id n).now = s.now := by
  unfold St.set
  split
  · exact ⟨by rw [dueOf_setL h.rise, if_neg hne], rfl⟩
  · exact ⟨rfl, rfl⟩
theorem dueOf_stop_other {s : St} (h : s.ok) {id j : Int} (hne : j ≠ id) : dueOf (s.stop id).L j = dueOf s.L j ∧ (s.stop id).now = s.now := by
  unfold St.stop
  exact ⟨by rw [dueOf_delL h.rise, if_neg hne], rfl⟩
theorem due_mem {s : St} (h : s.ok) (id : Int) : id ∈ s.due ↔ dueOf s.L id = some (s.now + 1) := by
  unfold St.due
  rw [mem_dueL]
  exact ⟨fun hm => dueOf_of_mem h.rise hm, dueOf_mem⟩
theorem dueOf_tick {s : St} (h : s.ok) (id : Int) : dueOf s.tick.L id = if dueOf s.L id = some (s.now + 1) then none else dueOf s.L id := by
  unfold St.tick restL
  rw [dueOf_filter h.rise]
  cases hd : dueOf s.L id with
  | none => simp
  | some d =>
    by_cases e : d = s.now + 1
    · simp [e]
    · simp [e]
/-- Where the timer id is that is due at D: set until then. -/
def Waits (s : St) (id : Int) (N D : Nat) : Prop := s.now = N ∧ dueOf s.L id = if N < D then some D else none
theorem Waits.tick {s : St} (hok : s.ok) {id : Int} {N D : Nat} (h : Waits s id N D) : Waits s.tick id (N + 1) D ∧ (id ∈ s.due ↔ N + 1 = D) := by
  obtain ⟨h1, h2⟩ := h
  rw [due_mem hok, h1]
  refine ⟨⟨by show s.now + 1 = _; rw [h1], ?_⟩, ?_⟩
  · rw [dueOf_tick hok, h1, h2]
    by_cases e : N < D
    · rw [if_pos e]
      by_cases e2 : N + 1 < D
      · rw [if_pos e2, if_neg (by simp; omega)]
      · rw [if_neg e2, if_pos (by simp; omega)]
    · rw [if_neg e, if_neg (by simp), if_neg (by omega)]
  · rw [h2]
    by_cases e : N < D
    · rw [if_pos e]; simp; omega
    · rw [if_neg e]; simp; omega
theorem contains_snoc (l : List Int) (y id : Int) : (l ++ [y]).contains id = (l.contains id || (y == id)) := by
  rw [Bool.eq_iff_iff]
  simp only [List.contains_iff_mem, List.mem_append, List.mem_singleton, Bool.or_eq_true, beq_iff_eq]
  exact or_congr Iff.rfl eq_comm
def idleS (k : Nat) : St := ⟨k, []⟩
theorem idle_tick (k : Nat) : (idleS k).tick = idleS (k + 1) := rfl
theorem idle_set {k : Nat} {id : Int} {n : Nat} (h1 : 1 ≤ n) (h2 : n ≤ 262144) : (idleS k).may id (n : Int) = true ∧ Waits ((idleS k).set id (n : Int)) id k (k + n) := by
  have hm : (idleS k).may id (n : Int) = true := by
    unfold St.may
    rw [decide_eq_true_eq]
    exact ⟨by omega, by omega, .inr (by show 0 < 64; omega)⟩
  refine ⟨hm, ?_⟩
  unfold St.set
  rw [if_pos hm, Int.toNat_natCast]
  refine ⟨rfl, ?_⟩
  rw [if_pos (by omega)]
  show dueOf [(id, k + n)] id = _
  simp [dueOf]
def onceR (_ : Nat → Prop) (B : Nat) (b1 : Nat) (off : Nat) (n : Nat) (c : Nat) (k : Nat) (x : Stp) (mb : Bool) : Nat → Value → World → Prop
  | 0, v, _ => v = .pointer (some ⟨B, 0, none⟩)
  | 1, v, _ => v = .slice (some ⟨b1, off, none⟩) n c
  | 2, v, _ => v = .int .i64 (k : Int)
  | 3, v, _ => v = .pointer (some ⟨b1, off + k * 3, none⟩)
  | 4, v, _ => v = .pointer (some ⟨b1, off + k * 3 + 1, none⟩)
  | 5, v, _ => v = .int .i64 x.id
  | 6, v, _ => v = .slice (some ⟨b1, off, none⟩) n c
  | 7, v, _ => v = .int .i64 (k : Int)
  | 8, v, _ => v = .pointer (some ⟨b1, off + k * 3, none⟩)
  | 9, v, _ => v = .pointer (some ⟨b1, off + k * 3 + 2, none⟩)
  | 10, v, _ => v = .int .i64 x.n
  | 11, v, _ => v = .bool mb
  | _, _, _ => True
theorem onceR_stable (S : Nat → Prop) (B : Nat) (b1 : Nat) (off : Nat) (n : Nat) (c : Nat) (k : Nat) (x : Stp) (mb : Bool) : ∀ i v w w', onceR S B b1 off n c k x mb i v w → But S w w' → onceR S B b1 off n c k x mb i v w'
  | 0, _, _, _, h, _ | 1, _, _, _, h, _ | 2, _, _, _, h, _ | 3, _, _, _, h, _ | 4, _, _, _, h, _ | 5, _, _, _, h, _ | 6, _, _, _, h, _ | 7, _, _, _, h, _ | 8, _, _, _, h, _ | 9, _, _, _, h, _ | 10, _, _, _, h, _ | 11, _, _, _, h, _ => h
  | _ + 12, _, _, _, h, _ => h
set_option maxHeartbeats 16000000 in
set_option maxRecDepth 100000 in
theorem once_walk (id : Int) (a b : Nat) (A : Option Addr) (n c : Nat) (ss : List Stp) (w : World) (hid : -9223372036854775808 ≤ id ∧ id ≤ 9223372036854775807) (hab : a < 65536 ∧ b < 65536) (hS : SStp w A n ss) (hok : ∀ x ∈ ss, okStp x) (hn : n ≤ maxLen) :
    Calls Try.prog 4 #[.int .i64 id, .agg #[.int .u16 (a : Int), .int .u16 (b : Int)], .slice A n c] w fun e w' => e = .returned (.bool true) ∧ Below w.heap.size w w' := by
  unfold maxLen at hn
  obtain ⟨w0, hw0⟩ : ∃ w0, w.alloc (.cells #[.int .u16 (a : Int), .int .u16 (b : Int)] 41) = w0 := ⟨_, rfl⟩
  have hb0 : Below w.heap.size w w0 := by rw [← hw0]; exact (Below.refl _ w).alloc (Nat.le_refl _) _
  have HNew := Lib.hid (fun k => new_at (w0.drewN k))
  have HWk := Lib.hid (fun w => works_any w)
  have HSS := Lib.hid hS
  have HSl := Lib.hid hS.1
  have HOK := Lib.hid hok
  have HW0 := Lib.hid hw0
  have HB0 := Lib.hid hb0
  obtain ⟨ha, hb⟩ := hab
  obtain ⟨hi1, hi2⟩ := hid
  have q1 : (0 : Int) ≤ (a : Int) := by omega
  have q2 : (a : Int) < 65536 := by omega
  have q3 : (0 : Int) ≤ (b : Int) := by omega
  have q4 : (b : Int) < 65536 := by omega
  clear hS hok hw0 hb0
  go_enter Try.func4, Try.ntmps4
  go_wp2
  go_quiet (fail)
  rw [HW0.out]
  obtain ⟨G, hG⟩ : ∃ G, w0.drewN nq = G := ⟨_, rfl⟩
  have HNew' := HNew.out nq
  rw [hG] at HNew' ⊢
  have hbG : Below w.heap.size w G := by rw [← hG]; exact below_drewN HB0.out nq
  have HN2 := Lib.hid HNew'
  have HBG := Lib.hid hbG
  have HGs : Hid (w.heap.size ≤ G.heap.size) := Lib.hid hbG.size
  clear HNew' hG hbG
  go_wp2_with fail
  refine HN2.out.mono ?_
  rintro e w1 ⟨B, rfl, h1, hb1⟩
  have H1 : Hid (WhAt (From G.heap.size) w1 B (idleS 0)) := Lib.hid h1
  have HB1 := Lib.hid hb1
  clear h1 hb1
  obtain ⟨mm, hmm⟩ : ∃ mm : Nat, (b : Int) % 5000 = (mm : Int) := ⟨b % 5000, by omega⟩
  obtain ⟨nn, hnn⟩ : ∃ nn : Nat, 1 + (a : Int) % 9000 = (nn : Int) := ⟨1 + a % 9000, by omega⟩
  have hmb : mm < 5000 := by omega
  have hnb : 1 ≤ nn ∧ nn ≤ 9000 := by omega
  have HMM := Lib.hid hmm
  have HNN := Lib.hid hnn
  have HCl : Hid (∀ w', Below G.heap.size G w' → ∀ k, w'.heap.size ≤ k → From G.heap.size k) := Lib.hid (fun w' hb k hk => Nat.le_trans hb.size hk)
  clear hmm hnn
  go_wp2
  go_loopw [10] (fun kv wr => ∃ (k : Nat), kv = .int .i64 (k : Int) ∧ k ≤ mm ∧ Hid (WhAt (From G.heap.size) wr B (idleS k)) ∧ Hid (Below G.heap.size G wr)) (fun kv _ => mm - (RowKit.intOf kv).toNat)
  case atStart => exact ⟨0, rfl, Nat.zero_le _, H1, HB1⟩
  case round =>
    obtain ⟨k, rfl, hk, hat, hbe⟩ := hrel
    have hmm := HMM.out
    by_cases hlt : k < mm
    · have ht := tick_at _ wr B (idleS k) hat.out (HCl.out wr hbe.out) (by show k < _; omega)
      have HT := Lib.hid ht
      have hlt2 : (k : Int) < (b : Int) % 5000 := by omega
      clear ht hmm
      go_wp2_with fail
      refine HT.out.mono ?_
      rintro e w2 ⟨v, rfl, _, _, h2, hk2⟩
      rw [idle_tick] at h2
      have H2 := Lib.hid h2
      have HB2 : Hid (Below G.heap.size G w2) := Lib.hid (hbe.out.trans (kept_below hk2 hbe.out.size))
      clear h2 hk2
      go_wp2
      go_roundw
      case rel => exact ⟨k + 1, by go_num, by omega, H2, HB2⟩
      case measure => simp [RowKit.intOf]; omega
    · obtain rfl : k = mm := by omega
      have hlt2 : ¬ (k : Int) < (b : Int) % 5000 := by omega
      obtain ⟨hmay, hwt⟩ := idle_set (k := k) (id := id) hnb.1 (by omega)
      have hset := set_at _ wr B (idleS k) hat.out (HCl.out wr hbe.out) id (nn : Int) ⟨hi1, hi2⟩ (wfI_small (by omega) (by omega)) (by show k ≤ _; omega)
      rw [hmay] at hset
      obtain ⟨s1, hs1⟩ : ∃ s1, (idleS k).set id (nn : Int) = s1 := ⟨_, rfl⟩
      rw [hs1] at hset hwt
      have HSet := Lib.hid hset
      have HWt := Lib.hid hwt
      clear hmay hwt hset hs1 hlt hmm
      have q5 : (k : Int) < 5000 := by omega
      go_wp2_with fail
      rw [HNN.out]
      refine HSet.out.mono ?_
      rintro e w2 ⟨rfl, h2, hk2⟩
      have H2 := Lib.hid h2
      have HB2 : Hid (Below G.heap.size G w2) := Lib.hid (hbe.out.trans (kept_below hk2 hbe.out.size))
      clear h2 hk2
      obtain ⟨wo, hwo⟩ : ∃ wo : World, wo = wr := ⟨_, rfl⟩
      go_wp2
      go_loopw [12] (fun jv wr => ∃ (j : Nat) (s : St), jv = .int .i64 (j : Int) ∧ j ≤ n ∧ j ≤ 30 ∧ Hid (WhAt (From G.heap.size) wr B s) ∧ Hid (Waits s id k (k + nn)) ∧ Hid (Below G.heap.size G wr)) (fun jv _ => 30 - (RowKit.intOf jv).toNat)
      case atStart => exact ⟨0, s1, rfl, Nat.zero_le _, by omega, H2, HWt, HB2⟩
      case round =>
        obtain ⟨j, s, rfl, hj, hj30, hat2, hw2, hbe2⟩ := hrel
        by_cases hlt : j < n ∧ j < 30
        · obtain ⟨hl1, hl2⟩ := hlt
          have hj' : j < ss.length := by rw [HSl.out]; exact hl1
          obtain ⟨b1, off, rfl, hbl, hatS⟩ := HSS.out.2 (by omega)
          have hx := hatS j hj'
          obtain ⟨x, hxx⟩ : ∃ x, ss[j] = x := ⟨_, rfl⟩
          have hokx : okStp x := by rw [← hxx]; exact HOK.out _ (List.getElem_mem hj')
          rw [hxx] at hx
          have hbl2 : wr.heap[b1]? = w.heap[b1]? := by
            have h1 := HBG.out.block b1 hbl
            have h2 := hbe2.out.block b1 (Nat.lt_of_lt_of_le hbl HGs.out)
            exact h2.trans h1
          have hxr : StpAt wr b1 (off + j * 3) x := hx.of_block hbl2
          have HSt : Hid (∀ w', Below wr.heap.size wr w' → StpAt w' b1 (off + j * 3) x) := Lib.hid (fun w' hb => hxr.of_block (hb.block b1 (Nat.lt_of_lt_of_le hbl (Nat.le_trans HGs.out hbe2.out.size))))
          obtain ⟨ck, ci, cn⟩ := hxr
          have q6 : (j : Int) < (n : Int) := by omega
          have q7 : (j : Int) < 30 := by omega
          have HK : Hid ((0 : Int) ≤ (j : Int) ∧ (j : Int) < (n : Int)) := Lib.hid ⟨by omega, by omega⟩
          have hwx : wfI x.id ∧ wfI x.n := ⟨hokx.2.1, hokx.2.2⟩
          have hoks := hat2.out.ok
          clear hatS hx hxx hokx hj' hbl hbl2
          by_cases hid2 : x.id = id
          · have z1 : (x.id == id) = true := by rw [beq_iff_eq]; exact hid2
            clear hid2 hoks hwx cn ck
            go_wp2
            go_roundw
            case rel => exact ⟨j + 1, s, by go_num, by omega, by omega, hat2, hw2, hbe2⟩
            case measure => simp [RowKit.intOf]; omega
          · have z1 : (x.id == id) = false := by rw [beq_eq_false_iff_ne]; exact hid2
            by_cases hkd : x.kind = 0
            · have z2 : (x.kind == 0) = true := by rw [beq_iff_eq]; exact hkd
              obtain ⟨mb, hmb⟩ : ∃ mb, s.may x.id x.n = mb := ⟨_, rfl⟩
              obtain ⟨d1, d2⟩ := dueOf_set_other (n := x.n) hoks (fun e => hid2 e.symm)
              have hw3 : Waits (s.set x.id x.n) id k (k + nn) := ⟨d2.trans hw2.out.1, d1.trans hw2.out.2⟩
              have hnow := hw2.out.1
              have HCall : Hid (∀ w', Below wr.heap.size wr w' → Calls Try.prog 8 #[.pointer (some ⟨B, 0, none⟩), .int .i64 x.id, .int .i64 x.n] w' fun e w3 => e = .returned (.bool mb) ∧ (WhAt (From G.heap.size) w3 B (s.set x.id x.n) ∧ Below G.heap.size G w3) ∧ But (From G.heap.size) w' w3) := Lib.hid (fun w' hb => by
                have hb' := hbe2.out.trans (hb.mono hbe2.out.size)
                refine (set_at _ w' B s (hat2.out.below hb) (HCl.out w' hb') x.id x.n hwx.1 hwx.2 (by omega)).mono ?_
                rintro e w3 ⟨rfl, h3, hk3⟩
                exact ⟨by rw [hmb], ⟨h3, hb'.trans (kept_below hk3 hb'.size)⟩, hk3.1⟩)
              have HW3 := Lib.hid hw3
              clear hid2 hoks hwx cn hmb d1 d2 hw3 hnow hkd
              go_wp2
              refine Go.Rel.wp_region_states (by kernel_rfl) (by kernel_rfl) (by kernel_rfl) (by kernel_rfl) (fun f w => (f 11 = true → WhAt (From G.heap.size) w B (s.set x.id x.n) ∧ Below G.heap.size G w) ∧ (f 11 = false → Below wr.heap.size wr w)) (But (From G.heap.size)) (fun _ _ _ h k => h.trans k) ((But.refl _ _).drew) ⟨(fun h => by cases h), fun _ => ⟨rfl, rfl, rfl, Nat.le_refl _, fun _ _ => rfl⟩⟩ (onceR _ B b1 off n c j x mb) (onceR_stable _ B b1 off n c j x mb) ?hsteps ?hend
              case hsteps =>
                  refine (.cons ?_ (.cons ?_ (.cons ?_ (.cons ?_ (.cons ?_ (.cons ?_ (.cons ?_ (.cons ?_ (.cons ?_ (.cons ?_ (.cons ?_ (.cons ?_ .nil))))))))))))
                  · intro f a w' hI hf hanc hdesc hle hs' hd K hK
                    have f9 : a.tmps[9]? = some (.pointer (some ⟨B, 0, none⟩)) := hs'.2.2 9 (by kernel_rfl)
                    unfold Go.Rel.stepOf
                    go_simp
                    exact hK _ _ (But.refl _ _) (hI) rfl
                  · intro f a w' hI hf hanc hdesc hle hs' hd K hK
                    have f2 : a.tmps[2]? = some (.slice (some ⟨b1, off, none⟩) n c) := hs'.2.2 2 (by kernel_rfl)
                    unfold Go.Rel.stepOf
                    go_simp
                    exact hK _ _ (But.refl _ _) (hI) rfl
                  · intro f a w' hI hf hanc hdesc hle hs' hd K hK
                    have f12 : a.tmps[12]? = some (.int .i64 (j : Int)) := hs'.2.2 12 (by kernel_rfl)
                    unfold Go.Rel.stepOf
                    go_simp
                    exact hK _ _ (But.refl _ _) (hI) rfl
                  · intro f a w' hI hf hanc hdesc hle hs' hd K hK
                    obtain ⟨_, t1, rfl⟩ := hd 1 64 (by kernel_rfl)
                    obtain ⟨_, t2, rfl⟩ := hd 2 65 (by kernel_rfl)
                    have q1 := HK.out.1
                    have q2 := HK.out.2
                    unfold Go.Rel.stepOf
                    go_simp
                    exact hK _ _ (But.refl _ _) (hI) rfl
                  · intro f a w' hI hf hanc hdesc hle hs' hd K hK
                    obtain ⟨_, t3, rfl⟩ := hd 3 66 (by kernel_rfl)
                    unfold Go.Rel.stepOf
                    go_simp
                    exact hK _ _ (But.refl _ _) (hI) rfl
                  · intro f a w' hI hf hanc hdesc hle hs' hd K hK
                    obtain ⟨_, t4, rfl⟩ := hd 4 67 (by kernel_rfl)
                    have hz : f 11 = false := hdesc 8 11 (by kernel_rfl)
                    have cc := (HSt.out w' (hI.2 hz)).2.1
                    unfold Go.Rel.stepOf
                    go_simp
                    exact hK _ _ (But.refl _ _) (hI) rfl
                  · intro f a w' hI hf hanc hdesc hle hs' hd K hK
                    have f2 : a.tmps[2]? = some (.slice (some ⟨b1, off, none⟩) n c) := hs'.2.2 2 (by kernel_rfl)
                    unfold Go.Rel.stepOf
                    go_simp
                    exact hK _ _ (But.refl _ _) (hI) rfl
                  · intro f a w' hI hf hanc hdesc hle hs' hd K hK
                    have f12 : a.tmps[12]? = some (.int .i64 (j : Int)) := hs'.2.2 12 (by kernel_rfl)
                    unfold Go.Rel.stepOf
                    go_simp
                    exact hK _ _ (But.refl _ _) (hI) rfl
                  · intro f a w' hI hf hanc hdesc hle hs' hd K hK
                    obtain ⟨_, t6, rfl⟩ := hd 6 69 (by kernel_rfl)
                    obtain ⟨_, t7, rfl⟩ := hd 7 70 (by kernel_rfl)
                    have q1 := HK.out.1
                    have q2 := HK.out.2
                    unfold Go.Rel.stepOf
                    go_simp
                    exact hK _ _ (But.refl _ _) (hI) rfl
                  · intro f a w' hI hf hanc hdesc hle hs' hd K hK
                    obtain ⟨_, t8, rfl⟩ := hd 8 71 (by kernel_rfl)
                    unfold Go.Rel.stepOf
                    go_simp
                    exact hK _ _ (But.refl _ _) (hI) rfl
                  · intro f a w' hI hf hanc hdesc hle hs' hd K hK
                    obtain ⟨_, t9, rfl⟩ := hd 9 72 (by kernel_rfl)
                    have hz : f 11 = false := hdesc 8 11 (by kernel_rfl)
                    have cc := (HSt.out w' (hI.2 hz)).2.2
                    unfold Go.Rel.stepOf
                    go_simp
                    exact hK _ _ (But.refl _ _) (hI) rfl
                  · intro f a w' hI hf hanc hdesc hle hs' hd K hK
                    obtain ⟨_, t0, rfl⟩ := hd 0 63 (by kernel_rfl)
                    obtain ⟨_, t5, rfl⟩ := hd 5 68 (by kernel_rfl)
                    obtain ⟨_, t10, rfl⟩ := hd 10 73 (by kernel_rfl)
                    unfold Go.Rel.stepOf
                    go_simp
                    refine (HCall.out w' (hI.2 hf)).mono ?_
                    rintro e w3 ⟨rfl, hf1, hb3⟩
                    exact hK _ _ hb3 ⟨fun _ => hf1, (fun h => by cases h)⟩ rfl
              case hend =>
                  intro f a w3 hall hI hle hs' hR'
                  have h3 := hI.1 (hall 11 (by decide))
                  have H3 := Lib.hid h3.1
                  have HB3 := Lib.hid h3.2
                  clear hall hI hle h3
                  obtain ⟨v63, s63, _⟩ := hR' 0 63 (by kernel_rfl)
                  obtain ⟨v64, s64, _⟩ := hR' 1 64 (by kernel_rfl)
                  obtain ⟨v65, s65, _⟩ := hR' 2 65 (by kernel_rfl)
                  obtain ⟨v66, s66, _⟩ := hR' 3 66 (by kernel_rfl)
                  obtain ⟨v67, s67, _⟩ := hR' 4 67 (by kernel_rfl)
                  obtain ⟨v68, s68, _⟩ := hR' 5 68 (by kernel_rfl)
                  obtain ⟨v69, s69, _⟩ := hR' 6 69 (by kernel_rfl)
                  obtain ⟨v70, s70, _⟩ := hR' 7 70 (by kernel_rfl)
                  obtain ⟨v71, s71, _⟩ := hR' 8 71 (by kernel_rfl)
                  obtain ⟨v72, s72, _⟩ := hR' 9 72 (by kernel_rfl)
                  obtain ⟨v73, s73, _⟩ := hR' 10 73 (by kernel_rfl)
                  obtain ⟨v74, s74, _⟩ := hR' 11 74 (by kernel_rfl)
                  have e := hs'.shape
                  simp only [List.toList_toArray, List.foldl, Go.Rel.reset, Array.getD_eq_getD_getElem?, s63, s64, s65, s66, s67, s68, s69, s70, s71, s72, s73, s74, Option.getD_some] at e
                  simp at e
                  clear hR' hs' s63 s64 s65 s66 s67 s68 s69 s70 s71 s72 s73 s74
                  subst e
                  go_wp2
                  go_roundw
                  case rel => exact ⟨j + 1, s.set x.id x.n, by go_num, by omega, by omega, H3, HW3, HB3⟩
                  case measure => simp [RowKit.intOf]; omega
            · have z2 : (x.kind == 0) = false := by rw [beq_eq_false_iff_ne]; exact hkd
              obtain ⟨d1, d2⟩ := dueOf_stop_other hoks (fun e => hid2 e.symm)
              have hw3 : Waits (s.stop x.id) id k (k + nn) := ⟨d2.trans hw2.out.1, d1.trans hw2.out.2⟩
              have hnow := hw2.out.1
              have HCall := Lib.hid (stop_at _ wr B s hat2.out (HCl.out wr hbe2.out) x.id hwx.1 (by omega))
              have HW3 := Lib.hid hw3
              clear hid2 hoks hwx cn d1 d2 hw3 hnow hkd
              go_wp2_with fail
              refine HCall.out.mono ?_
              rintro e w3 ⟨rfl, h3, hk3⟩
              have H3 := Lib.hid h3
              have HB3 : Hid (Below G.heap.size G w3) := Lib.hid (hbe2.out.trans (kept_below hk3 hbe2.out.size))
              clear h3 hk3
              go_wp2
              go_roundw
              case rel => exact ⟨j + 1, s.stop x.id, by go_num, by omega, by omega, H3, HW3, HB3⟩
              case measure => simp [RowKit.intOf]; omega
        · have hge : ¬ ((j : Int) < (n : Int)) ∨ ((j : Int) < (n : Int) ∧ ¬ ((j : Int) < 30)) := by omega
          obtain ⟨wp, hwp⟩ : ∃ wp : World, wp = wr := ⟨_, rfl⟩
          clear hlt
          rcases hge with z1 | ⟨z1, z2⟩
          all_goals
            go_wp2
            go_loopw [13] (fun iv wr => ∃ (i : Nat) (s : St), iv = .int .i64 (i : Int) ∧ 1 ≤ i ∧ i ≤ nn + 71 ∧ Hid (WhAt (From G.heap.size) wr B s) ∧ Hid (Waits s id (k + (i - 1)) (k + nn)) ∧ Hid (Below G.heap.size G wr)) (fun iv _ => nn + 71 - (RowKit.intOf iv).toNat)
            case atStart => exact ⟨1, s, rfl, Nat.le_refl _, by omega, hat2, hw2, hbe2⟩
            case round =>
              obtain ⟨i, s3, rfl, hi1', hi2', hat3, hw3, hbe3⟩ := hrel
              by_cases hle : i ≤ nn + 70
              · have hok3 := hat3.out.ok
                have hnow := hw3.out.1
                obtain ⟨hw4, hdue⟩ := hw3.out.tick hok3
                rw [show k + (i - 1) + 1 = k + (i + 1 - 1) by omega] at hw4
                have ht := tick_at _ wr B s3 hat3.out (HCl.out wr hbe3.out) (by omega)
                obtain ⟨T, hT⟩ : ∃ T, s3.due = T := ⟨_, rfl⟩
                obtain ⟨s4, hs4⟩ : ∃ s4, s3.tick = s4 := ⟨_, rfl⟩
                rw [hT] at hdue
                rw [hs4] at hw4
                have hT64 : T.length ≤ 64 := by
                  rw [← hT]
                  unfold St.due dueL
                  rw [List.length_map]
                  exact Nat.le_trans (List.length_filter_le _ _) hok3.most
                have HTick : Hid (Calls Try.prog 14 #[.pointer (some ⟨B, 0, none⟩)] wr fun e w4 => ∃ A' c', e = .returned (.slice A' T.length c') ∧ RV w4 A' T.length (T.map encZ) ∧ WhAt (From G.heap.size) w4 B s4 ∧ Below G.heap.size G w4) := Lib.hid (ht.mono (fun e w4 ⟨v, he, hv, _, h4, hk4⟩ => by
                  rw [hT] at hv
                  rw [hs4] at h4
                  obtain ⟨A', c', ev, hRV, _⟩ := row_shape hv
                  exact ⟨A', c', by rw [he, ev], hRV, h4, hbe3.out.trans (kept_below hk4 hbe3.out.size)⟩))
                have HW4 := Lib.hid hw4
                have HDue : Hid (id ∈ T ↔ i = nn) := Lib.hid (hdue.trans (by omega))
                have r1 : (i : Int) ≤ (nn : Int) + 70 := by omega
                have r2 : (T.length : Int) ≤ 64 := by omega
                have r3 : (nn : Int) ≤ 9000 := by omega
                clear hok3 hnow hw4 hdue ht hT hs4
                go_wp2_with fail
                refine HTick.out.mono ?_
                rintro e w4 ⟨A', c', rfl, hRV, h4, hb4⟩
                have HRV := Lib.hid hRV
                have H4 := Lib.hid h4
                have HB4 := Lib.hid hb4
                clear hRV h4 hb4
                go_wp2
                go_loop [15, 16] (fun tv jv => ∃ (j : Nat) (tb : Bool), jv = .int .i64 (j : Int) ∧ tv = .bool tb ∧ j ≤ T.length ∧ Hid (tb = (T.take j).contains id)) (fun _ jv => T.length - (RowKit.intOf jv).toNat)
                case atStart => exact ⟨0, false, rfl, rfl, Nat.zero_le _, Lib.hid rfl⟩
                case round =>
                  obtain ⟨j2, tb, rfl, rfl, hj2, htb⟩ := hrel
                  by_cases hl2 : j2 < T.length
                  · obtain ⟨b2, off2, rfl, _, cr⟩ := HRV.out.at_ hl2
                    rw [List.getElem_map] at cr
                    obtain ⟨y, hy⟩ : ∃ y, T[j2] = y := ⟨_, rfl⟩
                    rw [hy] at cr
                    have htk : T.take (j2 + 1) = T.take j2 ++ [y] := by rw [List.take_succ_eq_append_getElem hl2, hy]
                    have hcn : (T.take (j2 + 1)).contains id = (tb || (y == id)) := by
                      rw [htk, htb.out, contains_snoc]
                    have r4 : (j2 : Int) < (T.length : Int) := by omega
                    clear htk hy
                    cases tb with
                    | true =>
                      have HTb := Lib.hid hcn
                      clear hcn
                      go_wp2
                      go_round
                      case rel => exact ⟨j2 + 1, true, by go_num, rfl, by omega, Lib.hid (by rw [HTb.out]; rfl)⟩
                      case measure => simp [RowKit.intOf]; omega
                    | false =>
                      by_cases hyy : y = id
                      · have z3 : (y == id) = true := by rw [beq_iff_eq]; exact hyy
                        have HTb : Hid ((T.take (j2 + 1)).contains id = true) := Lib.hid (by rw [hcn, z3]; rfl)
                        clear hcn hyy
                        go_wp2
                        go_round
                        case rel => exact ⟨j2 + 1, true, by go_num, rfl, by omega, Lib.hid HTb.out.symm⟩
                        case measure => simp [RowKit.intOf]; omega
                      · have z3 : (y == id) = false := by rw [beq_eq_false_iff_ne]; exact hyy
                        have HTb : Hid ((T.take (j2 + 1)).contains id = false) := Lib.hid (by rw [hcn, z3]; rfl)
                        clear hcn hyy
                        go_wp2
                        go_round
                        case rel => exact ⟨j2 + 1, false, by go_num, rfl, by omega, Lib.hid HTb.out.symm⟩
                        case measure => simp [RowKit.intOf]; omega
                  · obtain rfl : j2 = T.length := by omega
                    have htb2 := htb.out
                    rw [List.take_length] at htb2
                    by_cases hin : i = nn
                    · have hT1 : tb = true := by rw [htb2]; simpa using HDue.out.2 hin
                      have z5 : ((i : Int) == (nn : Int)) = true := by rw [beq_iff_eq]; omega
                      subst hT1
                      clear hl2 htb2 hin
                      go_wp2
                      go_roundw
                      case rel => exact ⟨i + 1, s4, by go_num, by omega, by omega, H4, HW4, HB4⟩
                      case measure => simp [RowKit.intOf]; omega
                    · have hT1 : tb = false := by
                        rw [htb2]
                        simpa using fun h => hin (HDue.out.1 h)
                      have z5 : ((i : Int) == (nn : Int)) = false := by rw [beq_eq_false_iff_ne]; omega
                      subst hT1
                      clear hl2 htb2 hin
                      go_wp2
                      go_roundw
                      case rel => exact ⟨i + 1, s4, by go_num, by omega, by omega, H4, HW4, HB4⟩
                      case measure => simp [RowKit.intOf]; omega
              · have r1 : ¬ (i : Int) ≤ (nn : Int) + 70 := by omega
                have r3 : (nn : Int) ≤ 9000 := by omega
                have CW := Lib.hid (HWk.out wr)
                clear hle
                go_wp2_with fail
                refine CW.out.mono ?_
                rintro e w8 ⟨rfl, hb8⟩
                have HB8 := Lib.hid hb8
                clear hb8
                go_wp2
                go_ret
                have h1 := HBG.out.trans (hbe3.out.mono HGs.out)
                exact ⟨rfl, h1.trans (HB8.out.mono h1.size)⟩
end Go.Proofs.Ytcekpkjibabjmaa
