/-
  A wheel in a state; Stop, Set, Now, Ids and Left of the program's wheel in words of states (layer 6).
-/
import Derived.Test.YtcekpkjibabjmaaWStop
import Derived.Test.YtcekpkjibabjmaaWPut
namespace Go.Proofs.Ytcekpkjibabjmaa
open Go.RowKit
set_option linter.unusedSimpArgs false

theorem WhIs.count {S : Nat → Prop} {w : World} {B M N n : Nat} {g : Nat → Value} {m : Mp} {q : Nat → List Int} (h : WhIs S w B M g N m n q) {L : Tm} (ht : Tie m L) (hR : Rise L) (hi : ∀ x ∈ L, wfI x.1) : WhIs S w B M g N m L.length q :=
  ⟨h.sB, h.sM, h.blk, h.map.count ht hR hi, h.rows⟩
/-- The wheel at block B is in state s; all its blocks lie in S. -/
def WhAt (S : Nat → Prop) (w : World) (B : Nat) (s : St) : Prop := ∃ M g m q, WhIs S w B M g s.now m s.L.length q ∧ Inv (fun l => blkOf l s.now) m q ∧ Tie m s.L ∧ s.ok
theorem WhAt.mono {S T : Nat → Prop} {w : World} {B : Nat} {s : St} (h : WhAt S w B s) (hs : ∀ k, k < w.heap.size → S k → T k) : WhAt T w B s := by
  obtain ⟨M, g, m, q, h, r⟩ := h
  exact ⟨M, g, m, q, h.mono hs, r⟩
theorem WhAt.but {S T : Nat → Prop} {w w' : World} {B : Nat} {s : St} (h : WhAt S w B s) (hb : But T w w') (hT : ∀ k, T k → k < w.heap.size → ¬ S k) : WhAt S w' B s := by
  obtain ⟨M, g, m, q, h, r⟩ := h
  exact ⟨M, g, m, q, h.but hb hT, r⟩
theorem WhAt.below {S : Nat → Prop} {w w' : World} {B : Nat} {s : St} (h : WhAt S w B s) (hb : Below w.heap.size w w') : WhAt S w' B s := h.but (T := fun _ => False) (But.of_below hb) (fun _ h => h.elim)
theorem WhAt.ok {S : Nat → Prop} {w : World} {B : Nat} {s : St} (h : WhAt S w B s) : s.ok := by
  obtain ⟨M, g, m, q, _, _, _, h⟩ := h
  exact h
theorem WhAt.lt {S : Nat → Prop} {w : World} {B : Nat} {s : St} (h : WhAt S w B s) : B < w.heap.size := by
  obtain ⟨M, g, m, q, h, _⟩ := h
  exact h.lt
theorem WhAt.sB {S : Nat → Prop} {w : World} {B : Nat} {s : St} (h : WhAt S w B s) : S B := by
  obtain ⟨M, g, m, q, h, _⟩ := h
  exact h.sB
theorem St.ok.wf {s : St} (h : s.ok) : ∀ x ∈ s.L, wfI x.1 := fun x hx => h.ids x hx
theorem new_at (w : World) : Calls Try.prog 7 #[] w fun e w' => ∃ B, e = .returned (.pointer (some ⟨B, 0, none⟩)) ∧ WhAt (fun k => w.heap.size ≤ k) w' B St.new ∧ Below w.heap.size w w' :=
  (new_any w).mono fun _ _ ⟨B, M, g, he, h, hb⟩ => ⟨B, he, ⟨M, g, _, _, h, Inv.new _, fun _ => rfl, St.ok.new⟩, hb⟩
theorem stop_at (S : Nat → Prop) (w : World) (B : Nat) (s : St) (h : WhAt S w B s) (hcl : ∀ k, w.heap.size ≤ k → S k) (id : Int) (hid : wfI id) (hN : s.now ≤ 1099511627776) :
    Calls Try.prog 10 #[.pointer (some ⟨B, 0, none⟩), .int .i64 id] w fun e w' => e = .returned (.bool (hasL s.L id)) ∧ WhAt S w' B (s.stop id) ∧ Kept S w w' := by
  obtain ⟨M, g, m, q, h, hI, hT, hok⟩ := h
  have hs := hT.isSome id
  cases hm : m id with
  | none =>
    rw [hm] at hs
    refine (stop_no w h id hid hm).mono ?_
    rintro e w' ⟨rfl, hb⟩
    have hd : dueOf s.L id = none := by
      unfold hasL at hs
      simpa using hs.symm
    have e1 : s.stop id = s := by unfold St.stop; rw [delL_none hd]
    rw [e1, ← hs]
    exact ⟨rfl, ⟨M, g, m, q, h.below hb, hI, hT, hok⟩, Kept.of_below hb⟩
  | some x =>
    obtain ⟨d, l⟩ := x
    rw [hm] at hs
    have hdd : (id, d) ∈ s.L := dueOf_mem (by rw [← hT id, hm]; rfl)
    have := (hok.soon _ hdd).2
    simp only at this
    refine (stop_yes w h hcl hI id hid d l hm (by omega)).mono ?_
    rintro e w' ⟨rfl, g', h', hb⟩
    have hT' := hT.del hok.rise id
    have hok' := hok.stop id
    exact ⟨by rw [← hs]; rfl, ⟨M, g', _, _, h'.count hT' hok'.rise hok'.wf, hI.drop hm, hT', hok'⟩, hb⟩
theorem put_at (S : Nat → Prop) (w : World) (B : Nat) (s : St) (h : WhAt S w B s) (hcl : ∀ k, w.heap.size ≤ k → S k) (id : Int) (hid : wfI id) (n : Nat) (h1 : 1 ≤ n) (h2 : n ≤ 262144) (hN : s.now ≤ 1099511627776) (hno : hasL s.L id = false) (h64 : s.L.length < 64) :
    Calls Try.prog 23 #[.pointer (some ⟨B, 0, none⟩), .int .i64 id, .int .i64 ((s.now + n : Nat) : Int)] w fun e w' => e = .returned (.tuple #[]) ∧ WhAt S w' B ⟨s.now, setL id (s.now + n) s.L⟩ ∧ Kept S w w' := by
  obtain ⟨M, g, m, q, h, hI, hT, hok⟩ := h
  have hmn : m id = none := by
    have := hT.isSome id
    rw [hno] at this
    simpa using this
  have hlv : lvl (s.now + n - s.now) = lvl n := by rw [Nat.add_sub_cancel_left]
  have hf := set_fits (N := s.now) h1 h2
  refine (put_any w h hcl id hid (s.now + n) (lvl n) (by omega) (by omega) hN hlv ?_ (by omega)).mono ?_
  · have := hI.short (fun j hj => by rw [← hT.isSome]; exact hj) (slotOf_lt (lvl_lt n) (s.now + n))
    omega
  · rintro e w' ⟨rfl, g', h', hb⟩
    have hT' := hT.set hok.rise id (s.now + n) (lvl n)
    have hok' : (St.mk s.now (setL id (s.now + n) s.L)).ok := by
      have := hok.set (id := id) (n := (n : Int)) hid
      unfold St.set at this
      rw [if_pos (by simp only [St.may, decide_eq_true_eq]; omega), Int.toNat_natCast] at this
      exact this
    exact ⟨rfl, ⟨M, g', _, _, h'.count hT' hok'.rise hok'.wf, hI.put hmn (lvl_lt n) hf.1 hf.2, hT', hok'⟩, hb⟩
theorem WhAt.c0 {S : Nat → Prop} {w : World} {B : Nat} {s : St} (h : WhAt S w B s) : w.cell? ⟨B, 0, none⟩ = some (.int .i64 (s.now : Int)) := by
  obtain ⟨M, g, m, q, h, _⟩ := h
  exact h.c0
theorem WhAt.len {S : Nat → Prop} {w : World} {B : Nat} {s : St} (h : WhAt S w B s) : ∃ M, w.cell? ⟨B, 1, none⟩ = some (.map (some M)) ∧ ∀ ty, (Builtin.len_ #[44] ty #[.map (some M)]).run Try.prog w = .ok (.int .i64 (s.L.length : Int)) w := by
  obtain ⟨M, g, m, q, h, _, hT, hok⟩ := h
  exact ⟨M, h.c1, fun ty => h.map.len hT hok.rise hok.wf ty⟩
theorem made_at {S : Nat → Prop} {w : World} {B : Nat} {s : St} (h : WhAt S w B s) : Calls Try.prog 22 #[.pointer (some ⟨B, 0, none⟩)] w fun e w' => e = .returned (.bool true) ∧ w = w' := by
  obtain ⟨M, g, m, q, h, _⟩ := h
  exact made_yes w h
theorem now_at (S : Nat → Prop) (w : World) (B : Nat) (s : St) (h : WhAt S w B s) : Calls Try.prog 21 #[.pointer (some ⟨B, 0, none⟩)] w fun e w' => e = .returned (.int .i64 (s.now : Int)) ∧ w = w' := by
  obtain ⟨M, g, m, q, h, _⟩ := h
  exact now_any w h
theorem ids_at (S : Nat → Prop) (w : World) (B : Nat) (s : St) (h : WhAt S w B s) : Calls Try.prog 18 #[.pointer (some ⟨B, 0, none⟩)] w fun e w' => ∃ v, e = .returned v ∧ w'.ownsRow w.heap.size 3 1 v s.L.length ((s.L.map Prod.fst).map encZ) ∧ Below w.heap.size w w' := by
  obtain ⟨M, g, m, q, h, _, hT, hok⟩ := h
  exact ids_any w h s.L hT hok.rise hok.wf hok.most
theorem may_no {s : St} {id n : Int} (h : n < 1 ∨ 262144 < n) : s.may id n = false ∧ s.set id n = s := by
  have : s.may id n = false := by unfold St.may; simp; omega
  exact ⟨this, by unfold St.set; rw [this]; rfl⟩
set_option maxHeartbeats 2000000 in
theorem set_at (S : Nat → Prop) (w : World) (B : Nat) (s : St) (h : WhAt S w B s) (hcl : ∀ k, w.heap.size ≤ k → S k) (id n : Int) (hid : wfI id) (hn : wfI n) (hN : s.now ≤ 1099511627776) :
    Calls Try.prog 8 #[.pointer (some ⟨B, 0, none⟩), .int .i64 id, .int .i64 n] w fun e w' => e = .returned (.bool (s.may id n)) ∧ WhAt S w' B (s.set id n) ∧ Kept S w w' := by
  have HM := Lib.hid (made_at h)
  unfold wfI at hn
  by_cases hr : n < 1
  · obtain ⟨e1, e2⟩ := may_no (s := s) (id := id) (.inl hr)
    rw [e1, e2]
    have H := Lib.hid h
    clear h e1 e2 hcl
    go_enter Try.func8, Try.ntmps8
    go_wp2_with fail
    refine HM.out.mono ?_
    rintro e w' ⟨rfl, rfl⟩
    go_wp2
    go_ret
    exact ⟨rfl, H.out, Kept.refl _ _⟩
  · by_cases hr2 : 262144 < n
    · obtain ⟨e1, e2⟩ := may_no (s := s) (id := id) (.inr hr2)
      rw [e1, e2]
      have H := Lib.hid h
      clear h e1 e2 hcl
      go_enter Try.func8, Try.ntmps8
      go_wp2_with fail
      refine HM.out.mono ?_
      rintro e w' ⟨rfl, rfl⟩
      go_wp2
      go_ret
      exact ⟨rfl, H.out, Kept.refl _ _⟩
    · obtain ⟨k, rfl⟩ : ∃ k : Nat, n = (k : Int) := ⟨n.toNat, by omega⟩
      have HS := Lib.hid (stop_at S w B s h hcl id hid hN)
      obtain ⟨is, his⟩ : ∃ is, hasL s.L id = is := ⟨_, rfl⟩
      rw [his] at HS
      have hok := h.ok
      have hnd : hasL (s.stop id).L id = false := by unfold hasL St.stop; rw [dueOf_delL hok.rise, if_pos rfl]; rfl
      have hset : s.may id k = true → s.set id k = ⟨s.now, setL id (s.now + k) (s.stop id).L⟩ := fun hm => by
        unfold St.set St.stop
        rw [if_pos hm, setL_del hok.rise, Int.toNat_natCast]
      have HPut : Hid (∀ w', WhAt S w' B (s.stop id) → Kept S w w' → (s.stop id).L.length < 64 → Calls Try.prog 23 #[.pointer (some ⟨B, 0, none⟩), .int .i64 id, .int .i64 ((s.now : Int) + (k : Int))] w' fun e w2 => e = .returned (.tuple #[]) ∧ WhAt S w2 B ⟨s.now, setL id (s.now + k) (s.stop id).L⟩ ∧ Kept S w' w2) := Lib.hid (fun w' h' hk' hl => by
        have := put_at S w' B (s.stop id) h' (fun j hj => hcl j (Nat.le_trans hk'.1.size hj)) id hid k (by omega) (by omega) hN hnd hl
        rw [Int.natCast_add] at this
        exact this)
      have HNow : Hid ((s.stop id).now = s.now) := Lib.hid rfl
      have hlen : is = true → (s.stop id).L.length < s.L.length := fun e => length_delL_lt (by rw [e] at his; exact his)
      have hmost := hok.most
      have hst : is = false → s.stop id = s := fun e => by
        unfold St.stop
        rw [delL_none (by rw [e] at his; unfold hasL at his; simpa using his)]
      obtain ⟨s1, hs1⟩ : ∃ s1, s.stop id = s1 := ⟨_, rfl⟩
      rw [hs1] at HS hset HPut HNow hlen hst
      have q1 : ¬ (k : Int) < 1 := hr
      have q2 : ¬ (262144 : Int) < (k : Int) := hr2
      have q3 : (s.now : Int) ≤ 1099511627776 := by omega
      have q4 : (0 : Int) ≤ (s.now : Int) := by omega
      cases is with
      | true =>
        have hm : s.may id k = true := by simp only [St.may, decide_eq_true_eq]; exact ⟨by omega, by omega, .inl his⟩
        have HE := Lib.hid (hset hm)
        have HL := Lib.hid (hlen rfl)
        rw [hm]
        clear hset hlen hst h hok hnd his hs1 hcl hm
        go_enter Try.func8, Try.ntmps8
        go_wp2_with fail
        refine HM.out.mono ?_
        rintro e w' ⟨rfl, rfl⟩
        go_wp2_with fail
        refine HS.out.mono ?_
        rintro e w1 ⟨rfl, h1, hk1⟩
        have c0 := h1.c0
        rw [HNow.out] at c0
        have HP := Lib.hid (HPut.out w1 h1 hk1 (by have := HL.out; omega))
        have HK := Lib.hid hk1
        clear h1 hk1
        go_wp2_with fail
        refine HP.out.mono ?_
        rintro e w2 ⟨rfl, h2, hk2⟩
        have H2 := Lib.hid h2
        have HK2 := Lib.hid hk2
        clear h2 hk2
        go_wp2
        go_ret
        exact ⟨rfl, by rw [HE.out]; exact H2.out, HK.out.trans HK2.out⟩
      | false =>
        have hss := hst rfl
        rw [hss] at HS hset HPut HNow hlen
        by_cases h64 : s.L.length < 64
        · have hm : s.may id k = true := by simp only [St.may, decide_eq_true_eq]; omega
          have HE := Lib.hid (hset hm)
          rw [hm]
          have q5 : ¬ 64 ≤ s.L.length := by omega
          clear hset hlen hst h hok hnd his hs1 hss hcl hm HNow
          go_enter Try.func8, Try.ntmps8
          go_wp2_with fail
          refine HM.out.mono ?_
          rintro e w' ⟨rfl, rfl⟩
          go_wp2_with fail
          refine HS.out.mono ?_
          rintro e w1 ⟨rfl, h1, hk1⟩
          have c0 := h1.c0
          obtain ⟨M1, c1, hlen⟩ := h1.len
          have HP := Lib.hid (HPut.out w1 h1 hk1 h64)
          have HK := Lib.hid hk1
          clear h1 hk1
          go_wp2_with fail
          refine HP.out.mono ?_
          rintro e w2 ⟨rfl, h2, hk2⟩
          have H2 := Lib.hid h2
          have HK2 := Lib.hid hk2
          clear h2 hk2
          go_wp2
          go_ret
          exact ⟨rfl, by rw [HE.out]; exact H2.out, HK.out.trans HK2.out⟩
        · have hm : s.may id k = false := by simp only [St.may, decide_eq_false_iff_not, his]; simp; omega
          have HE : Hid (s.set id k = s) := Lib.hid (by unfold St.set; rw [hm]; rfl)
          rw [hm]
          have q5 : 64 ≤ s.L.length := by omega
          clear hset hlen hst h hok hnd his hs1 hss hcl hm HNow HPut
          go_enter Try.func8, Try.ntmps8
          go_wp2_with fail
          refine HM.out.mono ?_
          rintro e w' ⟨rfl, rfl⟩
          go_wp2_with fail
          refine HS.out.mono ?_
          rintro e w1 ⟨rfl, h1, hk1⟩
          obtain ⟨M1, c1, hlen⟩ := h1.len
          have H1 := Lib.hid h1
          have HK := Lib.hid hk1
          clear h1 hk1
          go_wp2
          go_ret
          exact ⟨rfl, by rw [HE.out]; exact H1.out, HK.out⟩
end Go.Proofs.Ytcekpkjibabjmaa
