/-
  Sessions opened one after another: what is loaded, in plain words (layer 18). Nothing of any program stands here.
-/
import Derived.Test.YtnobpbbedclbkaaZj8
import Derived.Test.YtnobpbbedclbkaaZj28
namespace Go.Proofs.Ytnobpbbedclbkaa
open Go Go.RowKit
set_option linter.unusedSimpArgs false
set_option linter.unusedVariables false

def Ls.opens (t : Sm) : List Sn → Sm
  | [] => t
  | x :: l => Ls.opens (t.openS x.node x.id).2 l
theorem opens_snoc (x : Sn) : ∀ (l : List Sn) (t : Sm), t.opens (l ++ [x]) = ((t.opens l).openS x.node x.id).2
  | [], t => rfl
  | a :: l, t => opens_snoc x l (t.openS a.node a.id).2
theorem opens_take {l : List Sn} {k : Nat} (hk : k < l.length) (t : Sm) : t.opens (l.take (k + 1)) = ((t.opens (l.take k)).openS l[k].node l[k].id).2 := by
  rw [List.take_succ_eq_append_getElem hk, opens_snoc]
theorem open_most (t : Sm) (node : Int) (i : Nat) : (t.openS node i).2.most = t.most := by
  unfold Ls.openS
  split
  · rfl
  · split
    · rfl
    · split <;> rfl
theorem open_last (t : Sm) (node : Int) (i : Nat) : (t.openS node i).2.last ≤ max t.last i := by
  unfold Ls.openS
  split
  · exact Nat.le_max_left _ _
  · split
    · exact Nat.le_max_left _ _
    · split
      · exact Nat.le_max_left _ _
      · exact Nat.le_refl _
/-- Those that may be loaded are opened as they are. -/
theorem load_open {m last : Nat} {l : List Sn} (h : SmLoad m l last) {t : Sm} {k : Nat} (hk : k < l.length) (ht : t.l = l.take k) (hm : t.most = m) : (t.openS l[k].node l[k].id).1.2 = 0 ∧ (t.openS l[k].node l[k].id).2.l = l.take (k + 1) := by
  obtain ⟨g1, g2, g3, g4, g5⟩ := gdS_iff.1 (h.2.2 _ (List.getElem_mem hk))
  have hs := h.sorted
  unfold SS at hs
  rw [List.pairwise_iff_getElem] at hs
  have hb : ∀ y ∈ l.take k, y.id < l[k].id := fun y hy => by
    obtain ⟨j, hj, rfl⟩ := List.getElem_of_mem hy
    rw [List.length_take] at hj
    rw [List.getElem_take]
    exact hs j k (by omega) hk (by omega)
  have hg : getS t.l l[k].id = none := getS_none.2 fun j hj => by
    have := hb t.l[j] (by rw [← ht]; exact List.getElem_mem hj)
    omega
  have hn : ¬ t.most ≤ t.l.length := by rw [hm, ht, List.length_take]; have := h.1; omega
  have e : t.openS l[k].node l[k].id = ((l[k].id, 0), Ls.raise { t with l := insS (newS l[k].node l[k].id) t.l } l[k].id) := by
    unfold Ls.openS
    rw [if_neg (by rw [g2]; simp [g1]), hg]
    simp only [if_neg hn]
  rw [e]
  refine ⟨rfl, ?_⟩
  show insS (newS l[k].node l[k].id) t.l = l.take (k + 1)
  have ex : newS l[k].node l[k].id = l[k] := by
    obtain ⟨y, hy⟩ : ∃ y, l[k] = y := ⟨_, rfl⟩
    rw [hy] at g3 g4 ⊢
    obtain ⟨a, b, c, d⟩ := y
    simp only at g3 g4
    unfold newS
    rw [g3, g4]
  rw [ex, ht, insS_last hb, List.take_succ_eq_append_getElem hk]
theorem load_opens {m last : Nat} {l : List Sn} (h : SmLoad m l last) : ∀ k, k ≤ l.length → ((⟨m, [], 0⟩ : Sm).opens (l.take k)).l = l.take k ∧ ((⟨m, [], 0⟩ : Sm).opens (l.take k)).most = m
  | 0, _ => ⟨rfl, rfl⟩
  | k + 1, hk => by
    obtain ⟨h1, h2⟩ := load_opens h k (by omega)
    rw [opens_take (by omega)]
    exact ⟨(load_open h (by omega) h1 h2).2, by rw [open_most]; exact h2⟩
theorem opens_le {last : Nat} : ∀ {l : List Sn} {t : Sm}, (∀ x ∈ l, x.id ≤ last) → t.last ≤ last → (t.opens l).last ≤ last
  | [], _, _, h => h
  | x :: l, t, h, ht => opens_le (l := l) (fun y hy => h y (List.mem_cons_of_mem _ hy)) (by
    have := open_last t x.node x.id
    have := h x (List.mem_cons_self ..)
    omega)
theorem opens_most : ∀ {l : List Sn} {t : Sm}, (t.opens l).most = t.most
  | [], _ => rfl
  | x :: l, t => (opens_most (l := l)).trans (open_most t x.node x.id)
/-- What has been opened as it was told may be loaded, and is there. -/
theorem opened_load {t : Sm} {m last : Nat} {l : List Sn} (ht : SmOk t) (hm : t.most = m) (hl : t.l = l) (hi : ∀ x ∈ l, x.id ≤ last) (ht2 : t.last ≤ last) : SmLoad m l last ∧ t.raise last = ⟨m, l, last⟩ := by
  subst hm
  subst hl
  refine ⟨ht.sorted.load ht.len fun x hx => ?_, ?_⟩
  · obtain ⟨a, b, c, d, _⟩ := ht.all x hx
    exact gdS_iff.2 ⟨a, b, c, d, hi x hx⟩
  · unfold Ls.raise
    rw [Nat.max_eq_right ht2]
end Go.Proofs.Ytnobpbbedclbkaa
/-
  slices.Equal at sessions, walked (layer 18).
-/
namespace Go.Proofs.Ytnobpbbedclbkaa
open Go.RowKit
set_option linter.unusedSimpArgs false
set_option linter.unusedVariables false

set_option maxHeartbeats 4000000 in
theorem sequal_any (A : Option Addr) (n c : Nat) (l : List Sn) (A2 : Option Addr) (n2 c2 : Nat) (l2 : List Sn) (w : World) (hS : SK snC 4 w A n l) (hS2 : SK snC 4 w A2 n2 l2) (hn : n ≤ maxLen) (hn2 : n2 ≤ maxLen) :
    Calls Try.prog 37 #[.slice A n c, .slice A2 n2 c2] w fun e w' => ∃ b, e = .returned (.bool b) ∧ (b = true ↔ l = l2) ∧ Below w.heap.size w w' := by
  unfold maxLen at hn hn2
  have HL := Lib.hid hS.1
  have HL2 := Lib.hid hS2.1
  have HS := Lib.hid hS
  have HS2 := Lib.hid hS2
  have hm : n ≤ 9223372036854775807 := by omega
  have hm2 : n2 ≤ 9223372036854775807 := by omega
  clear hS hS2 hn hn2
  by_cases hne : n = n2
  · subst hne
    have zz : ((n : Int) != (n : Int)) = false := by simp
    go_enter Try.func37, Try.ntmps37
    go_wp2
    go_loopw [13] (fun iv wr => ∃ k : Nat, k ≤ n ∧ iv = .int .i64 (k : Int) ∧ Hid (∀ j, ∀ h1 : j < l.length, ∀ h2 : j < l2.length, j < k → l[j] = l2[j]) ∧ Hid (Below w.heap.size w wr)) (fun iv _ => n - (intOf iv).toNat)
    case atStart => exact ⟨0, Nat.zero_le _, rfl, Lib.hid (fun j _ _ h => absurd h (Nat.not_lt_zero j)), Lib.hid (Below.refl _ _)⟩
    case round =>
      obtain ⟨k, hk, rfl, hsame, hb⟩ := hrel
      by_cases hlt : k < n
      · have hkl : k < l.length := by have := HL.out; omega
        have hkl2 : k < l2.length := by have := HL2.out; omega
        obtain ⟨b, off, rfl, hbl, hit⟩ := (HS.out.below hb.out).at_ hlt hkl
        obtain ⟨b2, off2, rfl, hbl2, hit2⟩ := (HS2.out.below hb.out).at_ hlt hkl2
        obtain ⟨x, hx⟩ : ∃ x, l[k] = x := ⟨_, rfl⟩
        obtain ⟨y, hy⟩ : ∃ y, l2[k] = y := ⟨_, rfl⟩
        rw [hx] at hit
        rw [hy] at hit2
        obtain ⟨c0, c1, c2, c3⟩ := sn_cells hit
        obtain ⟨d0, d1, d2, d3⟩ := sn_cells hit2
        have q1 : (k : Int) < (n : Int) := by omega
        have q0 : (0 : Int) ≤ (k : Int) := by omega
        have ug := sn_guard
        have ue := sn_eq x y
        cases hxy : eqSn x y with
        | true =>
          have HN : Hid (∀ j, ∀ h1 : j < l.length, ∀ h2 : j < l2.length, j < k + 1 → l[j] = l2[j]) := Lib.hid fun j h1 h2 h3 => by
            by_cases e : j < k
            · exact hsame.out j h1 h2 e
            · obtain rfl : j = k := by omega
              rw [hx, hy]
              exact (eqSn_iff x y).1 hxy
          rw [hxy] at ue
          unfold snV at ue
          clear hx hy hit hit2 hxy
          go_wp2
          go_quiet (fail)
          go_wp2
          go_roundw
          case rel => exact ⟨k + 1, by omega, by go_num, HN, Lib.hid (below_drewN hb.out nq)⟩
          case measure => simp [intOf]; omega
        | false =>
          have HN : Hid (l ≠ l2) := Lib.hid fun e => by
            have e2 : x = y := by rw [← hx, ← hy]; subst e; rfl
            rw [(eqSn_iff x y).2 e2] at hxy
            cases hxy
          rw [hxy] at ue
          unfold snV at ue
          clear hx hy hit hit2 hxy
          go_wp2
          go_quiet (fail)
          go_wp2
          go_ret
          exact ⟨false, rfl, ⟨(fun h => by cases h), fun h => absurd h HN.out⟩, below_drewN hb.out nq⟩
      · have HE : Hid (l = l2) := Lib.hid (List.ext_getElem (by rw [HL.out, HL2.out]) fun j h1 h2 => hsame.out j h1 h2 (by have := HL.out; omega))
        go_wp2
        go_ret
        exact ⟨true, rfl, ⟨fun _ => HE.out, fun _ => rfl⟩, hb.out⟩
  · have HN : Hid (l ≠ l2) := Lib.hid fun e => hne (by rw [← HL.out, ← HL2.out, e])
    have zz : ((n : Int) != (n2 : Int)) = true := by rw [bne_iff_ne]; omega
    go_enter Try.func37, Try.ntmps37
    go_wp2
    go_ret
    exact ⟨false, rfl, ⟨(fun h => by cases h), fun h => absurd h HN.out⟩, Below.refl _ _⟩
end Go.Proofs.Ytnobpbbedclbkaa
