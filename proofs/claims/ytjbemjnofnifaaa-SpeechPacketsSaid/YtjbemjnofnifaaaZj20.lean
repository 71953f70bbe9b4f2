/-
  partsOf, Index, Contains, empty, isNode, areUpdates and Right of the program, walked (layer 13).
-/
import Derived.Test.YtjbemjnofnifaaaZj18
import Derived.Test.YtjbemjnofnifaaaZj19
namespace Go.Proofs.Ytjbemjnofnifaaa
open Go.RowKit
set_option linter.unusedSimpArgs false
set_option linter.unusedVariables false

/-- A list of parts in memory. -/
structure Parts (w : World) (A : Option Addr) (c : Nat) (l : List Int) : Prop where
  rv : RV w A l.length (l.map (intV .i64))
  le : l.length ≤ c
  max : c ≤ maxLen
theorem Parts.below {w w' : World} {A : Option Addr} {c : Nat} {l : List Int} (h : Parts w A c l) (hb : Below w.heap.size w w') : Parts w' A c l := ⟨h.rv.below hb, h.le, h.max⟩
theorem Parts.but {S : Nat → Prop} {w w' : World} {A : Option Addr} {c : Nat} {l : List Int} (h : Parts w A c l) (hb : But S w w') (hs : ∀ b off, A = some ⟨b, off, none⟩ → ¬ S b) : Parts w' A c l := ⟨h.rv.but hb (fun b off e _ => hs b off e), h.le, h.max⟩
theorem Parts.at_ {w : World} {A : Option Addr} {c : Nat} {l : List Int} (h : Parts w A c l) {k : Nat} (hk : k < l.length) : ∃ b off, A = some ⟨b, off, none⟩ ∧ b < w.heap.size ∧ w.cell? ⟨b, off + k, none⟩ = some (.int .i64 l[k]) := by
  obtain ⟨b, off, e, hlt, hc⟩ := h.rv.at_ hk
  exact ⟨b, off, e, hlt, by rw [hc]; simp [intV]⟩
def PartsPost (k : Int) (w : World) (e : Ending) (w' : World) : Prop := ∃ A c, e = .returned (.slice A (partsL k).length c) ∧ Parts w' A c (partsL k) ∧ Below w.heap.size w w'
/-- The same, and the list is new. -/
def PartsNew (k : Int) (w : World) (e : Ending) (w' : World) : Prop := ∃ A c, e = .returned (.slice A (partsL k).length c) ∧ (Parts w' A c (partsL k) ∧ ∀ b off, A = some ⟨b, off, none⟩ → w.heap.size ≤ b) ∧ Below w.heap.size w w'
theorem partsPost_new {k : Int} {w : World} (l : List Int) (hl : partsL k = l) (h3 : l.length ≤ 3) (T : TypeId) (cs : Array Value) (hcs : cs.toList = l.map (intV .i64)) {e : Ending} (he : e = .returned (.slice (some ⟨w.heap.size, 0, none⟩) l.length l.length)) :
    PartsNew k w e (w.alloc (.cells cs T)) := by
  refine ⟨some ⟨w.heap.size, 0, none⟩, l.length, by rw [hl]; exact he, ⟨?_, fun b off e => by simp only [Option.some.injEq, Addr.mk.injEq] at e; omega⟩, below1 _ _⟩
  rw [hl]
  refine ⟨⟨by simp, fun hn => ⟨_, _, rfl, by simp, fun j hj => ?_⟩⟩, Nat.le_refl _, by unfold maxLen; omega⟩
  rw [cell_of_row _ _ _ _ _ _ (heap_alloc_new w _), Nat.zero_add, ← Array.getElem?_toList, hcs]
  exact List.getElem?_eq_getElem hj
set_option maxHeartbeats 2000000 in
theorem partsOf_new (k : Int) (w : World) : Calls Try.prog 23 #[.int .i64 k] w (PartsNew k w) := by
  by_cases c1 : k = 1
  · subst c1
    go_enter Try.func23, Try.ntmps23
    go_wp2
    go_ret
    exact partsPost_new [0, 1, 2] rfl (by decide) _ _ rfl rfl
  by_cases c3 : k = 3
  · subst c3
    go_enter Try.func23, Try.ntmps23
    go_wp2
    go_ret
    exact partsPost_new [0, 1, 2] rfl (by decide) _ _ rfl rfl
  by_cases c2 : k = 2
  · subst c2
    go_enter Try.func23, Try.ntmps23
    go_wp2
    go_ret
    exact partsPost_new [0, 1] rfl (by decide) _ _ rfl rfl
  by_cases c4 : k = 4
  · subst c4
    go_enter Try.func23, Try.ntmps23
    go_wp2
    go_ret
    exact partsPost_new [0, 1] rfl (by decide) _ _ rfl rfl
  by_cases c5 : k = 5
  · subst c5
    go_enter Try.func23, Try.ntmps23
    go_wp2
    go_ret
    exact partsPost_new [1, 4] rfl (by decide) _ _ rfl rfl
  by_cases c6 : k = 6
  · subst c6
    go_enter Try.func23, Try.ntmps23
    go_wp2
    go_ret
    exact partsPost_new [1, 3, 4] rfl (by decide) _ _ rfl rfl
  · have e : partsL k = [] := by unfold partsL; rw [if_neg (by omega), if_neg (by omega), if_neg c5, if_neg c6]
    have HE := Lib.hid e
    have z1 : (k == 1) = false := by rw [beq_eq_false_iff_ne]; exact c1
    have z2 : (k == 2) = false := by rw [beq_eq_false_iff_ne]; exact c2
    have z3 : (k == 3) = false := by rw [beq_eq_false_iff_ne]; exact c3
    have z4 : (k == 4) = false := by rw [beq_eq_false_iff_ne]; exact c4
    have z5 : (k == 5) = false := by rw [beq_eq_false_iff_ne]; exact c5
    have z6 : (k == 6) = false := by rw [beq_eq_false_iff_ne]; exact c6
    clear e c1 c2 c3 c4 c5 c6
    go_enter Try.func23, Try.ntmps23
    go_wp2
    go_ret
    refine ⟨none, 0, by rw [HE.out]; rfl, ⟨?_, fun _ _ e => by cases e⟩, Below.refl _ _⟩
    rw [HE.out]
    exact ⟨RV.zero _ _, Nat.le_refl _, Nat.zero_le _⟩
theorem partsOf_any (k : Int) (w : World) : Calls Try.prog 23 #[.int .i64 k] w (PartsPost k w) :=
  (partsOf_new k w).mono fun _ _ ⟨A, c, h1, h2, h3⟩ => ⟨A, c, h1, h2.1, h3⟩
/-! ### Contains -/
def idxP (xs : List Int) (x : Int) : Int := if xs.contains x then (xs.idxOf x : Int) else -1
theorem idxP_no {xs : List Int} {x : Int} (h : xs.contains x = false) : idxP xs x = -1 := by unfold idxP; rw [h]; rfl
theorem idxP_at : ∀ {xs : List Int} {x : Int} {k : Nat} (hk : k < xs.length), (xs.take k).contains x = false → xs[k] = x → xs.contains x = true ∧ xs.idxOf x = k
  | y :: ys, x, 0, _, _, e => by
    simp only [List.getElem_cons_zero] at e
    subst e
    simp
  | y :: ys, x, k + 1, hk, h, e => by
    have h1 : (x == y || (ys.take k).contains x) = false := by simpa [List.take_succ_cons, List.contains_cons] using h
    rw [Bool.or_eq_false_iff] at h1
    obtain ⟨i1, i2⟩ := idxP_at (xs := ys) (by simpa using hk) h1.2 (by simpa using e)
    have hne : (y == x) = false := by
      have := h1.1
      rw [beq_eq_false_iff_ne] at this ⊢
      exact fun e => this e.symm
    exact ⟨by rw [List.contains_cons, i1, Bool.or_true], by rw [List.idxOf_cons, hne, cond_false, i2]⟩
theorem contains_snocP {xs : List Int} {x : Int} {k : Nat} (hk : k < xs.length) (h : (xs.take k).contains x = false) (hx : xs[k] ≠ x) : (xs.take (k + 1)).contains x = false := by
  rw [List.take_succ_eq_append_getElem hk]
  simp only [List.contains_eq_mem, List.mem_append, List.mem_singleton, decide_eq_false_iff_not] at h ⊢
  rintro (h' | h')
  · exact h h'
  · exact hx h'.symm
set_option maxHeartbeats 1000000 in
theorem indexP_any (A : Option Addr) (c : Nat) (xs : List Int) (x : Int) (w : World) (h : Parts w A c xs) :
    Calls Try.prog 45 #[.slice A xs.length c, .int .i64 x] w fun e w' => e = .returned (.int .i64 (idxP xs x)) ∧ w = w' := by
  have hm : xs.length ≤ maxLen := Nat.le_trans h.le h.max
  unfold maxLen at hm
  have H := Lib.hid h
  clear h
  obtain ⟨n, hn⟩ : ∃ n, xs.length = n := ⟨_, rfl⟩
  rw [hn] at hm ⊢
  have HL := Lib.hid hn
  clear hn
  go_enter Try.func45, Try.ntmps45
  go_wp2
  go_loop [8] (fun iv => ∃ k : Nat, k ≤ n ∧ iv = .int .i64 (k : Int) ∧ Hid ((xs.take k).contains x = false)) (fun iv => n - (intOf iv).toNat)
  case atStart => exact ⟨0, Nat.zero_le _, rfl, Lib.hid (by simp)⟩
  case round =>
    obtain ⟨k, hk, rfl, hno⟩ := hrel
    by_cases hlt : k < n
    · have hk' : k < xs.length := by rw [HL.out]; exact hlt
      obtain ⟨b, off, rfl, _, hc⟩ := H.out.at_ hk'
      by_cases hx : xs[k] = x
      · have HE : Hid (idxP xs x = (k : Int)) := Lib.hid (by
          obtain ⟨h1, h2⟩ := idxP_at hk' hno.out hx
          unfold idxP
          rw [h1, h2]
          rfl)
        rw [hx] at hc
        clear hx hk'
        go_wp2
        go_ret
        rw [HE.out]
        exact ⟨rfl, rfl⟩
      · have HNo : Hid ((xs.take (k + 1)).contains x = false) := Lib.hid (contains_snocP hk' hno.out hx)
        have hx2 : (x == xs[k]) = false := by rw [beq_eq_false_iff_ne]; exact fun e => hx e.symm
        obtain ⟨y, hy⟩ : ∃ y, xs[k] = y := ⟨_, rfl⟩
        rw [hy] at hc hx2
        clear hx hk' hy
        go_wp2
        go_round
        case rel => exact ⟨k + 1, by omega, by go_num, HNo⟩
        case measure => simp [intOf]; omega
    · obtain rfl : k = n := by omega
      have HE : Hid (idxP xs x = -1) := Lib.hid (idxP_no (by
        have h1 := hno.out
        rw [List.take_of_length_le (by rw [HL.out]; exact Nat.le_refl _)] at h1
        exact h1))
      go_wp2
      go_ret
      rw [HE.out]
      exact ⟨rfl, rfl⟩
theorem idxP_bool (xs : List Int) (x : Int) : (xs.contains x = true ∧ 0 ≤ idxP xs x) ∨ (xs.contains x = false ∧ idxP xs x = -1) := by
  cases h : xs.contains x with
  | false => exact .inr ⟨rfl, idxP_no h⟩
  | true => exact .inl ⟨rfl, by unfold idxP; rw [h]; simp⟩
theorem containsP_any (A : Option Addr) (c : Nat) (xs : List Int) (x : Int) (w : World) (h : Parts w A c xs) :
    Calls Try.prog 25 #[.slice A xs.length c, .int .i64 x] w fun e w' => e = .returned (.bool (xs.contains x)) ∧ w = w' := by
  have s1 := indexP_any A c xs x w h
  obtain ⟨b, hb⟩ : ∃ b, xs.contains x = b := ⟨_, rfl⟩
  have hc := idxP_bool xs x
  rw [hb] at hc ⊢
  obtain ⟨z, hz⟩ : ∃ z, idxP xs x = z := ⟨_, rfl⟩
  obtain ⟨n, hn⟩ : ∃ n, xs.length = n := ⟨_, rfl⟩
  rw [hz] at s1 hc
  rw [hn] at s1 ⊢
  have S1 := Lib.hid s1
  clear s1 h hb hz hn
  rcases hc with ⟨rfl, h1⟩ | ⟨rfl, rfl⟩
  all_goals
    go_enter Try.func25, Try.ntmps25
    go_wp2_with fail
    refine S1.out.mono ?_
    rintro e w' ⟨rfl, rfl⟩
    go_wp2
    go_ret
    exact ⟨rfl, rfl⟩
/-! ### The other questions -/
theorem empty_any (x : Mi) (p : Nat) (hp : p < 5) (w : World) (r : Bool) (hr : emptyB x.m (p : Int) = r) :
    Calls Try.prog 26 #[miV x, .int .i64 (p : Int)] w fun e w' => e = .returned (.bool r) ∧ Below w.heap.size w w' := by
  obtain ⟨k, q, f, t, rp, A, c, l⟩ := x
  unfold miV
  simp only
  obtain ⟨n, hn⟩ : ∃ n, l.length = n := ⟨_, rfl⟩
  have e0 : emptyB (Mi.m ⟨k, q, f, t, rp, A, c, l⟩) 0 = decide (q = 0) := rfl
  have e1 : emptyB (Mi.m ⟨k, q, f, t, rp, A, c, l⟩) 1 = decide (f = 0) := rfl
  have e2 : emptyB (Mi.m ⟨k, q, f, t, rp, A, c, l⟩) 2 = decide (t = 0) := rfl
  have e3 : emptyB (Mi.m ⟨k, q, f, t, rp, A, c, l⟩) 3 = !rp := rfl
  have e4 : emptyB (Mi.m ⟨k, q, f, t, rp, A, c, l⟩) 4 = decide (n = 0) := by rw [← hn]; rfl
  rw [hn]
  have k0 : (0 : Int) ≤ (p : Int) := by omega
  match p, hp with
  | 0, _ =>
    have HR := Lib.hid (e0.symm.trans hr)
    clear e0 e1 e2 e3 e4 hr hn
    go_enter Try.func26, Try.ntmps26
    go_wp2
    go_ret
    refine ⟨ret_bool ?_, below1 _ _⟩
    rw [← HR.out, Bool.eq_iff_iff]; simp
  | 1, _ =>
    have HR := Lib.hid (e1.symm.trans hr)
    clear e0 e1 e2 e3 e4 hr hn
    go_enter Try.func26, Try.ntmps26
    go_wp2
    go_ret
    refine ⟨ret_bool ?_, below1 _ _⟩
    rw [← HR.out, Bool.eq_iff_iff]; simp
  | 2, _ =>
    have HR := Lib.hid (e2.symm.trans hr)
    clear e0 e1 e2 e3 e4 hr hn
    go_enter Try.func26, Try.ntmps26
    go_wp2
    go_ret
    refine ⟨ret_bool ?_, below1 _ _⟩
    rw [← HR.out, Bool.eq_iff_iff]; simp
  | 3, _ =>
    have HR := Lib.hid (e3.symm.trans hr)
    clear e0 e1 e2 e3 e4 hr hn
    go_enter Try.func26, Try.ntmps26
    go_wp2
    go_ret
    refine ⟨ret_bool ?_, below1 _ _⟩
    rw [← HR.out]
  | 4, _ =>
    have HR := Lib.hid (e4.symm.trans hr)
    clear e0 e1 e2 e3 e4 hr hn
    go_enter Try.func26, Try.ntmps26
    go_wp2
    go_ret
    refine ⟨ret_bool ?_, below1 _ _⟩
    rw [← HR.out, Bool.eq_iff_iff]; simp
theorem isNode_any (n : Int) (w : World) (r : Bool) (hr : nodeB n = r) :
    Calls Try.prog 27 #[.int .i64 n] w fun e w' => e = .returned (.bool r) ∧ w = w' := by
  have HR := Lib.hid hr
  clear hr
  go_enter Try.func27, Try.ntmps27
  go_wp2
  all_goals go_ret
  all_goals refine ⟨ret_bool ?_, rfl⟩
  all_goals (rw [← HR.out, Bool.eq_iff_iff]; unfold nodeB; simp_all <;> omega)
theorem wrong_any (u : Up) (w : World) (r : Bool) (hr : (!u.right) = r) :
    Calls Try.prog 46 #[upV u] w fun e w' => e = .returned (.bool r) ∧ Below w.heap.size w w' := by
  unfold upV
  obtain ⟨q, hq⟩ : ∃ q, u.right = q := ⟨_, rfl⟩
  obtain rfl : (!q) = r := by rw [← hq]; exact hr
  have s1 := pright_any u (w.alloc (.cells #[.int .i64 u.node, .int .u32 (u.inc : Int), .int .i64 u.st] 66)) q hq
  have S1 := Lib.hid s1
  clear hr hq s1
  go_enter Try.func46, Try.ntmps46
  go_wp2_with fail
  refine S1.out.mono ?_
  rintro e w1 ⟨rfl, hb⟩
  have HB : Hid (Below w.heap.size w w1) := Lib.hid ((below1 w _).trans (hb.mono (by simp)))
  clear hb
  go_wp2
  go_ret
  exact ⟨rfl, HB.out⟩
/-! ### IndexFunc, ContainsFunc -/
def FoundU (l : List Up) (r : Int) : Prop := (r = -1 ∧ ∀ u ∈ l, u.right = true) ∨ (0 ≤ r ∧ ¬ ∀ u ∈ l, u.right = true)
set_option maxHeartbeats 4000000 in
theorem indexU_any (w : World) (A : Option Addr) (n c : Nat) (l : List Up) (h : SUp w A n l) (hn : n ≤ maxLen) :
    Calls Try.prog 67 #[.slice A n c, .func (.func 46) #[] #[]] w fun e w' => (∃ r, e = .returned (.int .i64 r) ∧ FoundU l r) ∧ Below w.heap.size w w' := by
  unfold maxLen at hn
  have HL := Lib.hid h.1
  have HS := Lib.hid h
  clear h
  go_enter Try.func67, Try.ntmps67
  go_wp2
  go_loopw [8] (fun kv wr => ∃ k : Nat, kv = .int .i64 (k : Int) ∧ k ≤ n ∧ Hid (∀ u ∈ l.take k, u.right = true) ∧ Hid (Below w.heap.size w wr)) (fun kv _ => n - (RowKit.intOf kv).toNat)
  case atStart => exact ⟨0, rfl, Nat.zero_le _, Lib.hid (fun x hx => by simp at hx), Lib.hid (Below.refl _ _)⟩
  case round =>
    obtain ⟨k, rfl, hk, hno, hbe⟩ := hrel
    by_cases hlt : k < n
    · have hkl : k < l.length := by rw [HL.out]; exact hlt
      obtain ⟨b, off, rfl, hbl, hc0, hc1, hc2⟩ := (HS.out.of_block hbe.out).at_ hlt hkl
      obtain ⟨u, hu⟩ : ∃ u, l[k] = u := ⟨_, rfl⟩
      rw [hu] at hc0 hc1 hc2
      have HU := Lib.hid hu
      clear hu
      have q2 : (k : Int) < (n : Int) := by omega
      have q0 : (0 : Int) ≤ (k : Int) := by omega
      cases hr : u.right with
      | true =>
        have HR := Lib.hid hr
        have S1 := Lib.hid (wrong_any u wr false (by rw [hr]; rfl))
        clear hr
        unfold upV at S1
        go_wp2_with fail
        refine S1.out.mono ?_
        rintro e w' ⟨rfl, hb⟩
        have hbe2 := Lib.hid (hbe.out.trans (hb.mono hbe.out.size))
        clear hb
        go_wp2
        go_roundw
        case rel => exact ⟨k + 1, by go_num, by omega, Lib.hid (by
          rw [List.take_succ_eq_append_getElem hkl, HU.out]
          intro y hy
          rcases List.mem_append.1 hy with hy | hy
          · exact hno.out y hy
          · obtain rfl := List.mem_singleton.1 hy
            exact HR.out), hbe2⟩
        case measure => simp [RowKit.intOf]; omega
      | false =>
        have HR := Lib.hid hr
        have S1 := Lib.hid (wrong_any u wr true (by rw [hr]; rfl))
        clear hr
        unfold upV at S1
        go_wp2_with fail
        refine S1.out.mono ?_
        rintro e w' ⟨rfl, hb⟩
        have hbe2 := Lib.hid (hbe.out.trans (hb.mono hbe.out.size))
        clear hb
        go_wp2
        go_ret
        refine ⟨⟨_, rfl, .inr ⟨q0, fun h => ?_⟩⟩, hbe2.out⟩
        have h1 := h l[k] (List.getElem_mem _)
        rw [HU.out, HR.out] at h1
        cases h1
    · obtain rfl : k = n := by omega
      have h1 := hno.out
      rw [List.take_of_length_le (by rw [HL.out]; exact Nat.le_refl _)] at h1
      have H1 := Lib.hid h1
      clear h1
      go_wp2
      go_ret
      exact ⟨⟨_, rfl, .inl ⟨rfl, H1.out⟩⟩, hbe.out⟩
theorem containsU_any (w : World) (A : Option Addr) (n c : Nat) (l : List Up) (h : SUp w A n l) (hn : n ≤ maxLen) (r : Bool) (hr : decide (∀ u ∈ l, u.right = true) = !r) :
    Calls Try.prog 48 #[.slice A n c, .func (.func 46) #[] #[]] w fun e w' => e = .returned (.bool r) ∧ Below w.heap.size w w' := by
  have S1 := Lib.hid (indexU_any w A n c l h hn)
  have HR := Lib.hid hr
  clear h hr hn
  go_enter Try.func48, Try.ntmps48
  go_wp2_with fail
  refine S1.out.mono ?_
  rintro e w1 ⟨⟨z, rfl, hf⟩, hb⟩
  have HB := Lib.hid hb
  have HF := Lib.hid hf
  clear hb hf
  rcases HF.out with ⟨rfl, h1⟩ | ⟨h0, h1⟩
  · have H1 := Lib.hid h1
    clear h1
    go_wp2
    go_ret
    refine ⟨ret_bool ?_, HB.out⟩
    have h2 := HR.out
    rw [decide_eq_true H1.out] at h2
    simpa using h2
  · have H1 := Lib.hid h1
    clear h1
    go_wp2
    go_ret
    refine ⟨ret_bool ?_, HB.out⟩
    have h2 := HR.out
    rw [decide_eq_false H1.out] at h2
    simpa using h2
theorem areUpdates_any (w : World) (s : Sl Up) (h : UsOk w s) (r : Bool) (hr : upsB s.l = r) :
    Calls Try.prog 28 #[.slice s.A s.l.length s.c] w fun e w' => e = .returned (.bool r) ∧ Below w.heap.size w w' := by
  have hm : s.l.length ≤ maxLen := Nat.le_trans h.le h.max
  obtain ⟨A, c, l⟩ := s
  simp only at *
  obtain ⟨q, hq⟩ : ∃ q : Bool, decide (∀ u ∈ l, u.right = true) = !q := ⟨!decide (∀ u ∈ l, u.right = true), by simp⟩
  have S1 := Lib.hid (containsU_any w A l.length c l h.us hm q hq)
  have hr' : r = (decide (l.length ≤ 16) && !q) := by
    rw [← hr, ← hq]
    unfold upsB
    rw [Bool.decide_and]
  obtain ⟨n, hn⟩ : ∃ n, l.length = n := ⟨_, rfl⟩
  rw [hn] at S1 hm hr' ⊢
  unfold maxLen at hm
  clear h hr hq hn
  by_cases h16 : n ≤ 16
  · have q1 : (n : Int) ≤ 16 := by omega
    obtain rfl : r = !q := by rw [hr', decide_eq_true h16]; rfl
    clear hr'
    go_enter Try.func28, Try.ntmps28
    go_wp2_with fail
    refine S1.out.mono ?_
    rintro e w1 ⟨rfl, hb⟩
    have HB := Lib.hid hb
    clear hb
    go_wp2
    go_ret
    exact ⟨rfl, HB.out⟩
  · have q1 : (16 : Int) < (n : Int) := by omega
    obtain rfl : r = false := by rw [hr', decide_eq_false h16]; rfl
    clear hr'
    go_enter Try.func28, Try.ntmps28
    go_wp2
    go_ret
    exact ⟨rfl, Below.refl _ _⟩
end Go.Proofs.Ytjbemjnofnifaaa
