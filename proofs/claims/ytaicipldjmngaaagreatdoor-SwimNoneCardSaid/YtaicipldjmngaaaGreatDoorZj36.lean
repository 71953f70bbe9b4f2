import Derived.Test.YtaicipldjmngaaaGreatDoorZj18
import Derived.Test.YtaicipldjmngaaaGreatDoorZj4
import Derived.Test.YtaicipldjmngaaaGreatDoorZj32
import Derived.Test.YtaicipldjmngaaaGreatDoorZj35
namespace Go.Proofs.YtaicipldjmngaaaGreatDoor.sp
open Go.RowKit
set_option linter.unusedSimpArgs false
set_option linter.unusedVariables false
structure Mi where
  kind : Int
  seq : Nat
  src : Int
  tgt : Int
  rep : Bool
  us : Sl Up
def Mi.m (x : Mi) : Ms := ⟨x.kind, x.seq, x.src, x.tgt, x.rep, x.us.l⟩
def miC (x : Mi) : List Value := [.int .i64 x.kind, .int .u32 (x.seq : Int), .int .i64 x.src, .int .i64 x.tgt, .bool x.rep, .slice x.us.A x.us.l.length x.us.c]
def miV (x : Mi) : Value := .agg #[.int .i64 x.kind, .int .u32 (x.seq : Int), .int .i64 x.src, .int .i64 x.tgt, .bool x.rep, .slice x.us.A x.us.l.length x.us.c]
theorem miC_length (x : Mi) : (miC x).length = 6 := rfl
structure UsOk (w : World) (s : Sl Up) : Prop where
  us : SUp w s.A s.l.length s.l
  le : s.l.length ≤ s.c
  max : s.c ≤ maxLen
  nil : s.A = none → s.c = 0
theorem UsOk.below {w w' : World} {s : Sl Up} (h : UsOk w s) (hb : Below w.heap.size w w') : UsOk w' s := ⟨h.us.of_block hb, h.le, h.max, h.nil⟩
theorem UsOk.none (w : World) : UsOk w ⟨none, 0, []⟩ := ⟨SUp.zero _ _, Nat.le_refl _, Nat.zero_le _, fun _ => rfl⟩
def TyU (w : World) (s : Sl Up) : Prop := 0 < s.l.length → ∃ b off cur, s.A = some ⟨b, off, none⟩ ∧ w.heap[b]? = some (.cells cur 63 (0, 0))
theorem TyU.nil (w : World) (A : Option Addr) (c : Nat) : TyU w ⟨A, c, []⟩ := fun h => absurd h (Nat.lt_irrefl _)
theorem TyU.but {S : Nat → Prop} {w w' : World} {s : Sl Up} (h : TyU w s) (hb : But S w w') (hs : ∀ b off, s.A = some ⟨b, off, none⟩ → ¬ S b) : TyU w' s := fun hn => by
  obtain ⟨b, off, cur, e, hh⟩ := h hn
  exact ⟨b, off, cur, e, (hb.block b (block_lt hh) (hs b off e)).trans hh⟩
theorem TyU.below {w w' : World} {s : Sl Up} (h : TyU w s) (hb : Below w.heap.size w w') : TyU w' s := h.but (But.of_below (S := fun _ => False) hb) (fun _ _ _ h => h)
theorem UsOk.grown {w w' : World} {s : Sl Up} {row : Option Nat} (h : UsOk w s) (ht : TyU w s) (hg : w.grownBy w' row) (hr : ∀ r, row = some r → ∀ cur, w.heap[r]? ≠ some (.cells cur 63 (0, 0))) : UsOk w' s ∧ TyU w' s := by
  have hk : 0 < s.l.length → ∃ b off cur, s.A = some ⟨b, off, .none⟩ ∧ w.heap[b]? = some (.cells cur 63 (0, 0)) ∧ w'.heap[b]? = w.heap[b]? := fun hn => by
    obtain ⟨b, off, cur, e, hh⟩ := ht hn
    exact ⟨b, off, cur, e, hh, hg.block b (block_lt hh) (fun e' => hr b e'.symm cur hh)⟩
  refine ⟨⟨⟨h.us.1, fun hn => ?_⟩, h.le, h.max, h.nil⟩, fun hn => ?_⟩
  · obtain ⟨b, off, e, hlt, hc⟩ := h.us.2 hn
    obtain ⟨b', off', cur, e', hh, hk'⟩ := hk hn
    rw [e] at e'
    simp only [Option.some.injEq, Addr.mk.injEq] at e'
    obtain ⟨rfl, rfl, _⟩ := e'
    exact ⟨b, off, e, Nat.lt_of_lt_of_le hlt hg.size, fun j hj => (hc j hj).of_block hk'⟩
  · obtain ⟨b, off, cur, e, hh, hk'⟩ := hk hn
    exact ⟨b, off, cur, e, hk'.trans hh⟩
def Mi.ok (w : World) (x : Mi) : Prop := UsOk w x.us ∧ x.m.wide
theorem Mi.ok.below {w w' : World} {x : Mi} (h : x.ok w) (hb : Below w.heap.size w w') : x.ok w' := ⟨h.1.below hb, h.2⟩
structure Mis (w : World) (A : Option Addr) (n c : Nat) (l : List Mi) : Prop where
  at_ : SK miC 6 w A n l
  ok : ∀ x ∈ l, x.ok w
  le : n ≤ c
  max : c ≤ maxLen
  nil : A = none → c = 0
theorem Mis.below {w w' : World} {A : Option Addr} {n c : Nat} {l : List Mi} (h : Mis w A n c l) (hb : Below w.heap.size w w') : Mis w' A n c l := ⟨h.at_.below hb, fun x hx => (h.ok x hx).below hb, h.le, h.max, h.nil⟩
def miRow (w : World) (base : Nat) (v : Value) (l : List Mi) : Prop := rowK miC 87 6 w base v l ∧ ∀ x ∈ l, x.ok w
theorem Mis.of_row {w : World} {base : Nat} {v : Value} {l : List Mi} (h : miRow w base v l) : ∃ A c, v = .slice A l.length c ∧ Mis w A l.length c l := by
  obtain ⟨A, c, e, h1, h2, h3, _⟩ := SK.of_row miC_length h.1
  refine ⟨A, c, e, h1, h.2, h2, h3, fun hA => ?_⟩
  rcases h.1.2 with ⟨e', _⟩ | ⟨g, cap, cur, e', _⟩
  · rw [e] at e'
    simp only [Value.slice.injEq] at e'
    exact e'.2.2
  · rw [e] at e'
    simp only [Value.slice.injEq] at e'
    rw [hA] at e'
    cases e'.1
theorem msg_info : (Tryz.prog.info? 87).map (fun i => (i.zero, i.size, i.bytes)) = some (some (.agg #[.int .i64 0, .int .u32 0, .int .i64 0, .int .i64 0, .bool false, .slice none 0 0]), 6, 64) := by kernel_rfl
def partsL (k : Int) : List Int := if k = 1 ∨ k = 3 then [0, 1, 2] else if k = 2 ∨ k = 4 then [0, 1] else if k = 5 then [1, 4] else if k = 6 then [1, 3, 4] else []
theorem partsL_le (k : Int) : (partsL k).length ≤ 3 := by unfold partsL; repeat' split
                                                          all_goals simp
def emptyB (m : Ms) (p : Int) : Bool := if p = 0 then decide (m.seq = 0) else if p = 1 then decide (m.src = 0) else if p = 2 then decide (m.tgt = 0) else if p = 3 then !m.rep else decide (m.us.length = 0)
def nodeB (n : Int) : Bool := decide (0 ≤ n ∧ n < 8)
def upsB (l : List Up) : Bool := decide (l.length ≤ 16 ∧ ∀ u ∈ l, u.right = true)
def partB (m : Ms) (p : Int) : Bool := (partsL m.kind).contains p || emptyB m p
theorem right_parts (m : Ms) : m.right = true ↔ (∀ p : Nat, p < 5 → partB m (p : Int) = true) ∧ 0 < (partsL m.kind).length ∧ nodeB m.src = true ∧ nodeB m.tgt = true ∧ upsB m.us = true := by
  rw [Ms.right_iff]
  have h5 : (∀ p : Nat, p < 5 → partB m (p : Int) = true) ↔ (partB m 0 = true ∧ partB m 1 = true ∧ partB m 2 = true ∧ partB m 3 = true ∧ partB m 4 = true) := by
    constructor
    · intro h
      exact ⟨h 0 (by decide), h 1 (by decide), h 2 (by decide), h 3 (by decide), h 4 (by decide)⟩
    · rintro ⟨h0, h1, h2, h3, h4⟩ p hp
      match p, hp with
      | 0, _ => exact h0
      | 1, _ => exact h1
      | 2, _ => exact h2
      | 3, _ => exact h3
      | 4, _ => exact h4
  rw [h5]
  obtain ⟨k, q, f, t, r, l⟩ := m
  have hl0 : l.length = 0 ↔ l = [] := List.length_eq_zero_iff
  have hn : ∀ n : Int, nodeB n = true ↔ 0 ≤ n ∧ n < 8 := fun n => by unfold nodeB; simp
  have hu : upsB l = true ↔ l.length ≤ 16 ∧ ∀ u ∈ l, u.right = true := by unfold upsB; rw [decide_eq_true_iff]
  simp only [hn, hu]
  by_cases c1 : k = 1 ∨ k = 3
  · have e : partsL k = [0, 1, 2] := by unfold partsL; rw [if_pos c1]
    simp only [partB, e, emptyB]
    simp
    constructor
    · rintro ⟨a, b, c, d, e, f, g, i, j⟩
      simp only at *
      exact ⟨⟨i (by omega), g (by omega)⟩, by omega, by omega, d, e⟩
    · rintro ⟨⟨a, b⟩, c, d, e, f⟩
      refine ⟨by simp only; omega, by simp only; omega, by simp only; omega, e, f, by simp only; omega, fun _ => b, fun _ => a, by simp only; omega⟩
  · by_cases c2 : k = 2 ∨ k = 4
    · have e : partsL k = [0, 1] := by unfold partsL; rw [if_neg c1, if_pos c2]
      simp only [partB, e, emptyB]
      simp
      constructor
      · rintro ⟨a, b, c, d, e, f, g, i, j⟩
        simp only at *
        have h1 := i (by omega)
        have h2 := g (by omega)
        have h3 := j (by omega) (by omega)
        exact ⟨⟨h3, h1, h2⟩, by omega, by omega, d, e⟩
      · rintro ⟨⟨t0, a, b⟩, c, d, e, f⟩
        refine ⟨by simp only; omega, by simp only; omega, by simp only; omega, e, f, by simp only; omega, fun _ => b, fun _ => a, fun _ _ => t0⟩
    · by_cases c3 : k = 5
      · have e : partsL k = [1, 4] := by unfold partsL; rw [if_neg c1, if_neg c2, if_pos c3]
        simp only [partB, e, emptyB]
        simp
        constructor
        · rintro ⟨a, b, c, d, e, f, g, i, j⟩
          simp only at *
          have h1 := i (by omega)
          have h2 := f (by omega)
          exact ⟨⟨h2.1, h2.2, h1⟩, by omega, by omega, d, e⟩
        · rintro ⟨⟨q0, t0, r0⟩, c, d, e, f⟩
          refine ⟨by simp only; omega, by simp only; omega, by simp only; omega, e, f, fun _ => ⟨q0, t0⟩, by simp only; omega, fun _ => r0, fun _ _ => t0⟩
      · by_cases c4 : k = 6
        · have e : partsL k = [1, 3, 4] := by unfold partsL; rw [if_neg c1, if_neg c2, if_neg c3, if_pos c4]
          simp only [partB, e, emptyB]
          simp
          constructor
          · rintro ⟨a, b, c, d, e, f, g, i, j⟩
            simp only at *
            have h2 := f (by omega)
            exact ⟨⟨h2.1, h2.2⟩, by omega, by omega, d, e⟩
          · rintro ⟨⟨q0, t0⟩, c, d, e, f⟩
            refine ⟨by simp only; omega, by simp only; omega, by simp only; omega, e, f, fun _ => ⟨q0, t0⟩, by simp only; omega, by simp only; omega, fun _ _ => t0⟩
        · have e : partsL k = [] := by unfold partsL; rw [if_neg c1, if_neg c2, if_neg c3, if_neg c4]
          simp only [partB, e, emptyB]
          simp
          rintro ⟨⟨a, b⟩, _⟩
          simp only at *
          omega
end Go.Proofs.YtaicipldjmngaaaGreatDoor.sp

namespace Go.Proofs.YtaicipldjmngaaaGreatDoor.sp
open Go.RowKit
set_option linter.unusedSimpArgs false
set_option linter.unusedVariables false
structure Parts (w : World) (A : Option Addr) (c : Nat) (l : List Int) : Prop where
  rv : RV w A l.length (l.map (intV .i64))
  le : l.length ≤ c
  max : c ≤ maxLen
theorem Parts.below {w w' : World} {A : Option Addr} {c : Nat} {l : List Int} (h : Parts w A c l) (hb : Below w.heap.size w w') : Parts w' A c l := ⟨h.rv.below hb, h.le, h.max⟩
theorem Parts.but {S : Nat → Prop} {w w' : World} {A : Option Addr} {c : Nat} {l : List Int} (h : Parts w A c l) (hb : But S w w') (hs : ∀ b off, A = some ⟨b, off, none⟩ → ¬ S b) : Parts w' A c l := ⟨h.rv.but hb (fun b off e _ => hs b off e), h.le, h.max⟩
theorem Parts.at_ {w : World} {A : Option Addr} {c : Nat} {l : List Int} (h : Parts w A c l) {k : Nat} (hk : k < l.length) : ∃ b off, A = some ⟨b, off, none⟩ ∧ b < w.heap.size ∧ w.cell? ⟨b, off + k, none⟩ = some (.int .i64 l[k]) := by
  obtain ⟨b, off, e, hlt, hc⟩ := h.rv.at_ hk
  exact ⟨b, off, e, hlt, by rw [hc]; simp [intV]⟩
def PartsPost (k : Int) (w : World) (e : Ending) (w' : World) : Prop := ∃ A c, e = .returned (.slice A (partsL k).length c) ∧ Parts w' A c (partsL k) ∧ Below w.heap.size w w'
def PartsNew (k : Int) (w : World) (e : Ending) (w' : World) : Prop := ∃ A c, e = .returned (.slice A (partsL k).length c) ∧ (Parts w' A c (partsL k) ∧ ∀ b off, A = some ⟨b, off, none⟩ → w.heap.size ≤ b) ∧ Below w.heap.size w w'
theorem partsPost_new {k : Int} {w : World} (l : List Int) (hl : partsL k = l) (h3 : l.length ≤ 3) (T : TypeId) (cs : Array Value) (hcs : cs.toList = l.map (intV .i64)) {e : Ending} (he : e = .returned (.slice (some ⟨w.heap.size, 0, none⟩) l.length l.length)) :
    PartsNew k w e (w.alloc (.cells cs T)) := by
  refine ⟨some ⟨w.heap.size, 0, none⟩, l.length, by rw [hl]; exact he, ⟨?_, fun b off e => by simp only [Option.some.injEq, Addr.mk.injEq] at e; omega⟩, below1 _ _⟩
  rw [hl]
  refine ⟨⟨by simp, fun hn => ⟨_, _, rfl, by simp, fun j hj => ?_⟩⟩, Nat.le_refl _, by unfold maxLen; omega⟩
  rw [cell_of_row _ _ _ _ _ _ (heap_alloc_new w _), Nat.zero_add, ← Array.getElem?_toList, hcs]
  exact List.getElem?_eq_getElem hj
set_option maxHeartbeats 2000000 in
theorem partsOf_new (k : Int) (w : World) : Calls Tryz.prog 102 #[.int .i64 k] w (PartsNew k w) := by
  by_cases c1 : k = 1
  · subst c1
    go_enter Tryz.func102, Tryz.ntmps102
    go_wp2
    go_ret
    exact partsPost_new [0, 1, 2] rfl (by decide) _ _ rfl rfl
  by_cases c3 : k = 3
  · subst c3
    go_enter Tryz.func102, Tryz.ntmps102
    go_wp2
    go_ret
    exact partsPost_new [0, 1, 2] rfl (by decide) _ _ rfl rfl
  by_cases c2 : k = 2
  · subst c2
    go_enter Tryz.func102, Tryz.ntmps102
    go_wp2
    go_ret
    exact partsPost_new [0, 1] rfl (by decide) _ _ rfl rfl
  by_cases c4 : k = 4
  · subst c4
    go_enter Tryz.func102, Tryz.ntmps102
    go_wp2
    go_ret
    exact partsPost_new [0, 1] rfl (by decide) _ _ rfl rfl
  by_cases c5 : k = 5
  · subst c5
    go_enter Tryz.func102, Tryz.ntmps102
    go_wp2
    go_ret
    exact partsPost_new [1, 4] rfl (by decide) _ _ rfl rfl
  by_cases c6 : k = 6
  · subst c6
    go_enter Tryz.func102, Tryz.ntmps102
    go_wp2
    go_ret
    exact partsPost_new [1, 3, 4] rfl (by decide) _ _ rfl rfl
  · have e : partsL k = [] := by unfold partsL; rw [if_neg (by omega), if_neg (by omega), if_neg c5, if_neg c6]
    have HE := Lib.hid e
    have z1 : (k == 1) = false := by rw [beq_eq_false_iff_ne]; exact c1
    have z2 : (k == 2) = false := by rw [beq_eq_false_iff_ne]; exact c2
    have z3 : (k == 3) = false := by rw [beq_eq_false_iff_ne]; exact c3
    have z4 : (k == 4) = false := by rw [beq_eq_false_iff_ne]; exact c4
    have z5 : (k == 5) = false := by rw [beq_eq_false_iff_ne]; exact c5
    have z6 : (k == 6) = false := by rw [beq_eq_false_iff_ne]; exact c6
    clear e c1 c2 c3 c4 c5 c6
    go_enter Tryz.func102, Tryz.ntmps102
    go_wp2
    go_ret
    refine ⟨none, 0, by rw [HE.out]; rfl, ⟨?_, fun _ _ e => by cases e⟩, Below.refl _ _⟩
    rw [HE.out]
    exact ⟨RV.zero _ _, Nat.le_refl _, Nat.zero_le _⟩
theorem partsOf_any (k : Int) (w : World) : Calls Tryz.prog 102 #[.int .i64 k] w (PartsPost k w) :=
  (partsOf_new k w).mono fun _ _ ⟨A, c, h1, h2, h3⟩ => ⟨A, c, h1, h2.1, h3⟩
def idxP (xs : List Int) (x : Int) : Int := if xs.contains x then (xs.idxOf x : Int) else -1
theorem idxP_no {xs : List Int} {x : Int} (h : xs.contains x = false) : idxP xs x = -1 := by unfold idxP; rw [h]; rfl
theorem idxP_at : ∀ {xs : List Int} {x : Int} {k : Nat} (hk : k < xs.length), (xs.take k).contains x = false → xs[k] = x → xs.contains x = true ∧ xs.idxOf x = k
  | y :: ys, x, 0, _, _, e => by
    simp only [List.getElem_cons_zero] at e
    subst e
    simp
  | y :: ys, x, k + 1, hk, h, e => by
    have h1 : (x == y || (ys.take k).contains x) = false := by simpa [List.take_succ_cons, List.contains_cons] using h
    rw [Bool.or_eq_false_iff] at h1
    obtain ⟨i1, i2⟩ := idxP_at (xs := ys) (by simpa using hk) h1.2 (by simpa using e)
    have hne : (y == x) = false := by
      have := h1.1
      rw [beq_eq_false_iff_ne] at this ⊢
      exact fun e => this e.symm
    exact ⟨by rw [List.contains_cons, i1, Bool.or_true], by rw [List.idxOf_cons, hne, cond_false, i2]⟩
theorem contains_snocP {xs : List Int} {x : Int} {k : Nat} (hk : k < xs.length) (h : (xs.take k).contains x = false) (hx : xs[k] ≠ x) : (xs.take (k + 1)).contains x = false := by
  rw [List.take_succ_eq_append_getElem hk]
  simp only [List.contains_eq_mem, List.mem_append, List.mem_singleton, decide_eq_false_iff_not] at h ⊢
  rintro (h' | h')
  · exact h h'
  · exact hx h'.symm
set_option maxHeartbeats 1000000 in
theorem indexP_any (A : Option Addr) (c : Nat) (xs : List Int) (x : Int) (w : World) (h : Parts w A c xs) :
    Calls Tryz.prog 201 #[.slice A xs.length c, .int .i64 x] w fun e w' => e = .returned (.int .i64 (idxP xs x)) ∧ w = w' := by
  have hm : xs.length ≤ maxLen := Nat.le_trans h.le h.max
  unfold maxLen at hm
  have H := Lib.hid h
  clear h
  obtain ⟨n, hn⟩ : ∃ n, xs.length = n := ⟨_, rfl⟩
  rw [hn] at hm ⊢
  have HL := Lib.hid hn
  clear hn
  go_enter Tryz.func201, Tryz.ntmps201
  go_wp2
  go_loop [8] (fun iv => ∃ k : Nat, k ≤ n ∧ iv = .int .i64 (k : Int) ∧ Hid ((xs.take k).contains x = false)) (fun iv => n - (intOf iv).toNat)
  case atStart => exact ⟨0, Nat.zero_le _, rfl, Lib.hid (by simp)⟩
  case round =>
    obtain ⟨k, hk, rfl, hno⟩ := hrel
    by_cases hlt : k < n
    · have hk' : k < xs.length := by rw [HL.out]; exact hlt
      obtain ⟨b, off, rfl, _, hc⟩ := H.out.at_ hk'
      by_cases hx : xs[k] = x
      · have HE : Hid (idxP xs x = (k : Int)) := Lib.hid (by
          obtain ⟨h1, h2⟩ := idxP_at hk' hno.out hx
          unfold idxP
          rw [h1, h2]
          rfl)
        rw [hx] at hc
        clear hx hk'
        go_wp2
        go_ret
        rw [HE.out]
        exact ⟨rfl, rfl⟩
      · have HNo : Hid ((xs.take (k + 1)).contains x = false) := Lib.hid (contains_snocP hk' hno.out hx)
        have hx2 : (x == xs[k]) = false := by rw [beq_eq_false_iff_ne]; exact fun e => hx e.symm
        obtain ⟨y, hy⟩ : ∃ y, xs[k] = y := ⟨_, rfl⟩
        rw [hy] at hc hx2
        clear hx hk' hy
        go_wp2
        go_round
        case rel => exact ⟨k + 1, by omega, by go_num, HNo⟩
        case measure => simp [intOf]; omega
    · obtain rfl : k = n := by omega
      have HE : Hid (idxP xs x = -1) := Lib.hid (idxP_no (by
        have h1 := hno.out
        rw [List.take_of_length_le (by rw [HL.out]; exact Nat.le_refl _)] at h1
        exact h1))
      go_wp2
      go_ret
      rw [HE.out]
      exact ⟨rfl, rfl⟩
theorem idxP_bool (xs : List Int) (x : Int) : (xs.contains x = true ∧ 0 ≤ idxP xs x) ∨ (xs.contains x = false ∧ idxP xs x = -1) := by
  cases h : xs.contains x with
  | false => exact .inr ⟨rfl, idxP_no h⟩
  | true => exact .inl ⟨rfl, by unfold idxP; rw [h]; simp⟩
theorem containsP_any (A : Option Addr) (c : Nat) (xs : List Int) (x : Int) (w : World) (h : Parts w A c xs) :
    Calls Tryz.prog 146 #[.slice A xs.length c, .int .i64 x] w fun e w' => e = .returned (.bool (xs.contains x)) ∧ w = w' := by
  have s1 := indexP_any A c xs x w h
  obtain ⟨b, hb⟩ : ∃ b, xs.contains x = b := ⟨_, rfl⟩
  have hc := idxP_bool xs x
  rw [hb] at hc ⊢
  obtain ⟨z, hz⟩ : ∃ z, idxP xs x = z := ⟨_, rfl⟩
  obtain ⟨n, hn⟩ : ∃ n, xs.length = n := ⟨_, rfl⟩
  rw [hz] at s1 hc
  rw [hn] at s1 ⊢
  have S1 := Lib.hid s1
  clear s1 h hb hz hn
  rcases hc with ⟨rfl, h1⟩ | ⟨rfl, rfl⟩
  all_goals
    go_enter Tryz.func146, Tryz.ntmps146
    go_wp2_with fail
    refine S1.out.mono ?_
    rintro e w' ⟨rfl, rfl⟩
    go_wp2
    go_ret
    exact ⟨rfl, rfl⟩
theorem empty_any (x : Mi) (p : Nat) (hp : p < 5) (w : World) (r : Bool) (hr : emptyB x.m (p : Int) = r) :
    Calls Tryz.prog 147 #[miV x, .int .i64 (p : Int)] w fun e w' => e = .returned (.bool r) ∧ Below w.heap.size w w' := by
  obtain ⟨k, q, f, t, rp, A, c, l⟩ := x
  unfold miV
  simp only
  obtain ⟨n, hn⟩ : ∃ n, l.length = n := ⟨_, rfl⟩
  have e0 : emptyB (Mi.m ⟨k, q, f, t, rp, A, c, l⟩) 0 = decide (q = 0) := rfl
  have e1 : emptyB (Mi.m ⟨k, q, f, t, rp, A, c, l⟩) 1 = decide (f = 0) := rfl
  have e2 : emptyB (Mi.m ⟨k, q, f, t, rp, A, c, l⟩) 2 = decide (t = 0) := rfl
  have e3 : emptyB (Mi.m ⟨k, q, f, t, rp, A, c, l⟩) 3 = !rp := rfl
  have e4 : emptyB (Mi.m ⟨k, q, f, t, rp, A, c, l⟩) 4 = decide (n = 0) := by rw [← hn]; rfl
  rw [hn]
  have k0 : (0 : Int) ≤ (p : Int) := by omega
  match p, hp with
  | 0, _ =>
    have HR := Lib.hid (e0.symm.trans hr)
    clear e0 e1 e2 e3 e4 hr hn
    go_enter Tryz.func147, Tryz.ntmps147
    go_wp2
    go_ret
    refine ⟨ret_bool ?_, below1 _ _⟩
    rw [← HR.out, Bool.eq_iff_iff]; simp
  | 1, _ =>
    have HR := Lib.hid (e1.symm.trans hr)
    clear e0 e1 e2 e3 e4 hr hn
    go_enter Tryz.func147, Tryz.ntmps147
    go_wp2
    go_ret
    refine ⟨ret_bool ?_, below1 _ _⟩
    rw [← HR.out, Bool.eq_iff_iff]; simp
  | 2, _ =>
    have HR := Lib.hid (e2.symm.trans hr)
    clear e0 e1 e2 e3 e4 hr hn
    go_enter Tryz.func147, Tryz.ntmps147
    go_wp2
    go_ret
    refine ⟨ret_bool ?_, below1 _ _⟩
    rw [← HR.out, Bool.eq_iff_iff]; simp
  | 3, _ =>
    have HR := Lib.hid (e3.symm.trans hr)
    clear e0 e1 e2 e3 e4 hr hn
    go_enter Tryz.func147, Tryz.ntmps147
    go_wp2
    go_ret
    refine ⟨ret_bool ?_, below1 _ _⟩
    rw [← HR.out]
  | 4, _ =>
    have HR := Lib.hid (e4.symm.trans hr)
    clear e0 e1 e2 e3 e4 hr hn
    go_enter Tryz.func147, Tryz.ntmps147
    go_wp2
    go_ret
    refine ⟨ret_bool ?_, below1 _ _⟩
    rw [← HR.out, Bool.eq_iff_iff]; simp
theorem isNode_any (n : Int) (w : World) (r : Bool) (hr : nodeB n = r) :
    Calls Tryz.prog 148 #[.int .i64 n] w fun e w' => e = .returned (.bool r) ∧ w = w' := by
  have HR := Lib.hid hr
  clear hr
  go_enter Tryz.func148, Tryz.ntmps148
  go_wp2
  all_goals go_ret
  all_goals refine ⟨ret_bool ?_, rfl⟩
  all_goals (rw [← HR.out, Bool.eq_iff_iff]; unfold nodeB; simp_all <;> omega)
theorem wrong_any (u : Up) (w : World) (r : Bool) (hr : (!u.right) = r) :
    Calls Tryz.prog 202 #[upV u] w fun e w' => e = .returned (.bool r) ∧ Below w.heap.size w w' := by
  unfold upV
  obtain ⟨q, hq⟩ : ∃ q, u.right = q := ⟨_, rfl⟩
  obtain rfl : (!q) = r := by rw [← hq]; exact hr
  have s1 := pright_any u (w.alloc (.cells #[.int .i64 u.node, .int .u32 (u.inc : Int), .int .i64 u.st] 63)) q hq
  have S1 := Lib.hid s1
  clear hr hq s1
  go_enter Tryz.func202, Tryz.ntmps202
  go_wp2_with fail
  refine S1.out.mono ?_
  rintro e w1 ⟨rfl, hb⟩
  have HB : Hid (Below w.heap.size w w1) := Lib.hid ((below1 w _).trans (hb.mono (by simp)))
  clear hb
  go_wp2
  go_ret
  exact ⟨rfl, HB.out⟩
def FoundU (l : List Up) (r : Int) : Prop := (r = -1 ∧ ∀ u ∈ l, u.right = true) ∨ (0 ≤ r ∧ ¬ ∀ u ∈ l, u.right = true)
set_option maxHeartbeats 4000000 in
theorem indexU_any (w : World) (A : Option Addr) (n c : Nat) (l : List Up) (h : SUp w A n l) (hn : n ≤ maxLen) :
    Calls Tryz.prog 232 #[.slice A n c, .func (.func 202) #[] #[]] w fun e w' => (∃ r, e = .returned (.int .i64 r) ∧ FoundU l r) ∧ Below w.heap.size w w' := by
  unfold maxLen at hn
  have HL := Lib.hid h.1
  have HS := Lib.hid h
  clear h
  go_enter Tryz.func232, Tryz.ntmps232
  go_wp2
  go_loopw [8] (fun kv wr => ∃ k : Nat, kv = .int .i64 (k : Int) ∧ k ≤ n ∧ Hid (∀ u ∈ l.take k, u.right = true) ∧ Hid (Below w.heap.size w wr)) (fun kv _ => n - (RowKit.intOf kv).toNat)
  case atStart => exact ⟨0, rfl, Nat.zero_le _, Lib.hid (fun x hx => by simp at hx), Lib.hid (Below.refl _ _)⟩
  case round =>
    obtain ⟨k, rfl, hk, hno, hbe⟩ := hrel
    by_cases hlt : k < n
    · have hkl : k < l.length := by rw [HL.out]; exact hlt
      obtain ⟨b, off, rfl, hbl, hc0, hc1, hc2⟩ := (HS.out.of_block hbe.out).at_ hlt hkl
      obtain ⟨u, hu⟩ : ∃ u, l[k] = u := ⟨_, rfl⟩
      rw [hu] at hc0 hc1 hc2
      have HU := Lib.hid hu
      clear hu
      have q2 : (k : Int) < (n : Int) := by omega
      have q0 : (0 : Int) ≤ (k : Int) := by omega
      cases hr : u.right with
      | true =>
        have HR := Lib.hid hr
        have S1 := Lib.hid (wrong_any u wr false (by rw [hr]; rfl))
        clear hr
        unfold upV at S1
        go_wp2_with fail
        refine S1.out.mono ?_
        rintro e w' ⟨rfl, hb⟩
        have hbe2 := Lib.hid (hbe.out.trans (hb.mono hbe.out.size))
        clear hb
        go_wp2
        go_roundw
        case rel => exact ⟨k + 1, by go_num, by omega, Lib.hid (by
          rw [List.take_succ_eq_append_getElem hkl, HU.out]
          intro y hy
          rcases List.mem_append.1 hy with hy | hy
          · exact hno.out y hy
          · obtain rfl := List.mem_singleton.1 hy
            exact HR.out), hbe2⟩
        case measure => simp [RowKit.intOf]; omega
      | false =>
        have HR := Lib.hid hr
        have S1 := Lib.hid (wrong_any u wr true (by rw [hr]; rfl))
        clear hr
        unfold upV at S1
        go_wp2_with fail
        refine S1.out.mono ?_
        rintro e w' ⟨rfl, hb⟩
        have hbe2 := Lib.hid (hbe.out.trans (hb.mono hbe.out.size))
        clear hb
        go_wp2
        go_ret
        refine ⟨⟨_, rfl, .inr ⟨q0, fun h => ?_⟩⟩, hbe2.out⟩
        have h1 := h l[k] (List.getElem_mem _)
        rw [HU.out, HR.out] at h1
        cases h1
    · obtain rfl : k = n := by omega
      have h1 := hno.out
      rw [List.take_of_length_le (by rw [HL.out]; exact Nat.le_refl _)] at h1
      have H1 := Lib.hid h1
      clear h1
      go_wp2
      go_ret
      exact ⟨⟨_, rfl, .inl ⟨rfl, H1.out⟩⟩, hbe.out⟩
theorem containsU_any (w : World) (A : Option Addr) (n c : Nat) (l : List Up) (h : SUp w A n l) (hn : n ≤ maxLen) (r : Bool) (hr : decide (∀ u ∈ l, u.right = true) = !r) :
    Calls Tryz.prog 203 #[.slice A n c, .func (.func 202) #[] #[]] w fun e w' => e = .returned (.bool r) ∧ Below w.heap.size w w' := by
  have S1 := Lib.hid (indexU_any w A n c l h hn)
  have HR := Lib.hid hr
  clear h hr hn
  go_enter Tryz.func203, Tryz.ntmps203
  go_wp2_with fail
  refine S1.out.mono ?_
  rintro e w1 ⟨⟨z, rfl, hf⟩, hb⟩
  have HB := Lib.hid hb
  have HF := Lib.hid hf
  clear hb hf
  rcases HF.out with ⟨rfl, h1⟩ | ⟨h0, h1⟩
  · have H1 := Lib.hid h1
    clear h1
    go_wp2
    go_ret
    refine ⟨ret_bool ?_, HB.out⟩
    have h2 := HR.out
    rw [decide_eq_true H1.out] at h2
    simpa using h2
  · have H1 := Lib.hid h1
    clear h1
    go_wp2
    go_ret
    refine ⟨ret_bool ?_, HB.out⟩
    have h2 := HR.out
    rw [decide_eq_false H1.out] at h2
    simpa using h2
theorem areUpdates_any (w : World) (s : Sl Up) (h : UsOk w s) (r : Bool) (hr : upsB s.l = r) :
    Calls Tryz.prog 149 #[.slice s.A s.l.length s.c] w fun e w' => e = .returned (.bool r) ∧ Below w.heap.size w w' := by
  have hm : s.l.length ≤ maxLen := Nat.le_trans h.le h.max
  obtain ⟨A, c, l⟩ := s
  simp only at *
  obtain ⟨q, hq⟩ : ∃ q : Bool, decide (∀ u ∈ l, u.right = true) = !q := ⟨!decide (∀ u ∈ l, u.right = true), by simp⟩
  have S1 := Lib.hid (containsU_any w A l.length c l h.us hm q hq)
  have hr' : r = (decide (l.length ≤ 16) && !q) := by
    rw [← hr, ← hq]
    unfold upsB
    rw [Bool.decide_and]
  obtain ⟨n, hn⟩ : ∃ n, l.length = n := ⟨_, rfl⟩
  rw [hn] at S1 hm hr' ⊢
  unfold maxLen at hm
  clear h hr hq hn
  by_cases h16 : n ≤ 16
  · have q1 : (n : Int) ≤ 16 := by omega
    obtain rfl : r = !q := by rw [hr', decide_eq_true h16]; rfl
    clear hr'
    go_enter Tryz.func149, Tryz.ntmps149
    go_wp2_with fail
    refine S1.out.mono ?_
    rintro e w1 ⟨rfl, hb⟩
    have HB := Lib.hid hb
    clear hb
    go_wp2
    go_ret
    exact ⟨rfl, HB.out⟩
  · have q1 : (16 : Int) < (n : Int) := by omega
    obtain rfl : r = false := by rw [hr', decide_eq_false h16]; rfl
    clear hr'
    go_enter Tryz.func149, Tryz.ntmps149
    go_wp2
    go_ret
    exact ⟨rfl, Below.refl _ _⟩
end Go.Proofs.YtaicipldjmngaaaGreatDoor.sp

namespace Go.Proofs.YtaicipldjmngaaaGreatDoor.sp
open Go.RowKit
set_option linter.unusedSimpArgs false
set_option linter.unusedVariables false
theorem blk6 {W : World} {X : Nat} {a b c d e f : Value} {t : TypeId} (h : W.heap[X]? = some (.cells #[a, b, c, d, e, f] t (0, 0))) :
    W.cell? ⟨X, 0, none⟩ = some a ∧ W.cell? ⟨X, 1, none⟩ = some b ∧ W.cell? ⟨X, 2, none⟩ = some c ∧ W.cell? ⟨X, 3, none⟩ = some d ∧ W.cell? ⟨X, 4, none⟩ = some e ∧ W.cell? ⟨X, 5, none⟩ = some f := by
  refine ⟨?_, ?_, ?_, ?_, ?_, ?_⟩ <;> (rw [cell_of_row _ _ _ _ _ _ h]; rfl)
def MiB (w : World) (B : Nat) (x : Mi) : Prop := w.heap[B]? = some (.cells #[.int .i64 x.kind, .int .u32 (x.seq : Int), .int .i64 x.src, .int .i64 x.tgt, .bool x.rep, .slice x.us.A x.us.l.length x.us.c] 87 (0, 0))
theorem MiB.lt {w : World} {B : Nat} {x : Mi} (h : MiB w B x) : B < w.heap.size := block_lt h
theorem MiB.below {w w' : World} {B : Nat} {x : Mi} (h : MiB w B x) (hb : Below w.heap.size w w') : MiB w' B x := (hb.block B h.lt).trans h
theorem MiB.new (w : World) (x : Mi) : MiB (w.alloc (.cells #[.int .i64 x.kind, .int .u32 (x.seq : Int), .int .i64 x.src, .int .i64 x.tgt, .bool x.rep, .slice x.us.A x.us.l.length x.us.c] 87)) w.heap.size x := heap_alloc_new w _
theorem MiB.cells {w : World} {B : Nat} {x : Mi} (h : MiB w B x) : w.cell? ⟨B, 0, none⟩ = some (.int .i64 x.kind) ∧ w.cell? ⟨B, 1, none⟩ = some (.int .u32 (x.seq : Int)) ∧ w.cell? ⟨B, 2, none⟩ = some (.int .i64 x.src) ∧ w.cell? ⟨B, 3, none⟩ = some (.int .i64 x.tgt) ∧ w.cell? ⟨B, 4, none⟩ = some (.bool x.rep) ∧ w.cell? ⟨B, 5, none⟩ = some (.slice x.us.A x.us.l.length x.us.c) := blk6 h
theorem partB_true {m : Ms} {p : Int} (h : (partsL m.kind).contains p = true) : partB m p = true := by unfold partB; rw [h]; rfl
theorem partB_false {m : Ms} {p : Int} (h : (partsL m.kind).contains p = false) : partB m p = emptyB m p := by unfold partB; rw [h]; rfl
set_option maxHeartbeats 4000000 in
theorem right_any (x : Mi) (w : World) (h : UsOk w x.us) (r : Bool) (hr : x.m.right = r) :
    Calls Tryz.prog 101 #[miV x] w fun e w' => e = .returned (.bool r) ∧ Below w.heap.size w w' := by
  have HR := Lib.hid hr
  have HU := Lib.hid h
  have ek : x.m.kind = x.kind := rfl
  have HEk := Lib.hid ek
  obtain ⟨B, hB⟩ : ∃ B, w.heap.size = B := ⟨_, rfl⟩
  have HB := Lib.hid hB
  unfold miV
  clear hr h ek hB
  go_enter Tryz.func101, Tryz.ntmps101
  go_wp2_with fail
  refine (partsOf_any x.kind _).mono ?_
  rintro e w1 ⟨A, c, rfl, hp, hb⟩
  have HM : Hid (MiB w1 B x) := Lib.hid (by have := (MiB.new w x).below hb; rwa [HB.out] at this)
  have HW : Hid (Below w.heap.size w w1) := Lib.hid ((below1 w _).trans (hb.mono (by simp)))
  have HP := Lib.hid hp
  rw [HB.out]
  clear hp hb
  have hl3 := partsL_le x.kind
  go_wp2
  go_loopw [8] (fun kv wr => ∃ k : Nat, kv = .int .i64 (k : Int) ∧ k ≤ 5 ∧ Hid (∀ p : Nat, p < k → partB x.m (p : Int) = true) ∧ Hid (Below w1.heap.size w1 wr)) (fun kv _ => 5 - (RowKit.intOf kv).toNat)
  case atStart => exact ⟨0, rfl, Nat.zero_le _, Lib.hid (fun p hp => absurd hp (Nat.not_lt_zero _)), Lib.hid (Below.refl _ _)⟩
  case round =>
    obtain ⟨k, rfl, hk, hno, hbe⟩ := hrel
    obtain ⟨c0, c1, c2, c3, c4, c5⟩ := (HM.out.below hbe.out).cells
    by_cases hlt : k < 5
    · have q2 : (k : Int) < 5 := by omega
      have q0 : (0 : Int) ≤ (k : Int) := by omega
      have S1 := Lib.hid (containsP_any A c (partsL x.kind) (k : Int) wr (HP.out.below hbe.out))
      cases hcon : (partsL x.kind).contains (k : Int) with
      | true =>
        rw [hcon] at S1
        have HT : Hid (∀ p : Nat, p < k + 1 → partB x.m (p : Int) = true) := Lib.hid (fun p hp => by
          by_cases hpk : p < k
          · exact hno.out p hpk
          · obtain rfl : p = k := by omega
            exact partB_true (by rw [HEk.out]; exact hcon))
        clear hcon
        go_wp2_with fail
        refine S1.out.mono ?_
        rintro e w2 ⟨rfl, rfl⟩
        go_wp2
        go_roundw
        case rel => exact ⟨k + 1, by go_num, by omega, HT, hbe⟩
        case measure => simp [RowKit.intOf]; omega
      | false =>
        rw [hcon] at S1
        have HC := Lib.hid hcon
        clear hcon
        cases hem : emptyB x.m (k : Int) with
        | true =>
          have S2 := Lib.hid (empty_any x k hlt wr true hem)
          unfold miV at S2
          have HT : Hid (∀ p : Nat, p < k + 1 → partB x.m (p : Int) = true) := Lib.hid (fun p hp => by
            by_cases hpk : p < k
            · exact hno.out p hpk
            · obtain rfl : p = k := by omega
              rw [partB_false (by rw [HEk.out]; exact HC.out)]
              exact hem)
          clear hem
          go_wp2_with fail
          refine S1.out.mono ?_
          rintro e w2 ⟨rfl, rfl⟩
          go_wp2_with fail
          refine S2.out.mono ?_
          rintro e w3 ⟨rfl, hb⟩
          have HB3 := Lib.hid (hbe.out.trans (hb.mono hbe.out.size))
          clear hb
          go_wp2
          go_roundw
          case rel => exact ⟨k + 1, by go_num, by omega, HT, HB3⟩
          case measure => simp [RowKit.intOf]; omega
        | false =>
          have S2 := Lib.hid (empty_any x k hlt wr false hem)
          unfold miV at S2
          obtain rfl : r = false := by
            rw [← HR.out]
            cases hq : x.m.right with
            | false => rfl
            | true =>
              have h1 := ((right_parts x.m).1 hq).1 k hlt
              rw [partB_false (by rw [HEk.out]; exact HC.out), hem] at h1
              cases h1
          clear hem
          go_wp2_with fail
          refine S1.out.mono ?_
          rintro e w2 ⟨rfl, rfl⟩
          go_wp2_with fail
          refine S2.out.mono ?_
          rintro e w3 ⟨rfl, hb⟩
          have HB3 := Lib.hid (hbe.out.trans (hb.mono hbe.out.size))
          clear hb
          go_wp2
          go_ret
          exact ⟨rfl, HW.out.trans (HB3.out.mono HW.out.size)⟩
    · obtain rfl : k = 5 := by omega
      have HBE : Hid (Below w.heap.size w wr) := Lib.hid (HW.out.trans (hbe.out.mono HW.out.size))
      have HI : Hid (r = true ↔ 0 < (partsL x.kind).length ∧ nodeB x.src = true ∧ nodeB x.tgt = true ∧ upsB x.us.l = true) := Lib.hid (by
        rw [← HR.out, right_parts]
        exact ⟨fun h => h.2, fun h => ⟨hno.out, h⟩⟩)
      have HUr : Hid (UsOk wr x.us) := Lib.hid (HU.out.below HBE.out)
      obtain ⟨n, hn⟩ : ∃ n, (partsL x.kind).length = n := ⟨_, rfl⟩
      rw [hn] at HI hl3 ⊢
      clear hn
      by_cases h0 : 0 < n
      · have z0 : (0 : Int) < (n : Int) := by omega
        cases h1 : nodeB x.src with
        | false =>
          have S1 := Lib.hid (fun W => isNode_any x.src W false h1)
          obtain rfl : r = false := by
            cases r with
            | false => rfl
            | true => have := (HI.out.1 rfl).2.1; rw [h1] at this; cases this
          clear h1
          go_wp2_with fail
          refine (S1.out _).mono ?_
          rintro e w2 ⟨rfl, rfl⟩
          go_wp2
          go_ret
          exact ⟨rfl, HBE.out⟩
        | true =>
          have S1 := Lib.hid (fun W => isNode_any x.src W true h1)
          cases h2 : nodeB x.tgt with
          | false =>
            have S2 := Lib.hid (fun W => isNode_any x.tgt W false h2)
            obtain rfl : r = false := by
              cases r with
              | false => rfl
              | true => have := (HI.out.1 rfl).2.2.1; rw [h2] at this; cases this
            clear h1 h2
            go_wp2_with fail
            refine (S1.out _).mono ?_
            rintro e w2 ⟨rfl, rfl⟩
            go_wp2_with fail
            refine (S2.out _).mono ?_
            rintro e w2 ⟨rfl, rfl⟩
            go_wp2
            go_ret
            exact ⟨rfl, HBE.out⟩
          | true =>
            have S2 := Lib.hid (fun W => isNode_any x.tgt W true h2)
            cases h3 : upsB x.us.l with
            | false =>
              have S3 := Lib.hid (areUpdates_any wr x.us HUr.out false h3)
              obtain rfl : r = false := by
                cases r with
                | false => rfl
                | true => have := (HI.out.1 rfl).2.2.2; rw [h3] at this; cases this
              clear h1 h2 h3
              go_wp2_with fail
              refine (S1.out _).mono ?_
              rintro e w2 ⟨rfl, rfl⟩
              go_wp2_with fail
              refine (S2.out _).mono ?_
              rintro e w2 ⟨rfl, rfl⟩
              go_wp2_with fail
              refine S3.out.mono ?_
              rintro e w3 ⟨rfl, hb⟩
              have HB3 := Lib.hid (HBE.out.trans (hb.mono HBE.out.size))
              clear hb
              go_wp2
              go_ret
              exact ⟨rfl, HB3.out⟩
            | true =>
              have S3 := Lib.hid (areUpdates_any wr x.us HUr.out true h3)
              obtain rfl : r = true := HI.out.2 ⟨h0, h1, h2, h3⟩
              clear h1 h2 h3
              go_wp2_with fail
              refine (S1.out _).mono ?_
              rintro e w2 ⟨rfl, rfl⟩
              go_wp2_with fail
              refine (S2.out _).mono ?_
              rintro e w2 ⟨rfl, rfl⟩
              go_wp2_with fail
              refine S3.out.mono ?_
              rintro e w3 ⟨rfl, hb⟩
              have HB3 := Lib.hid (HBE.out.trans (hb.mono HBE.out.size))
              clear hb
              go_wp2
              go_ret
              exact ⟨rfl, HB3.out⟩
      · obtain rfl : n = 0 := by omega
        obtain rfl : r = false := by
          cases r with
          | false => rfl
          | true => exact absurd (HI.out.1 rfl).1 h0
        go_wp2
        go_ret
        exact ⟨rfl, HBE.out⟩
end Go.Proofs.YtaicipldjmngaaaGreatDoor.sp

namespace Go.Proofs.YtaicipldjmngaaaGreatDoor.sp
open Go.RowKit
set_option linter.unusedSimpArgs false
set_option linter.unusedVariables false
end Go.Proofs.YtaicipldjmngaaaGreatDoor.sp
