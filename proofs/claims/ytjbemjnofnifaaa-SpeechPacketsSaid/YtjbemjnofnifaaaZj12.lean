/-
  The messages of layer 13 as plain values: which are valid, their bytes, how bytes are read as one, and both ways back. Nothing of any program stands here.
-/
import Derived.Test.YtjbemjnofnifaaaZj7
import Derived.Test.YtjbemjnofnifaaaZj10
import Derived.Test.YtjbemjnofnifaaaZj11
namespace Go.Proofs.Ytjbemjnofnifaaa

/-- A message. -/
structure Ms where
  kind : Int
  seq : Nat
  src : Int
  tgt : Int
  rep : Bool
  us : List Up
def msNone : Ms := ⟨0, 0, 0, 0, false, []⟩
/-- Its numbers are of their kinds. -/
def Up.wide (u : Up) : Prop := u.inc < 4294967296
def Ms.wide (m : Ms) : Prop := m.seq < 4294967296 ∧ ∀ u ∈ m.us, u.wide
/-- Is it one that the document's table has? -/
structure Ms.Ok (m : Ms) : Prop where
  kind : 1 ≤ m.kind ∧ m.kind ≤ 6
  src : 0 ≤ m.src ∧ m.src ≤ 7
  tgt : 0 ≤ m.tgt ∧ m.tgt ≤ 7
  many : m.us.length ≤ 16
  each : ∀ u ∈ m.us, u.right = true
  late : 5 ≤ m.kind → m.seq = 0 ∧ m.tgt = 0
  early : m.kind < 5 → m.us = []
  rep : m.kind ≠ 6 → m.rep = false
  to : m.kind ≠ 1 → m.kind ≠ 3 → m.tgt = 0
open Classical in
noncomputable def Ms.right (m : Ms) : Bool := decide m.Ok
theorem Ms.right_iff (m : Ms) : m.right = true ↔ m.Ok := by unfold Ms.right; simp
/-- An update's bytes, a message's bytes. -/
def updB (u : Up) : List UInt8 := numB u.node.toNat ++ numB u.inc ++ numB u.st.toNat
def seqB (m : Ms) : List UInt8 := if m.kind < 5 then numB m.seq else []
def tgtB (m : Ms) : List UInt8 := if m.kind = 1 ∨ m.kind = 3 then numB m.tgt.toNat else []
def repB (m : Ms) : List UInt8 := if m.kind = 6 then flagB m.rep else []
def usB (m : Ms) : List UInt8 := if 5 ≤ m.kind then numB m.us.length ++ m.us.flatMap updB else []
def bodyM (m : Ms) : List UInt8 := seqB m ++ (numB m.src.toNat ++ (tgtB m ++ (repB m ++ usB m)))
/-- The states that reading goes through. -/
def upS1 (s : St) : St := (itNum 255).next s
def upS2 (s : St) : St := (itNum 4294967295).next (upS1 s)
def upNext (s : St) : St := (itNum 255).next (upS2 s)
def upOut (s : St) : Up := ⟨((itNum 255).out s : Int), (itNum 4294967295).out (upS1 s), ((itNum 255).out (upS2 s) : Int)⟩
def upsNext : Nat → St → St
  | 0, s => s
  | k + 1, s => upsNext k (upNext s)
def upsOut : Nat → St → List Up
  | 0, _ => []
  | k + 1, s => upOut s :: upsOut k (upNext s)
def rS1 (k : Int) (s : St) : St := if k < 5 then (itNum 4294967295).next s else s
def rS2 (k : Int) (s : St) : St := (itNum 255).next (rS1 k s)
def rS3 (k : Int) (s : St) : St := if k = 1 ∨ k = 3 then (itNum 255).next (rS2 k s) else rS2 k s
def rS4 (k : Int) (s : St) : St := if k = 6 then itFlag.next (rS3 k s) else rS3 k s
def rS5 (k : Int) (s : St) : St := (itNum 16).next (rS4 k s)
def rN (k : Int) (s : St) : Nat := (itNum 16).out (rS4 k s)
def rS6 (k : Int) (s : St) : St := if 5 ≤ k then upsNext (rN k s) (rS5 k s) else rS4 k s
def rM (k : Int) (s : St) : Ms :=
  ⟨k, if k < 5 then (itNum 4294967295).out s else 0, ((itNum 255).out (rS1 k s) : Int), if k = 1 ∨ k = 3 then ((itNum 255).out (rS2 k s) : Int) else 0,
    if k = 6 then itFlag.out (rS3 k s) else false, if 5 ≤ k then upsOut (rN k s) (rS5 k s) else []⟩
/-- What is wrong with a frame that is to be a message, and the message. -/
noncomputable def errG (k : Int) (b : List UInt8) : Nat :=
  if k < 1 ∨ 6 < k then 31 else if doneS (rS6 k ⟨b, 0⟩) ≠ 0 then doneS (rS6 k ⟨b, 0⟩) else if (rM k ⟨b, 0⟩).right = true then 0 else 2
def frM (m : Ms) : Fr := ⟨m.kind.toNat.toUInt8, bodyM m⟩

theorem small_num {n : Nat} (h : n < 4294967296) : n < 256 ^ 8 := by omega
/-! ### What is laid is read -/
theorem read_up (u : Up) (hr : u.right = true) (hw : u.wide) (r : List UInt8) : upOut ⟨updB u ++ r, 0⟩ = u ∧ upNext ⟨updB u ++ r, 0⟩ = ⟨r, 0⟩ := by
  have hr' : 0 ≤ u.node ∧ u.node < 8 ∧ (u.st = 0 ∨ u.st = 1 ∨ u.st = 2 ∨ u.st = 3) := by simpa [Up.right] using hr
  obtain ⟨h0, h8, hs⟩ := hr'
  unfold Up.wide at hw
  obtain ⟨a1, a2⟩ := read_num (n := u.node.toNat) (most := 255) (by omega) (by omega) (numB u.inc ++ (numB u.st.toNat ++ r))
  obtain ⟨b1, b2⟩ := read_num (n := u.inc) (most := 4294967295) (by omega) (by omega) (numB u.st.toNat ++ r)
  obtain ⟨c1, c2⟩ := read_num (n := u.st.toNat) (most := 255) (by omega) (by omega) r
  have e : updB u ++ r = numB u.node.toNat ++ (numB u.inc ++ (numB u.st.toNat ++ r)) := by rw [updB, List.append_assoc, List.append_assoc]
  have e1 : upS1 ⟨updB u ++ r, 0⟩ = ⟨numB u.inc ++ (numB u.st.toNat ++ r), 0⟩ := by rw [upS1, e, a2]
  have e2 : upS2 ⟨updB u ++ r, 0⟩ = ⟨numB u.st.toNat ++ r, 0⟩ := by rw [upS2, e1, b2]
  refine ⟨?_, by rw [upNext, e2, c2]⟩
  rw [upOut, e2, e1, e, a1, b1, c1]
  obtain ⟨n, i, s⟩ := u
  simp only [Up.mk.injEq, true_and] at *
  omega
theorem read_ups : ∀ (l : List Up) (r : List UInt8), (∀ u ∈ l, u.right = true) → (∀ u ∈ l, u.wide) → upsOut l.length ⟨l.flatMap updB ++ r, 0⟩ = l ∧ upsNext l.length ⟨l.flatMap updB ++ r, 0⟩ = ⟨r, 0⟩
  | [], _, _, _ => ⟨rfl, rfl⟩
  | u :: l, r, hr, hw => by
    obtain ⟨h1, h2⟩ := read_up u (hr u (by simp)) (hw u (by simp)) (l.flatMap updB ++ r)
    obtain ⟨h3, h4⟩ := read_ups l r (fun v hv => hr v (by simp [hv])) fun v hv => hw v (by simp [hv])
    rw [List.flatMap_cons, List.append_assoc, List.length_cons, upsOut, upsNext, h1, h2, h3, h4]
    exact ⟨rfl, rfl⟩
theorem body_read {m : Ms} (h : m.Ok) (hw : m.wide) : rM m.kind ⟨bodyM m, 0⟩ = m ∧ rS6 m.kind ⟨bodyM m, 0⟩ = ⟨[], 0⟩ := by
  obtain ⟨k, q, f, t, p, l⟩ := m
  obtain ⟨⟨k1, k6⟩, ⟨f0, f7⟩, ⟨t0, t7⟩, hm, he, hl, hE, hp, ht⟩ := h
  obtain ⟨hq, hu⟩ := hw
  simp only at *
  generalize hm' : (⟨k, q, f, t, p, l⟩ : Ms) = m
  have mk : m.kind = k := by rw [← hm']
  have mq : m.seq = q := by rw [← hm']
  have mf : m.src = f := by rw [← hm']
  have mt : m.tgt = t := by rw [← hm']
  have mp : m.rep = p := by rw [← hm']
  have ml : m.us = l := by rw [← hm']
  have e1 : rS1 k ⟨bodyM m, 0⟩ = ⟨numB f.toNat ++ (tgtB m ++ (repB m ++ usB m)), 0⟩ ∧ (if k < 5 then (itNum 4294967295).out ⟨bodyM m, 0⟩ else 0) = q := by
    unfold rS1 bodyM seqB
    rw [mk, mq, mf]
    by_cases c : k < 5
    · rw [if_pos c, if_pos c, if_pos c]
      obtain ⟨a1, a2⟩ := read_num (n := q) (most := 4294967295) (by omega) (by omega) (numB f.toNat ++ (tgtB m ++ (repB m ++ usB m)))
      exact ⟨a2, a1⟩
    · rw [if_neg c, if_neg c, if_neg c]
      exact ⟨by rw [List.nil_append], (hl (by omega)).1.symm⟩
  have e2 : rS2 k ⟨bodyM m, 0⟩ = ⟨tgtB m ++ (repB m ++ usB m), 0⟩ ∧ ((itNum 255).out (rS1 k ⟨bodyM m, 0⟩) : Int) = f := by
    unfold rS2
    rw [e1.1]
    obtain ⟨a1, a2⟩ := read_num (n := f.toNat) (most := 255) (by omega) (by omega) (tgtB m ++ (repB m ++ usB m))
    exact ⟨a2, by rw [a1]; omega⟩
  have e3 : rS3 k ⟨bodyM m, 0⟩ = ⟨repB m ++ usB m, 0⟩ ∧ (if k = 1 ∨ k = 3 then ((itNum 255).out (rS2 k ⟨bodyM m, 0⟩) : Int) else 0) = t := by
    unfold rS3
    rw [e2.1]
    unfold tgtB
    rw [mk, mt]
    by_cases c : k = 1 ∨ k = 3
    · rw [if_pos c, if_pos c, if_pos c]
      obtain ⟨a1, a2⟩ := read_num (n := t.toNat) (most := 255) (by omega) (by omega) (repB m ++ usB m)
      exact ⟨a2, by rw [a1]; omega⟩
    · rw [if_neg c, if_neg c, if_neg c]
      exact ⟨by rw [List.nil_append], (ht (by omega) (by omega)).symm⟩
  have e4 : rS4 k ⟨bodyM m, 0⟩ = ⟨usB m, 0⟩ ∧ (if k = 6 then itFlag.out (rS3 k ⟨bodyM m, 0⟩) else false) = p := by
    unfold rS4
    rw [e3.1]
    unfold repB
    rw [mk, mp]
    by_cases c : k = 6
    · rw [if_pos c, if_pos c, if_pos c]
      obtain ⟨a1, a2⟩ := read_flag p (usB m)
      exact ⟨a2, a1⟩
    · rw [if_neg c, if_neg c, if_neg c]
      exact ⟨by rw [List.nil_append], (hp c).symm⟩
  have e6 : rS6 k ⟨bodyM m, 0⟩ = ⟨[], 0⟩ ∧ (if 5 ≤ k then upsOut (rN k ⟨bodyM m, 0⟩) (rS5 k ⟨bodyM m, 0⟩) else []) = l := by
    unfold rS6 rN rS5
    rw [e4.1]
    unfold usB
    rw [mk, ml]
    by_cases c : 5 ≤ k
    · rw [if_pos c, if_pos c, if_pos c]
      obtain ⟨a1, a2⟩ := read_num (n := l.length) (most := 16) (by omega) (by omega) (l.flatMap updB)
      obtain ⟨b1, b2⟩ := read_ups l [] he hu
      rw [List.append_nil] at b1 b2
      rw [a1, a2]
      exact ⟨b2, b1⟩
    · rw [if_neg c, if_neg c, if_neg c]
      exact ⟨rfl, (hE (by omega)).symm⟩
  refine ⟨?_, e6.1⟩
  unfold rM
  rw [e1.2, e2.2, e3.2, e4.2, e6.2]
  exact hm'
/-! ### What is read was laid -/
theorem laid_up {s : St} (h : (upNext s).e = 0) : s.e = 0 ∧ s.b = updB (upOut s) ++ (upNext s).b ∧ (upOut s).wide := by
  obtain ⟨c0, c1, c2, c3⟩ := laid_num (most := 255) (s := upS2 s) h
  obtain ⟨b0, b1, b2, b3⟩ := laid_num (most := 4294967295) (s := upS1 s) c0
  obtain ⟨a0, a1, a2, a3⟩ := laid_num (most := 255) (s := s) b0
  refine ⟨a0, ?_, ?_⟩
  · have e : updB (upOut s) = numB ((itNum 255).out s) ++ numB ((itNum 4294967295).out (upS1 s)) ++ numB ((itNum 255).out (upS2 s)) := by
      unfold updB upOut
      simp only [Int.toNat_natCast]
    rw [e, List.append_assoc, List.append_assoc]
    exact a1.trans (congrArg _ (b1.trans (congrArg _ c1)))
  · show (itNum 4294967295).out (upS1 s) < 4294967296
    omega
theorem upNext_err {s : St} (h : s.e ≠ 0) : upNext s = s := by
  unfold upNext upS2 upS1
  rw [It.next_err _ h, It.next_err _ h, It.next_err _ h]
theorem upsNext_err : ∀ (k : Nat) {s : St}, s.e ≠ 0 → upsNext k s = s
  | 0, _, _ => rfl
  | k + 1, s, h => by rw [upsNext, upNext_err h, upsNext_err k h]
theorem upsOut_length : ∀ (k : Nat) (s : St), (upsOut k s).length = k
  | 0, _ => rfl
  | k + 1, s => by rw [upsOut, List.length_cons, upsOut_length k]
theorem laid_ups : ∀ (k : Nat) {s : St}, (upsNext k s).e = 0 → s.e = 0 ∧ s.b = (upsOut k s).flatMap updB ++ (upsNext k s).b ∧ ∀ u ∈ upsOut k s, u.wide
  | 0, s, h => ⟨h, rfl, fun u hu => by cases hu⟩
  | k + 1, s, h => by
    obtain ⟨h1, h2, h3⟩ := laid_ups k (s := upNext s) h
    obtain ⟨h4, h5, h6⟩ := laid_up h1
    refine ⟨h4, ?_, ?_⟩
    · rw [upsOut, List.flatMap_cons, List.append_assoc]
      exact h5.trans (congrArg _ h2)
    · intro u hu
      rcases List.mem_cons.1 hu with rfl | hu
      · exact h6
      · exact h3 u hu
theorem doneS_zero {s : St} (h : doneS s = 0) : s.e = 0 ∧ s.b = [] := by
  unfold doneS at h
  by_cases h1 : s.e = 0 ∧ 0 < s.b.length
  · rw [if_pos h1] at h; cases h
  · rw [if_neg h1] at h
    refine ⟨h, ?_⟩
    cases hb : s.b with
    | nil => rfl
    | cons x t => exact absurd ⟨h, by rw [hb]; simp⟩ h1
theorem laid_body {k : Int} {b : List UInt8} (h : errG k b = 0) : 1 ≤ k ∧ k ≤ 6 ∧ (rM k ⟨b, 0⟩).Ok ∧ (rM k ⟨b, 0⟩).wide ∧ bodyM (rM k ⟨b, 0⟩) = b := by
  unfold errG at h
  split at h
  · cases h
  · rename_i hk
    split at h
    · contradiction
    · rename_i hd
      split at h
      · rename_i hr
        have hok := (Ms.right_iff _).1 hr
        obtain ⟨z6, y6⟩ := doneS_zero (s := rS6 k ⟨b, 0⟩) (by simpa using hd)
        have q5 : (rS4 k ⟨b, 0⟩).e = 0 ∧ (rS4 k ⟨b, 0⟩).b = usB (rM k ⟨b, 0⟩) ∧ ∀ u ∈ (rM k ⟨b, 0⟩).us, u.wide := by
          unfold usB rM
          simp only
          unfold rS6 at z6 y6
          by_cases c : 5 ≤ k
          · rw [if_pos c] at z6 y6
            obtain ⟨a1, a2, a3⟩ := laid_ups _ z6
            obtain ⟨b1, b2, b3, b4⟩ := laid_num (most := 16) (s := rS4 k ⟨b, 0⟩) a1
            rw [if_pos c, if_pos c, upsOut_length]
            rw [y6, List.append_nil] at a2
            exact ⟨b1, b2.trans (congrArg _ a2), a3⟩
          · rw [if_neg c] at z6 y6
            rw [if_neg c, if_neg c]
            exact ⟨z6, y6, fun u hu => by cases hu⟩
        have q4 : (rS3 k ⟨b, 0⟩).e = 0 ∧ (rS3 k ⟨b, 0⟩).b = repB (rM k ⟨b, 0⟩) ++ (rS4 k ⟨b, 0⟩).b := by
          have hz := q5.1
          unfold repB rM
          simp only
          unfold rS4 at hz ⊢
          by_cases c : k = 6
          · rw [if_pos c] at hz
            rw [if_pos c, if_pos c, if_pos c]
            exact laid_flag hz
          · rw [if_neg c] at hz
            rw [if_neg c, if_neg c]
            exact ⟨hz, rfl⟩
        have q3 : (rS2 k ⟨b, 0⟩).e = 0 ∧ (rS2 k ⟨b, 0⟩).b = tgtB (rM k ⟨b, 0⟩) ++ (rS3 k ⟨b, 0⟩).b := by
          have hz := q4.1
          unfold tgtB rM
          simp only
          unfold rS3 at hz ⊢
          by_cases c : k = 1 ∨ k = 3
          · rw [if_pos c] at hz
            rw [if_pos c, if_pos c, if_pos c, Int.toNat_natCast]
            obtain ⟨a1, a2, _⟩ := laid_num hz
            exact ⟨a1, a2⟩
          · rw [if_neg c] at hz
            rw [if_neg c, if_neg c]
            exact ⟨hz, rfl⟩
        have q2 : (rS1 k ⟨b, 0⟩).e = 0 ∧ (rS1 k ⟨b, 0⟩).b = numB (rM k ⟨b, 0⟩).src.toNat ++ (rS2 k ⟨b, 0⟩).b := by
          unfold rM
          simp only [Int.toNat_natCast]
          obtain ⟨a1, a2, _⟩ := laid_num (most := 255) (s := rS1 k ⟨b, 0⟩) q3.1
          exact ⟨a1, a2⟩
        have q1 : b = seqB (rM k ⟨b, 0⟩) ++ (rS1 k ⟨b, 0⟩).b ∧ (rM k ⟨b, 0⟩).seq < 4294967296 := by
          have hz := q2.1
          unfold seqB rM
          simp only
          unfold rS1 at hz ⊢
          by_cases c : k < 5
          · rw [if_pos c] at hz
            rw [if_pos c, if_pos c, if_pos c]
            obtain ⟨_, a2, _, a4⟩ := laid_num hz
            exact ⟨a2, by omega⟩
          · rw [if_neg c, if_neg c, if_neg c]
            exact ⟨rfl, by omega⟩
        refine ⟨by omega, by omega, hok, ⟨q1.2, q5.2.2⟩, ?_⟩
        unfold bodyM
        rw [← q5.2.1, ← q4.2, ← q3.2, ← q2.2]
        exact q1.1.symm
      · cases h
/-! ### Frames and packets -/
theorem errG_of {m : Ms} (h : m.Ok) (hw : m.wide) : errG m.kind (bodyM m) = 0 := by
  obtain ⟨h1, h2⟩ := body_read h hw
  have hk := h.kind
  unfold errG
  rw [if_neg (by omega), h2, if_neg (by simp [doneS]), h1, if_pos ((Ms.right_iff m).2 h)]
theorem kind_back {m : Ms} (h : m.Ok) : ((frM m).k.toNat : Int) = m.kind := by
  have hk := h.kind
  show ((m.kind.toNat.toUInt8).toNat : Int) = m.kind
  simp
  omega
/-- Their bytes are few. -/
theorem updB_length {u : Up} (hr : u.right = true) (hw : u.wide) : (updB u).length ≤ 27 := by
  have hr' : 0 ≤ u.node ∧ u.node < 8 ∧ (u.st = 0 ∨ u.st = 1 ∨ u.st = 2 ∨ u.st = 3) := by simpa [Up.right] using hr
  obtain ⟨h0, h8, hs⟩ := hr'
  unfold Up.wide at hw
  have h1 := numB_le (n := u.node.toNat) (by omega)
  have h2 := numB_le (n := u.inc) (by omega)
  have h3 := numB_le (n := u.st.toNat) (by omega)
  rw [updB, List.length_append, List.length_append]
  omega
theorem upsB_length : ∀ (l : List Up), (∀ u ∈ l, u.right = true) → (∀ u ∈ l, u.wide) → (l.flatMap updB).length ≤ 27 * l.length
  | [], _, _ => Nat.zero_le _
  | u :: l, hr, hw => by
    have h1 := updB_length (hr u (by simp)) (hw u (by simp))
    have h2 := upsB_length l (fun v hv => hr v (by simp [hv])) fun v hv => hw v (by simp [hv])
    rw [List.flatMap_cons, List.length_append, List.length_cons]
    omega
theorem body_length {m : Ms} (h : m.Ok) (hw : m.wide) : (bodyM m).length ≤ 1000 := by
  obtain ⟨hq, hu⟩ := hw
  have hf := h.src
  have ht := h.tgt
  have hm := h.many
  have a1 : (seqB m).length ≤ 9 := by
    unfold seqB
    split
    · exact numB_le (by omega)
    · simp
  have a2 := numB_le (n := m.src.toNat) (by omega)
  have a3 : (tgtB m).length ≤ 9 := by
    unfold tgtB
    split
    · exact numB_le (by omega)
    · simp
  have a4 : (repB m).length ≤ 9 := by
    unfold repB
    split
    · rw [flagB]; exact numB_le (by cases m.rep <;> simp)
    · simp
  have a5 : (usB m).length ≤ 9 + 27 * 16 := by
    unfold usB
    split
    · have b1 := numB_le (n := m.us.length) (by omega)
      have b2 := upsB_length m.us h.each hu
      rw [List.length_append]
      omega
    · simp
  unfold bodyM
  rw [List.length_append, List.length_append, List.length_append, List.length_append]
  omega
theorem frM_ok {m : Ms} (h : m.Ok) (hw : m.wide) : okF (frM m) := by
  refine ⟨?_, body_length h hw⟩
  intro e
  have hk := h.kind
  have hb := kind_back h
  rw [e] at hb
  have : ((0 : UInt8).toNat : Int) = 0 := rfl
  omega
/-- The message of a frame; the error of the first frame that has one. -/
def msF (f : Fr) : Ms := rM (f.k.toNat : Int) ⟨f.b, 0⟩
noncomputable def errM (f : Fr) : Nat := errG (f.k.toNat : Int) f.b
noncomputable def errsM : List Fr → Nat
  | [] => 0
  | f :: fs => if errM f ≠ 0 then errM f else errsM fs
theorem errsM_zero {fs : List Fr} : errsM fs = 0 ↔ ∀ f ∈ fs, errM f = 0 := by
  induction fs with
  | nil => simp [errsM]
  | cons f fs ih =>
    rw [errsM]
    by_cases h : errM f = 0
    · rw [if_neg (by simp [h]), ih]
      simp [h]
    · rw [if_pos h]
      exact ⟨fun e => absurd e h, fun e => absurd (e f (by simp)) h⟩
theorem errsM_at {fs : List Fr} {k : Nat} (hk : k < fs.length) (h : ∀ j (hj : j < k), errM (fs[j]'(by omega)) = 0) (he : errM fs[k] ≠ 0) : errsM fs = errM fs[k] := by
  induction fs generalizing k with
  | nil => simp at hk
  | cons f fs ih =>
    rw [errsM]
    cases k with
    | zero => rw [if_pos (by simpa using he)]; rfl
    | succ k =>
      have h0 := h 0 (by omega)
      rw [List.getElem_cons_zero] at h0
      rw [if_neg (by simp [h0])]
      simp only [List.getElem_cons_succ] at he ⊢
      exact ih (by simpa using hk) (fun j hj => by have := h (j + 1) (by omega); simpa using this) he
/-- Back: the frame of a message is the message. -/
theorem frM_back {m : Ms} (h : m.Ok) (hw : m.wide) : errM (frM m) = 0 ∧ msF (frM m) = m := by
  have hk := kind_back h
  have e : (frM m).b = bodyM m := rfl
  unfold errM msF
  rw [hk, e]
  exact ⟨errG_of h hw, (body_read h hw).1⟩
/-- And once: the message of a frame has this frame. -/
theorem msF_back {f : Fr} (h : errM f = 0) : (msF f).Ok ∧ (msF f).wide ∧ frM (msF f) = f := by
  obtain ⟨h1, h2, h3, h4, h5⟩ := laid_body h
  refine ⟨h3, h4, ?_⟩
  have ek : (msF f).kind = (f.k.toNat : Int) := rfl
  refine Fr.ext' ?_ h5
  show (msF f).kind.toNat.toUInt8 = f.k
  rw [ek, Int.toNat_natCast]
  simp
/-- Packets: what is packed is unpacked as it was. -/
theorem packM_back {l : List Ms} (h : ∀ m ∈ l, m.Ok ∧ m.wide) (he : errPack (l.map frM) = 0) :
    Cut (encs (l.map frM)) (l.map frM) [] ∧ errUn (encs (l.map frM)) (l.map frM) [] = 0 ∧ errsM (l.map frM) = 0 ∧ (l.map frM).map msF = l := by
  obtain ⟨h1, h2⟩ := pack_back he
  refine ⟨h1, h2, errsM_zero.2 ?_, ?_⟩
  · intro f hf
    obtain ⟨m, hm, rfl⟩ := List.mem_map.1 hf
    exact (frM_back (h m hm).1 (h m hm).2).1
  · rw [List.map_map]
    exact (List.map_congr_left fun m hm => (frM_back (h m hm).1 (h m hm).2).2).trans (List.map_id l)
/-- And what is unpacked is packed to just these bytes. -/
theorem unM_back {b r : List UInt8} {fs : List Fr} (hc : Cut b fs r) (hu : errUn b fs r = 0) (hm : errsM fs = 0) :
    (∀ m ∈ fs.map msF, m.Ok ∧ m.wide) ∧ (fs.map msF).map frM = fs ∧ errPack ((fs.map msF).map frM) = 0 ∧ encs ((fs.map msF).map frM) = b := by
  have e : (fs.map msF).map frM = fs := by
    rw [List.map_map]
    exact (List.map_congr_left fun f hf => (msF_back (errsM_zero.1 hm f hf)).2.2).trans (List.map_id fs)
  obtain ⟨h1, h2⟩ := un_back hc hu
  refine ⟨?_, e, by rw [e]; exact h1, by rw [e]; exact h2⟩
  intro m hmm
  obtain ⟨f, hf, rfl⟩ := List.mem_map.1 hmm
  exact ⟨(msF_back (errsM_zero.1 hm f hf)).1, (msF_back (errsM_zero.1 hm f hf)).2.1⟩
end Go.Proofs.Ytjbemjnofnifaaa
