import Derived.Test.YtaicipldjmngaaaGreatDoorZj17
import Derived.Test.YtaicipldjmngaaaGreatDoorZj16
import Derived.Test.YtaicipldjmngaaaGreatDoorZj1
namespace Go.Proofs.YtaicipldjmngaaaGreatDoor
structure Fr where
  k : UInt8
  b : List UInt8
theorem Fr.ext' {f g : Fr} (h1 : f.k = g.k) (h2 : f.b = g.b) : f = g := by cases f; cases g; simp_all
instance : DecidableEq Fr := fun f g => if h : f.k = g.k ∧ f.b = g.b then isTrue (Fr.ext' h.1 h.2) else isFalse (fun e => h (by rw [e]; exact ⟨rfl, rfl⟩))
def errF (f : Fr) : Nat := if f.k = 0 then 2 else if 1000 < f.b.length then 3 else 0
def okF (f : Fr) : Prop := f.k ≠ 0 ∧ f.b.length ≤ 1000
theorem okF_iff (f : Fr) : okF f ↔ errF f = 0 := by
  unfold okF errF
  by_cases h : f.k = 0
  · simp [h]
  · by_cases h2 : 1000 < f.b.length
    · simp [h, h2]
    · simp [h, h2]; omega
def headF (f : Fr) : List UInt8 := f.k :: (f.b.length / 256).toUInt8 :: (f.b.length % 256).toUInt8 :: f.b
theorem headF_length (f : Fr) : (headF f).length = f.b.length + 3 := by simp [headF]
def encF (f : Fr) : List UInt8 := sealB (headF f)
theorem encF_length (f : Fr) : (encF f).length = f.b.length + 7 := by
  rw [encF, sealB, List.length_append, headF_length, sumBytes_length]
def encs (fs : List Fr) : List UInt8 := (fs.map encF).flatten
theorem encs_cons (f : Fr) (fs : List Fr) : encs (f :: fs) = encF f ++ encs fs := by simp [encs]
theorem encs_append (fs gs : List Fr) : encs (fs ++ gs) = encs fs ++ encs gs := by simp [encs]
theorem encs_one (f : Fr) : encs [f] = encF f := by simp [encs]
theorem encs_snoc (fs : List Fr) (f : Fr) : encs (fs ++ [f]) = encs fs ++ encF f := by rw [encs_append, encs_one]
def bodyN (l : List UInt8) : Nat := (l.getD 1 0).toNat * 256 + (l.getD 2 0).toNat
def errT (l : List UInt8) : Nat :=
  if l.length < 3 then 30 else if l.getD 0 0 = 0 then 31 else if 1000 < bodyN l then 3 else if l.length < bodyN l + 7 then 30 else if sealedB (l.take (bodyN l + 7)) = true then 0 else 32
def frT (l : List UInt8) : Fr := ⟨l.getD 0 0, (l.drop 3).take (bodyN l)⟩
theorem errT_zero {l : List UInt8} (h : errT l = 0) : 3 ≤ l.length ∧ l.getD 0 0 ≠ 0 ∧ bodyN l ≤ 1000 ∧ bodyN l + 7 ≤ l.length ∧ sealedB (l.take (bodyN l + 7)) = true := by
  unfold errT at h
  split at h
  · cases h
  · split at h
    · cases h
    · split at h
      · cases h
      · split at h
        · cases h
        · split at h
          · refine ⟨by omega, by assumption, by omega, by omega, by assumption⟩
          · cases h
theorem errT_of {l : List UInt8} (h1 : 3 ≤ l.length) (h2 : l.getD 0 0 ≠ 0) (h3 : bodyN l ≤ 1000) (h4 : bodyN l + 7 ≤ l.length) : errT l = if sealedB (l.take (bodyN l + 7)) = true then 0 else 32 := by
  unfold errT
  rw [if_neg (by omega), if_neg h2, if_neg (by omega), if_neg (by omega)]
theorem two_back (b c : UInt8) : ((b.toNat * 256 + c.toNat) / 256).toUInt8 = b ∧ ((b.toNat * 256 + c.toNat) % 256).toUInt8 = c := by
  have hc := c.toNat_lt
  have e1 : (b.toNat * 256 + c.toNat) / 256 = b.toNat := by omega
  have e2 : (b.toNat * 256 + c.toNat) % 256 = c.toNat := by omega
  rw [e1, e2]
  simp
theorem three_parts {l : List UInt8} (h : 3 ≤ l.length) : ∃ a b c t, l = a :: b :: c :: t := by
  match l, h with
  | a :: b :: c :: t, _ => exact ⟨a, b, c, t, rfl⟩
theorem head_three {l : List UInt8} (h : 3 ≤ l.length) : (frT l).k :: (bodyN l / 256).toUInt8 :: (bodyN l % 256).toUInt8 :: (frT l).b = l.take (bodyN l + 3) := by
  obtain ⟨a, b, c, t, rfl⟩ := three_parts h
  obtain ⟨t1, t2⟩ := two_back b c
  have e : bodyN (a :: b :: c :: t) = b.toNat * 256 + c.toNat := rfl
  rw [e, t1, t2]
  simp only [List.take_succ_cons]
  rfl
theorem enc_take {l : List UInt8} (h : errT l = 0) : okF (frT l) ∧ (frT l).b.length = bodyN l ∧ l = encF (frT l) ++ l.drop (bodyN l + 7) := by
  obtain ⟨h1, h2, h3, h4, h5⟩ := errT_zero h
  have hbl : (frT l).b.length = bodyN l := by
    show ((l.drop 3).take (bodyN l)).length = bodyN l
    rw [List.length_take, List.length_drop]; omega
  refine ⟨⟨h2, by rw [hbl]; exact h3⟩, hbl, ?_⟩
  have hh : headF (frT l) = l.take (bodyN l + 3) := by
    rw [headF, hbl]
    exact head_three h1
  have hs : encF (frT l) = l.take (bodyN l + 7) := by
    have hl7 : (l.take (bodyN l + 7)).length = bodyN l + 7 := by rw [List.length_take]; omega
    rw [sealed_seal (by omega), decide_eq_true_eq, hl7, List.take_take, show min (bodyN l + 7 - 4) (bodyN l + 7) = bodyN l + 3 by omega] at h5
    rw [encF, hh, h5]
  rw [hs, List.take_append_drop]
def placeOf (fs : List Fr) (k : Nat) : Nat := (encs (fs.take k)).length
def errE (r : List UInt8) : Nat := if r.length = 0 then 0 else errT r
def errsF : List Fr → Nat
  | [] => 0
  | f :: fs => if errF f ≠ 0 then errF f else errsF fs
theorem errsF_zero {fs : List Fr} : errsF fs = 0 ↔ ∀ f ∈ fs, okF f := by
  induction fs with
  | nil => simp [errsF]
  | cons f fs ih =>
    rw [errsF]
    by_cases h : errF f = 0
    · rw [if_neg (by simp [h]), ih]
      simp [(okF_iff f).2 h]
    · rw [if_pos h]
      constructor
      · intro e; exact absurd e h
      · intro e; exact absurd ((okF_iff f).1 (e f (by simp))) h
theorem errsF_at {fs : List Fr} {k : Nat} (hk : k < fs.length) (h : ∀ j (hj : j < k), errF (fs[j]'(by omega)) = 0) (he : errF fs[k] ≠ 0) : errsF fs = errF fs[k] := by
  induction fs generalizing k with
  | nil => simp at hk
  | cons f fs ih =>
    rw [errsF]
    cases k with
    | zero => rw [if_pos (by simpa using he)]; rfl
    | succ k =>
      have h0 := h 0 (by omega)
      rw [List.getElem_cons_zero] at h0
      rw [if_neg (by simp [h0])]
      simp only [List.getElem_cons_succ] at he ⊢
      exact ih (by simpa using hk) (fun j hj => by have := h (j + 1) (by omega); simpa using this) he
theorem errsF_none {fs : List Fr} (h : ∀ j (hj : j < fs.length), errF fs[j] = 0) : errsF fs = 0 :=
  errsF_zero.2 fun f hf => by obtain ⟨j, hj, rfl⟩ := List.mem_iff_getElem.1 hf; exact (okF_iff _).2 (h j hj)
def errPack (fs : List Fr) : Nat := if errsF fs ≠ 0 then errsF fs else if fs.length = 0 ∨ 32 < fs.length then 5 else if 1400 < (encs fs).length then 5 else 0
def errUn (l : List UInt8) (fs : List Fr) (r : List UInt8) : Nat := if l.length = 0 ∨ 1400 < l.length then 5 else if errE r ≠ 0 then errE r else if 32 < fs.length then 5 else 0
end Go.Proofs.YtaicipldjmngaaaGreatDoor

namespace Go.Proofs.YtaicipldjmngaaaGreatDoor.sp
structure Ms where
  kind : Int
  seq : Nat
  src : Int
  tgt : Int
  rep : Bool
  us : List Up
def _root_.Go.Proofs.YtaicipldjmngaaaGreatDoor.Up.wide (u : Up) : Prop := u.inc < 4294967296
def Ms.wide (m : Ms) : Prop := m.seq < 4294967296 ∧ ∀ u ∈ m.us, u.wide
structure Ms.Ok (m : Ms) : Prop where
  kind : 1 ≤ m.kind ∧ m.kind ≤ 6
  src : 0 ≤ m.src ∧ m.src ≤ 7
  tgt : 0 ≤ m.tgt ∧ m.tgt ≤ 7
  many : m.us.length ≤ 16
  each : ∀ u ∈ m.us, u.right = true
  late : 5 ≤ m.kind → m.seq = 0 ∧ m.tgt = 0
  early : m.kind < 5 → m.us = []
  rep : m.kind ≠ 6 → m.rep = false
  to : m.kind ≠ 1 → m.kind ≠ 3 → m.tgt = 0
open Classical in
noncomputable def Ms.right (m : Ms) : Bool := decide m.Ok
theorem Ms.right_iff (m : Ms) : m.right = true ↔ m.Ok := by unfold Ms.right; simp
def updB (u : Up) : List UInt8 := numB u.node.toNat ++ numB u.inc ++ numB u.st.toNat
def seqB (m : Ms) : List UInt8 := if m.kind < 5 then numB m.seq else []
def tgtB (m : Ms) : List UInt8 := if m.kind = 1 ∨ m.kind = 3 then numB m.tgt.toNat else []
def repB (m : Ms) : List UInt8 := if m.kind = 6 then flagB m.rep else []
def usB (m : Ms) : List UInt8 := if 5 ≤ m.kind then numB m.us.length ++ m.us.flatMap updB else []
def bodyM (m : Ms) : List UInt8 := seqB m ++ (numB m.src.toNat ++ (tgtB m ++ (repB m ++ usB m)))
def upS1 (s : St) : St := (itNum 255).next s
def upS2 (s : St) : St := (itNum 4294967295).next (upS1 s)
def upNext (s : St) : St := (itNum 255).next (upS2 s)
def upOut (s : St) : Up := ⟨((itNum 255).out s : Int), (itNum 4294967295).out (upS1 s), ((itNum 255).out (upS2 s) : Int)⟩
def upsNext : Nat → St → St
  | 0, s => s
  | k + 1, s => upsNext k (upNext s)
def upsOut : Nat → St → List Up
  | 0, _ => []
  | k + 1, s => upOut s :: upsOut k (upNext s)
def rS1 (k : Int) (s : St) : St := if k < 5 then (itNum 4294967295).next s else s
def rS2 (k : Int) (s : St) : St := (itNum 255).next (rS1 k s)
def rS3 (k : Int) (s : St) : St := if k = 1 ∨ k = 3 then (itNum 255).next (rS2 k s) else rS2 k s
def rS4 (k : Int) (s : St) : St := if k = 6 then itFlag.next (rS3 k s) else rS3 k s
def rS5 (k : Int) (s : St) : St := (itNum 16).next (rS4 k s)
def rN (k : Int) (s : St) : Nat := (itNum 16).out (rS4 k s)
def rS6 (k : Int) (s : St) : St := if 5 ≤ k then upsNext (rN k s) (rS5 k s) else rS4 k s
def rM (k : Int) (s : St) : Ms :=
  ⟨k, if k < 5 then (itNum 4294967295).out s else 0, ((itNum 255).out (rS1 k s) : Int), if k = 1 ∨ k = 3 then ((itNum 255).out (rS2 k s) : Int) else 0,
    if k = 6 then itFlag.out (rS3 k s) else false, if 5 ≤ k then upsOut (rN k s) (rS5 k s) else []⟩
noncomputable def errG (k : Int) (b : List UInt8) : Nat :=
  if k < 1 ∨ 6 < k then 31 else if doneS (rS6 k ⟨b, 0⟩) ≠ 0 then doneS (rS6 k ⟨b, 0⟩) else if (rM k ⟨b, 0⟩).right = true then 0 else 2
def frM (m : Ms) : Fr := ⟨m.kind.toNat.toUInt8, bodyM m⟩
theorem kind_back {m : Ms} (h : m.Ok) : ((frM m).k.toNat : Int) = m.kind := by
  have hk := h.kind
  show ((m.kind.toNat.toUInt8).toNat : Int) = m.kind
  simp
  omega
theorem updB_length {u : Up} (hr : u.right = true) (hw : u.wide) : (updB u).length ≤ 27 := by
  have hr' : 0 ≤ u.node ∧ u.node < 8 ∧ (u.st = 0 ∨ u.st = 1 ∨ u.st = 2 ∨ u.st = 3) := by simpa [Up.right] using hr
  obtain ⟨h0, h8, hs⟩ := hr'
  unfold Up.wide at hw
  have h1 := numB_le (n := u.node.toNat) (by omega)
  have h2 := numB_le (n := u.inc) (by omega)
  have h3 := numB_le (n := u.st.toNat) (by omega)
  rw [updB, List.length_append, List.length_append]
  omega
theorem upsB_length : ∀ (l : List Up), (∀ u ∈ l, u.right = true) → (∀ u ∈ l, u.wide) → (l.flatMap updB).length ≤ 27 * l.length
  | [], _, _ => Nat.zero_le _
  | u :: l, hr, hw => by
    have h1 := updB_length (hr u (by simp)) (hw u (by simp))
    have h2 := upsB_length l (fun v hv => hr v (by simp [hv])) fun v hv => hw v (by simp [hv])
    rw [List.flatMap_cons, List.length_append, List.length_cons]
    omega
theorem body_length {m : Ms} (h : m.Ok) (hw : m.wide) : (bodyM m).length ≤ 1000 := by
  obtain ⟨hq, hu⟩ := hw
  have hf := h.src
  have ht := h.tgt
  have hm := h.many
  have a1 : (seqB m).length ≤ 9 := by
    unfold seqB
    split
    · exact numB_le (by omega)
    · simp
  have a2 := numB_le (n := m.src.toNat) (by omega)
  have a3 : (tgtB m).length ≤ 9 := by
    unfold tgtB
    split
    · exact numB_le (by omega)
    · simp
  have a4 : (repB m).length ≤ 9 := by
    unfold repB
    split
    · rw [flagB]; exact numB_le (by cases m.rep <;> simp)
    · simp
  have a5 : (usB m).length ≤ 9 + 27 * 16 := by
    unfold usB
    split
    · have b1 := numB_le (n := m.us.length) (by omega)
      have b2 := upsB_length m.us h.each hu
      rw [List.length_append]
      omega
    · simp
  unfold bodyM
  rw [List.length_append, List.length_append, List.length_append, List.length_append]
  omega
theorem frM_ok {m : Ms} (h : m.Ok) (hw : m.wide) : okF (frM m) := by
  refine ⟨?_, body_length h hw⟩
  intro e
  have hk := h.kind
  have hb := kind_back h
  rw [e] at hb
  have : ((0 : UInt8).toNat : Int) = 0 := rfl
  omega
def msF (f : Fr) : Ms := rM (f.k.toNat : Int) ⟨f.b, 0⟩
noncomputable def errM (f : Fr) : Nat := errG (f.k.toNat : Int) f.b
noncomputable def errsM : List Fr → Nat
  | [] => 0
  | f :: fs => if errM f ≠ 0 then errM f else errsM fs
end Go.Proofs.YtaicipldjmngaaaGreatDoor.sp
