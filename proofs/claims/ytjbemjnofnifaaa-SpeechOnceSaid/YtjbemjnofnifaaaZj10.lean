/-
  Plain lemmas on frames as rows of bytes (layer 3): what a frame's bytes are, with which frame bytes begin, all frames of bytes, torn and spoilt ones. Nothing of any program stands here.
-/
import Derived.Test.YtjbemjnofnifaaaZj9
namespace Go.Proofs.Ytjbemjnofnifaaa

structure Fr where
  k : UInt8
  b : List UInt8
theorem Fr.ext' {f g : Fr} (h1 : f.k = g.k) (h2 : f.b = g.b) : f = g := by cases f; cases g; simp_all
instance : DecidableEq Fr := fun f g => if h : f.k = g.k ∧ f.b = g.b then isTrue (Fr.ext' h.1 h.2) else isFalse (fun e => h (by rw [e]; exact ⟨rfl, rfl⟩))

/-- Why a frame may not be; 0: it may. -/
def errF (f : Fr) : Nat := if f.k = 0 then 2 else if 1000 < f.b.length then 3 else 0
def okF (f : Fr) : Prop := f.k ≠ 0 ∧ f.b.length ≤ 1000
theorem okF_iff (f : Fr) : okF f ↔ errF f = 0 := by
  unfold okF errF
  by_cases h : f.k = 0
  · simp [h]
  · by_cases h2 : 1000 < f.b.length
    · simp [h, h2]
    · simp [h, h2]; omega
theorem errF_cases (f : Fr) : errF f = 0 ∨ errF f = 2 ∨ errF f = 3 := by
  unfold errF; split
  · exact .inr (.inl rfl)
  · split
    · exact .inr (.inr rfl)
    · exact .inl rfl

def headF (f : Fr) : List UInt8 := f.k :: (f.b.length / 256).toUInt8 :: (f.b.length % 256).toUInt8 :: f.b
theorem headF_length (f : Fr) : (headF f).length = f.b.length + 3 := by simp [headF]
/-- A frame's bytes. -/
def encF (f : Fr) : List UInt8 := sealB (headF f)
theorem encF_length (f : Fr) : (encF f).length = f.b.length + 7 := by
  rw [encF, sealB, List.length_append, headF_length, sumBytes_length]
def encs (fs : List Fr) : List UInt8 := (fs.map encF).flatten
theorem encs_nil : encs [] = [] := rfl
theorem encs_cons (f : Fr) (fs : List Fr) : encs (f :: fs) = encF f ++ encs fs := by simp [encs]
theorem encs_append (fs gs : List Fr) : encs (fs ++ gs) = encs fs ++ encs gs := by simp [encs]
theorem encs_one (f : Fr) : encs [f] = encF f := by simp [encs]
theorem encs_snoc (fs : List Fr) (f : Fr) : encs (fs ++ [f]) = encs fs ++ encF f := by rw [encs_append, encs_one]
theorem encs_length_le (fs : List Fr) : 7 * fs.length ≤ (encs fs).length := by
  induction fs with
  | nil => simp
  | cons f fs ih => rw [encs_cons, List.length_append, encF_length, List.length_cons]; omega

/-! ### With which frame bytes begin -/
def bodyN (l : List UInt8) : Nat := (l.getD 1 0).toNat * 256 + (l.getD 2 0).toNat
def errT (l : List UInt8) : Nat :=
  if l.length < 3 then 30 else if l.getD 0 0 = 0 then 31 else if 1000 < bodyN l then 3 else if l.length < bodyN l + 7 then 30 else if sealedB (l.take (bodyN l + 7)) = true then 0 else 32
def frT (l : List UInt8) : Fr := ⟨l.getD 0 0, (l.drop 3).take (bodyN l)⟩
theorem errT_nil : errT [] = 30 := rfl
theorem errT_cases (l : List UInt8) : errT l = 0 ∨ errT l = 3 ∨ errT l = 30 ∨ errT l = 31 ∨ errT l = 32 := by
  unfold errT
  split
  · simp
  · split
    · simp
    · split
      · simp
      · split
        · simp
        · split <;> simp
theorem errT_zero {l : List UInt8} (h : errT l = 0) : 3 ≤ l.length ∧ l.getD 0 0 ≠ 0 ∧ bodyN l ≤ 1000 ∧ bodyN l + 7 ≤ l.length ∧ sealedB (l.take (bodyN l + 7)) = true := by
  unfold errT at h
  split at h
  · cases h
  · split at h
    · cases h
    · split at h
      · cases h
      · split at h
        · cases h
        · split at h
          · refine ⟨by omega, by assumption, by omega, by omega, by assumption⟩
          · cases h
theorem errT_of {l : List UInt8} (h1 : 3 ≤ l.length) (h2 : l.getD 0 0 ≠ 0) (h3 : bodyN l ≤ 1000) (h4 : bodyN l + 7 ≤ l.length) : errT l = if sealedB (l.take (bodyN l + 7)) = true then 0 else 32 := by
  unfold errT
  rw [if_neg (by omega), if_neg h2, if_neg (by omega), if_neg (by omega)]
/-- The head's two bytes are the length. -/
theorem two_bytes {n : Nat} (h : n ≤ 1000) : ((n / 256).toUInt8).toNat * 256 + ((n % 256).toUInt8).toNat = n := by
  rw [toU8 (by omega), toU8 (by omega)]; omega
theorem two_back (b c : UInt8) : ((b.toNat * 256 + c.toNat) / 256).toUInt8 = b ∧ ((b.toNat * 256 + c.toNat) % 256).toUInt8 = c := by
  have hc := c.toNat_lt
  have e1 : (b.toNat * 256 + c.toNat) / 256 = b.toNat := by omega
  have e2 : (b.toNat * 256 + c.toNat) % 256 = c.toNat := by omega
  rw [e1, e2]
  simp
theorem encF_parts (f : Fr) (r : List UInt8) : encF f ++ r = f.k :: (f.b.length / 256).toUInt8 :: (f.b.length % 256).toUInt8 :: (f.b ++ (sumBytes (crc (headF f)) ++ r)) := by
  simp [encF, sealB, headF]
theorem take_enc (f : Fr) (hf : okF f) (r : List UInt8) : bodyN (encF f ++ r) = f.b.length ∧ frT (encF f ++ r) = f ∧ errT (encF f ++ r) = 0 := by
  have hb : bodyN (encF f ++ r) = f.b.length := by
    rw [encF_parts, bodyN]
    simp only [List.getD_cons_succ, List.getD_cons_zero]
    exact two_bytes hf.2
  have h0 : (encF f ++ r).getD 0 0 = f.k := by rw [encF_parts]; rfl
  have hl : (encF f ++ r).length = f.b.length + 7 + r.length := by rw [List.length_append, encF_length]
  refine ⟨hb, Fr.ext' h0 ?_, ?_⟩
  · show ((encF f ++ r).drop 3).take (bodyN (encF f ++ r)) = f.b
    rw [hb, encF_parts]
    simp
  · have hk := hf.1
    have hn := hf.2
    rw [errT_of (by omega) (by rw [h0]; exact hk) (by rw [hb]; exact hn) (by rw [hb]; omega), hb, List.take_append_of_le_length (by rw [encF_length]; omega), List.take_of_length_le (by rw [encF_length]; omega), encF, sealB_sealed]
    rfl
theorem three_parts {l : List UInt8} (h : 3 ≤ l.length) : ∃ a b c t, l = a :: b :: c :: t := by
  match l, h with
  | a :: b :: c :: t, _ => exact ⟨a, b, c, t, rfl⟩
theorem head_three {l : List UInt8} (h : 3 ≤ l.length) : (frT l).k :: (bodyN l / 256).toUInt8 :: (bodyN l % 256).toUInt8 :: (frT l).b = l.take (bodyN l + 3) := by
  obtain ⟨a, b, c, t, rfl⟩ := three_parts h
  obtain ⟨t1, t2⟩ := two_back b c
  have e : bodyN (a :: b :: c :: t) = b.toNat * 256 + c.toNat := rfl
  rw [e, t1, t2]
  simp only [List.take_succ_cons]
  rfl
theorem enc_take {l : List UInt8} (h : errT l = 0) : okF (frT l) ∧ (frT l).b.length = bodyN l ∧ l = encF (frT l) ++ l.drop (bodyN l + 7) := by
  obtain ⟨h1, h2, h3, h4, h5⟩ := errT_zero h
  have hbl : (frT l).b.length = bodyN l := by
    show ((l.drop 3).take (bodyN l)).length = bodyN l
    rw [List.length_take, List.length_drop]; omega
  refine ⟨⟨h2, by rw [hbl]; exact h3⟩, hbl, ?_⟩
  have hh : headF (frT l) = l.take (bodyN l + 3) := by
    rw [headF, hbl]
    exact head_three h1
  have hs : encF (frT l) = l.take (bodyN l + 7) := by
    have hl7 : (l.take (bodyN l + 7)).length = bodyN l + 7 := by rw [List.length_take]; omega
    rw [sealed_seal (by omega), decide_eq_true_eq, hl7, List.take_take, show min (bodyN l + 7 - 4) (bodyN l + 7) = bodyN l + 3 by omega] at h5
    rw [encF, hh, h5]
  rw [hs, List.take_append_drop]

/-! ### All frames -/
def Cut (l : List UInt8) (fs : List Fr) (r : List UInt8) : Prop := (∀ f ∈ fs, okF f) ∧ l = encs fs ++ r ∧ errT r ≠ 0
theorem cut_exists : ∀ (n : Nat) (l : List UInt8), l.length ≤ n → ∃ fs r, Cut l fs r
  | 0, l, h => by
    obtain rfl : l = [] := List.eq_nil_of_length_eq_zero (by omega)
    exact ⟨[], [], by simp, rfl, by rw [errT_nil]; omega⟩
  | n + 1, l, h => by
    by_cases he : errT l = 0
    · obtain ⟨h1, h2, h3⟩ := enc_take he
      obtain ⟨fs, r, c1, c2, c3⟩ := cut_exists n (l.drop (bodyN l + 7)) (by rw [List.length_drop]; have := errT_zero he; omega)
      refine ⟨frT l :: fs, r, ?_, ?_, c3⟩
      · intro f hf
        rcases List.mem_cons.1 hf with rfl | hf
        · exact h1
        · exact c1 f hf
      · rw [encs_cons, List.append_assoc, ← c2]; exact h3
    · exact ⟨[], l, by simp, rfl, he⟩
theorem cut_all (l : List UInt8) : ∃ fs r, Cut l fs r := cut_exists l.length l (Nat.le_refl _)
theorem enc_inj {f g : Fr} {r s : List UInt8} (hf : okF f) (hg : okF g) (h : encF f ++ r = encF g ++ s) : f = g ∧ r = s := by
  have h1 := (take_enc f hf r).2.1
  have h2 := (take_enc g hg s).2.1
  have e : f = g := by rw [← h1, h, h2]
  subst e
  exact ⟨rfl, List.append_cancel_left h⟩
theorem cut_unique : ∀ {fs gs : List Fr} {l r s : List UInt8}, Cut l fs r → Cut l gs s → fs = gs ∧ r = s
  | [], [], l, r, s, h, k => ⟨rfl, by
    have h1 := h.2.1
    have k1 := k.2.1
    rw [encs_nil, List.nil_append] at h1 k1
    rw [← h1, ← k1]⟩
  | [], g :: gs, l, r, s, h, k => absurd (by
      have h1 := h.2.1
      have k1 := k.2.1
      rw [encs_nil, List.nil_append] at h1
      rw [encs_cons, List.append_assoc] at k1
      rw [← h1, k1]
      exact (take_enc g (k.1 g (by simp)) _).2.2) h.2.2
  | f :: fs, [], l, r, s, h, k => absurd (by
      have h1 := h.2.1
      have k1 := k.2.1
      rw [encs_nil, List.nil_append] at k1
      rw [encs_cons, List.append_assoc] at h1
      rw [← k1, h1]
      exact (take_enc f (h.1 f (by simp)) _).2.2) k.2.2
  | f :: fs, g :: gs, l, r, s, h, k => by
    have h1 := h.2.1
    have k1 := k.2.1
    rw [encs_cons, List.append_assoc] at h1 k1
    obtain ⟨e1, e2⟩ := enc_inj (h.1 f (by simp)) (k.1 g (by simp)) (h1.symm.trans k1)
    obtain ⟨e3, e4⟩ := cut_unique (l := encs fs ++ r) ⟨fun x hx => h.1 x (by simp [hx]), rfl, h.2.2⟩ ⟨fun x hx => k.1 x (by simp [hx]), e2, k.2.2⟩
    subst e1 e3
    exact ⟨rfl, e4⟩
/-- Where the k-th frame begins. -/
def placeOf (fs : List Fr) (k : Nat) : Nat := (encs (fs.take k)).length
theorem placeOf_zero (fs : List Fr) : placeOf fs 0 = 0 := by simp [placeOf, encs]
theorem placeOf_all (fs : List Fr) : placeOf fs fs.length = (encs fs).length := by simp [placeOf]
theorem placeOf_succ (fs : List Fr) {k : Nat} (h : k < fs.length) : placeOf fs (k + 1) = placeOf fs k + (fs[k].b.length + 7) := by
  rw [placeOf, List.take_succ_eq_append_getElem h, encs_snoc, List.length_append, encF_length]; rfl
theorem placeOf_le (fs : List Fr) (k : Nat) : placeOf fs k ≤ (encs fs).length := by
  have : encs fs = encs (fs.take k) ++ encs (fs.drop k) := by rw [← encs_append, List.take_append_drop]
  rw [this, List.length_append]; exact Nat.le_add_right _ _
theorem cut_at {l r : List UInt8} {fs : List Fr} (h : Cut l fs r) {k : Nat} (hk : k < fs.length) :
    errT (l.drop (placeOf fs k)) = 0 ∧ frT (l.drop (placeOf fs k)) = fs[k] ∧ bodyN (l.drop (placeOf fs k)) = fs[k].b.length := by
  have e : l.drop (placeOf fs k) = encF fs[k] ++ (encs (fs.drop (k + 1)) ++ r) := by
    have h1 : encs fs = encs (fs.take k) ++ (encF fs[k] ++ encs (fs.drop (k + 1))) := by
      rw [← encs_cons, ← List.drop_eq_getElem_cons hk, ← encs_append, List.take_append_drop]
    rw [h.2.1, h1, List.append_assoc, placeOf, List.drop_left, List.append_assoc]
  obtain ⟨a, b, c⟩ := take_enc fs[k] (h.1 _ (List.getElem_mem hk)) (encs (fs.drop (k + 1)) ++ r)
  rw [e]
  exact ⟨c, b, a⟩
theorem cut_end {l r : List UInt8} {fs : List Fr} (h : Cut l fs r) : l.drop (placeOf fs fs.length) = r ∧ placeOf fs fs.length + r.length = l.length := by
  rw [placeOf_all, h.2.1, List.drop_left, List.length_append]
  exact ⟨rfl, rfl⟩
def errE (r : List UInt8) : Nat := if r.length = 0 then 0 else errT r

/-! ### Packets -/
def errsF : List Fr → Nat
  | [] => 0
  | f :: fs => if errF f ≠ 0 then errF f else errsF fs
theorem errsF_zero {fs : List Fr} : errsF fs = 0 ↔ ∀ f ∈ fs, okF f := by
  induction fs with
  | nil => simp [errsF]
  | cons f fs ih =>
    rw [errsF]
    by_cases h : errF f = 0
    · rw [if_neg (by simp [h]), ih]
      simp [(okF_iff f).2 h]
    · rw [if_pos h]
      constructor
      · intro e; exact absurd e h
      · intro e; exact absurd ((okF_iff f).1 (e f (by simp))) h
theorem errsF_at {fs : List Fr} {k : Nat} (hk : k < fs.length) (h : ∀ j (hj : j < k), errF (fs[j]'(by omega)) = 0) (he : errF fs[k] ≠ 0) : errsF fs = errF fs[k] := by
  induction fs generalizing k with
  | nil => simp at hk
  | cons f fs ih =>
    rw [errsF]
    cases k with
    | zero => rw [if_pos (by simpa using he)]; rfl
    | succ k =>
      have h0 := h 0 (by omega)
      rw [List.getElem_cons_zero] at h0
      rw [if_neg (by simp [h0])]
      simp only [List.getElem_cons_succ] at he ⊢
      exact ih (by simpa using hk) (fun j hj => by have := h (j + 1) (by omega); simpa using this) he
theorem errsF_none {fs : List Fr} (h : ∀ j (hj : j < fs.length), errF fs[j] = 0) : errsF fs = 0 :=
  errsF_zero.2 fun f hf => by obtain ⟨j, hj, rfl⟩ := List.mem_iff_getElem.1 hf; exact (okF_iff _).2 (h j hj)
def errPack (fs : List Fr) : Nat := if errsF fs ≠ 0 then errsF fs else if fs.length = 0 ∨ 32 < fs.length then 5 else if 1400 < (encs fs).length then 5 else 0
/-- Of bytes that are to be taken as a packet: the frames fs, behind them r. -/
def errUn (l : List UInt8) (fs : List Fr) (r : List UInt8) : Nat := if l.length = 0 ∨ 1400 < l.length then 5 else if errE r ≠ 0 then errE r else if 32 < fs.length then 5 else 0
theorem errE_zero {l r : List UInt8} {fs : List Fr} (h : Cut l fs r) : errE r = 0 ↔ r = [] := by
  unfold errE
  constructor
  · intro e
    split at e
    · exact List.eq_nil_of_length_eq_zero (by assumption)
    · exact absurd e h.2.2
  · rintro rfl; rfl
theorem cut_of_frames {fs : List Fr} (h : ∀ f ∈ fs, okF f) : Cut (encs fs) fs [] := ⟨h, (List.append_nil _).symm, by rw [errT_nil]; omega⟩
theorem pack_back {fs : List Fr} (h : errPack fs = 0) : Cut (encs fs) fs [] ∧ errUn (encs fs) fs [] = 0 := by
  unfold errPack at h
  split at h
  · contradiction
  · rename_i h0
    split at h
    · cases h
    · rename_i h1
      split at h
      · cases h
      · rename_i h2
        have hl := encs_length_le fs
        refine ⟨cut_of_frames (errsF_zero.1 (by simpa using h0)), ?_⟩
        unfold errUn
        rw [if_neg (by omega), if_neg (by simp [errE]), if_neg (by omega)]
theorem un_back {l r : List UInt8} {fs : List Fr} (hc : Cut l fs r) (h : errUn l fs r = 0) : errPack fs = 0 ∧ encs fs = l := by
  unfold errUn at h
  split at h
  · cases h
  · rename_i h0
    split at h
    · contradiction
    · rename_i h1
      split at h
      · cases h
      · rename_i h2
        have hr : r = [] := (errE_zero hc).1 (by simpa using h1)
        subst hr
        have hl : l = encs fs := by rw [hc.2.1, List.append_nil]
        refine ⟨?_, hl.symm⟩
        have hfs : fs.length ≠ 0 := by
          intro e
          obtain rfl := List.eq_nil_of_length_eq_zero e
          rw [encs_nil] at hl
          simp [hl] at h0
        unfold errPack
        rw [if_neg (by simp [errsF_zero.2 hc.1]), if_neg (by omega), if_neg (by rw [← hl]; omega)]

/-! ### Torn -/
theorem errT_torn {f : Fr} (hf : okF f) {m : Nat} (hm : m < (encF f).length) : errT ((encF f).take m) = 30 := by
  have hl : ((encF f).take m).length = m := by rw [List.length_take]; omega
  rw [encF_length] at hm
  by_cases h3 : m < 3
  · unfold errT; rw [if_pos (by omega)]
  · have hp := encF_parts f []
    rw [List.append_nil] at hp
    have ht : ∃ t, (encF f).take m = f.k :: (f.b.length / 256).toUInt8 :: (f.b.length % 256).toUInt8 :: t := by
      obtain ⟨m', rfl⟩ : ∃ m', m = m' + 3 := ⟨m - 3, by omega⟩
      rw [hp]
      exact ⟨_, by simp only [List.take_succ_cons]; rfl⟩
    obtain ⟨t, ht⟩ := ht
    have hb : bodyN ((encF f).take m) = f.b.length := by
      rw [ht]
      exact two_bytes hf.2
    have h0 : ((encF f).take m).getD 0 0 = f.k := by rw [ht]; rfl
    have hk := hf.1
    have hn := hf.2
    unfold errT
    rw [hl, if_neg h3, h0, if_neg hk, hb, if_neg (by omega), if_pos (by omega)]
/-- How many of the frames lie ahead of a place. -/
def wholeTo (fs : List Fr) (at_ : Nat) : Nat → Nat
  | 0 => 0
  | k + 1 => if placeOf fs (k + 1) ≤ at_ then wholeTo fs at_ k + 1 else wholeTo fs at_ k
theorem placeOf_mono (fs : List Fr) {j k : Nat} (h : j ≤ k) : placeOf fs j ≤ placeOf fs k := by
  have : fs.take k = fs.take j ++ (fs.take k).drop j := by
    have := (List.take_append_drop j (fs.take k)).symm
    rwa [List.take_take, Nat.min_eq_left h] at this
  rw [placeOf, placeOf, this, encs_append, List.length_append]; exact Nat.le_add_right _ _
theorem torn_all {fs : List Fr} (h : ∀ f ∈ fs, okF f) {at_ : Nat} (ha : at_ ≤ (encs fs).length) :
    ∃ k, k ≤ fs.length ∧ placeOf fs k ≤ at_ ∧ (∀ j, k < j → j ≤ fs.length → at_ < placeOf fs j) ∧ ∃ r, Cut ((encs fs).take at_) (fs.take k) r ∧ (r = [] ∨ errT r = 30) ∧ r.length = at_ - placeOf fs k := by
  induction fs generalizing at_ with
  | nil =>
    have : at_ = 0 := by simpa [encs] using ha
    subst this
    exact ⟨0, by simp, by simp [placeOf, encs], fun j h1 h2 => by simp at h2; omega, [], ⟨by simp, rfl, by rw [errT_nil]; omega⟩, .inl rfl, by simp⟩
  | cons f fs ih =>
    have hf := h f (by simp)
    by_cases hlt : at_ < (encF f).length
    · refine ⟨0, by omega, by simp [placeOf, encs], fun j h1 h2 => ?_, (encF f).take at_, ⟨by simp, ?_, by rw [errT_torn hf hlt]; omega⟩, .inr (errT_torn hf hlt), ?_⟩
      · have := placeOf_mono (f :: fs) (show 1 ≤ j by omega)
        have e : placeOf (f :: fs) 1 = (encF f).length := by simp [placeOf, encs]
        omega
      · rw [encs_cons, List.take_append_of_le_length (by omega)]; rfl
      · rw [List.length_take]; simp [placeOf, encs]; omega
    · rw [encs_cons, List.length_append] at ha
      obtain ⟨k, h1, h2, h3, r, h4, h5, h6⟩ := ih (fun x hx => h x (by simp [hx])) (at_ := at_ - (encF f).length) (by omega)
      have hp : ∀ j, placeOf (f :: fs) (j + 1) = (encF f).length + placeOf fs j := fun j => by
        rw [placeOf, List.take_succ_cons, encs_cons, List.length_append]; rfl
      refine ⟨k + 1, by simpa using h1, by rw [hp]; omega, fun j hj1 hj2 => ?_, r, ⟨?_, ?_, h4.2.2⟩, h5, by rw [hp, h6]; omega⟩
      · obtain ⟨j', rfl⟩ : ∃ j', j = j' + 1 := ⟨j - 1, by omega⟩
        have := h3 j' (by omega) (by simpa using hj2)
        rw [hp]; omega
      · intro x hx
        exact h x (List.mem_of_mem_take hx)
      · rw [encs_cons, List.take_append, List.take_of_length_le (by omega), List.take_succ_cons, encs_cons, List.append_assoc, ← h4.2.1]

/-! ### Spoilt -/
theorem turn_none (l : List UInt8) (f m : Nat) : ∀ i, anyTo m i = false → turnTo l f m i = l
  | 0, _ => rfl
  | i + 1, h => by
    rw [anyTo] at h
    split at h
    · cases h
    · rename_i hb
      rw [turnTo, if_neg hb, turn_none l f m i h]
theorem spoilt {f : Fr} (hf : okF f) (fr m i : Nat) (h1 : fr + i ≤ 8 * (f.b.length + 7)) (hi : i ≤ 32) (e1 : (turnTo (encF f) fr m i).getD 1 0 = (encF f).getD 1 0) (e2 : (turnTo (encF f) fr m i).getD 2 0 = (encF f).getD 2 0) :
    (anyTo m i = false → errT (turnTo (encF f) fr m i) = 0 ∧ bodyN (turnTo (encF f) fr m i) = f.b.length) ∧
    (anyTo m i = true → (turnTo (encF f) fr m i).getD 0 0 = 0 → errT (turnTo (encF f) fr m i) = 31) ∧
    (anyTo m i = true → (turnTo (encF f) fr m i).getD 0 0 ≠ 0 → errT (turnTo (encF f) fr m i) = 32) := by
  have hl : (turnTo (encF f) fr m i).length = f.b.length + 7 := by rw [turnTo_length, encF_length]
  have ht := take_enc f hf []
  rw [List.append_nil] at ht
  have hb : bodyN (turnTo (encF f) fr m i) = f.b.length := by
    rw [bodyN, e1, e2]; exact ht.1
  have hs := sealed_turned (encF f) (sealB_sealed _) fr m i (by rw [encF_length]; exact h1) hi
  refine ⟨fun h => ?_, fun h h0 => ?_, fun h h0 => ?_⟩
  · refine ⟨?_, hb⟩
    rw [turn_none _ _ _ _ h]; exact ht.2.2
  · unfold errT; rw [if_neg (by omega), if_pos h0]
  · have hn := hf.2
    rw [errT_of (by omega) h0 (by rw [hb]; exact hn) (by rw [hb]; omega), hb, List.take_of_length_le (by omega), hs, h]
    rfl
end Go.Proofs.Ytjbemjnofnifaaa
