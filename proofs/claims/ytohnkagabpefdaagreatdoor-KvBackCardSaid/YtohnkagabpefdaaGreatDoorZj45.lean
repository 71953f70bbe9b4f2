/-
  Who holds an entry holds it: what any step by others makes of it, in plain words (layer 16).
-/
import Derived.Test.YtohnkagabpefdaaGreatDoorZj38
import Derived.Test.YtohnkagabpefdaaGreatDoorZj44
namespace Go.Proofs.YtohnkagabpefdaaGreatDoor
open Go Go.RowKit

theorem getR_off {α : Type} {l : List (Rw α)} {k q : ByteArray} (h : k ≠ q) : getR (offR l k) q = getR l q := by
  induction l with
  | nil => rfl
  | cons x l ih =>
    unfold offR at ih ⊢
    by_cases e : x.key = k
    · rw [List.filter_cons_of_neg (by rw [text_same.2 e]; simp), ih, getR_cons, if_neg (by rw [e]; exact h)]
    · rw [List.filter_cons_of_pos (by rw [text_other.2 e]; rfl), getR_cons, getR_cons, ih]
section
variable {t : Tb Kp} {k q : ByteArray} {i : Nat} {cs : List (Bool × Nat)} {n : Option Kp}
theorem dropT_ne (h : k ≠ q) : getR (t.dropT k i).l q = getR t.l q := by
  unfold Tb.dropT
  split
  · exact getR_off h
  · rfl
theorem putK_ne {v : Kp} (h : k ≠ q) : getR (putK t k v i).2.l q = getR t.l q := by
  unfold putK
  split
  · rfl
  · exact getR_lay_ne (r := t.row k v i) h t.l false
theorem mod_ne (h : k ≠ q) : getR (modK t k i cs n).2.l q = getR t.l q := by
  unfold modK
  split
  · rfl
  · cases n with
    | none => exact dropT_ne h
    | some v => exact putK_ne h
theorem mod_put {v : Kp} {x : En} (hx : getR t.l k = some x) : getR (modK t k i cs (some v)).2.l k = some x ∨ ∃ m j, getR (modK t k i cs (some v)).2.l k = some ⟨k, v, m, j⟩ := by
  cases h : firstE ((keyB k.data.toList, 10) :: cs) with
  | some e => rw [modK_err h]; exact .inl hx
  | none =>
    rw [modK_put h]
    unfold putK
    by_cases hf : t.fullB k = true
    · rw [if_pos hf]; exact .inl hx
    · rw [if_neg hf]; exact .inr ⟨_, _, getR_lay (r := t.row k v i) t.l⟩
theorem mod_none (h : firstE cs ≠ none) : (modK t k i cs n).2 = t := by
  unfold modK
  rw [firstE_cons]
  cases keyB k.data.toList
  · rfl
  · rw [if_pos rfl]
    cases e : firstE cs with
    | none => exact absurd e h
    | some x => rfl
end
/-- A session holds a key's entry, and has locked it once. -/
def HeldK (t : Tb Kp) (key : ByteArray) (mine : Nat) : Prop := ∃ x, getR t.l key = some x ∧ x.val.ses = mine ∧ x.val.lck = 1
theorem HeldK.same {t t' : Tb Kp} {key : ByteArray} {mine : Nat} (h : HeldK t key mine) (e : getR t'.l key = getR t.l key) : HeldK t' key mine := by
  unfold HeldK
  rw [e]
  exact h
theorem HeldK.turn {t : Tb Kp} {key v : ByteArray} {mine i : Nat} {cs : List (Bool × Nat)} (h : HeldK t key mine) : HeldK (modK t key i cs (some { (entO t key).val with v := v })).2 key mine := by
  obtain ⟨x, hx, h1, h2⟩ := h
  have he : entO t key = x := by unfold entO; rw [hx]; rfl
  rw [he]
  rcases mod_put (i := i) (cs := cs) (v := { x.val with v := v }) hx with e | ⟨m, j, e⟩
  · exact ⟨x, e, h1, h2⟩
  · exact ⟨_, e, h1, h2⟩
theorem firstE_not {cs : List (Bool × Nat)} {b : Bool} {x : Nat} (hm : (b, x) ∈ cs) (hb : b = false) : firstE cs ≠ none := by
  unfold firstE
  intro h
  have := List.find?_eq_none.1 (Option.map_eq_none_iff.1 h) (b, x) hm
  simp [hb] at this
/-- Whatever another session does, but for letting the key go, it is held on. -/
theorem HeldK.after {t : Tb Kp} {key : ByteArray} {mine : Nat} (h : HeldK t key mine) (ok : KvOk t) (hm : mine ≠ 0) (s : KSt) (hs : s.Ok) (h1 : s.ses ≠ mine) (h2 : s.key = key → s.kind ≠ 2 ∧ s.kind ≠ 3) : HeldK (s.after t) key mine := by
  have hx := h
  obtain ⟨x, hx, hxs, -⟩ := hx
  have he : entO t key = x := by unfold entO; rw [hx]; rfl
  unfold KSt.after
  by_cases hk : s.key = key
  · obtain ⟨n2, n3⟩ := h2 hk
    rw [hk, if_neg n2, if_neg n3]
    split
    · exact h.turn
    split
    · exact h.turn
    split
    · unfold kLock
      rw [he, mod_none (firstE_not (b := x.val.ses == 0 || x.val.ses == s.ses) (x := 22) (by simp) (by rw [hxs]; simp [hm, Ne.symm h1]))]
      exact h
    split
    · unfold kUnlock
      rw [he, mod_none (firstE_not (b := s.ses != 0 && x.val.ses == s.ses) (x := 22) (by simp) (by rw [hxs]; simp [Ne.symm h1]))]
      exact h
    split
    · refine h.same ?_
      unfold kFree
      refine (unheld_all hs.ix (heldBy t s.ses) ok fun q hq => ?_).2.2 key fun hq => ?_
      · rw [heldBy_eq] at hq
        obtain ⟨y, hy, rfl⟩ := heldL_mem hq
        obtain ⟨j, hj, rfl⟩ := List.getElem_of_mem hy
        unfold isO
        rw [getR_at ok.ok.rise hj]
        rfl
      · rw [heldBy_eq] at hq
        unfold heldL at hq
        obtain ⟨y, hy, e⟩ := List.mem_map.1 hq
        obtain ⟨hy1, hy2⟩ := List.mem_filter.1 hy
        obtain ⟨j, hj, rfl⟩ := List.getElem_of_mem hy1
        have := getR_at ok.ok.rise hj
        rw [e, hx] at this
        cases this
        simp only [Bool.and_eq_true, beq_iff_eq] at hy2
        exact h1 (hy2.2.symm.trans hxs)
    · exact h
  · split
    · exact h.same (mod_ne hk)
    split
    · exact h.same (mod_ne hk)
    split
    · exact h.same (mod_ne hk)
    split
    · exact h.same (mod_ne hk)
    split
    · exact h.same (mod_ne hk)
    split
    · exact h.same (mod_ne hk)
    split
    · refine h.same ?_
      unfold kFree
      refine (unheld_all hs.ix (heldBy t s.ses) ok fun q hq => ?_).2.2 key fun hq => ?_
      · rw [heldBy_eq] at hq
        obtain ⟨y, hy, rfl⟩ := heldL_mem hq
        obtain ⟨j, hj, rfl⟩ := List.getElem_of_mem hy
        unfold isO
        rw [getR_at ok.ok.rise hj]
        rfl
      · rw [heldBy_eq] at hq
        unfold heldL at hq
        obtain ⟨y, hy, e⟩ := List.mem_map.1 hq
        obtain ⟨hy1, hy2⟩ := List.mem_filter.1 hy
        obtain ⟨j, hj, rfl⟩ := List.getElem_of_mem hy1
        have := getR_at ok.ok.rise hj
        rw [e, hx] at this
        cases this
        simp only [Bool.and_eq_true, beq_iff_eq] at hy2
        exact h1 (hy2.2.symm.trans hxs)
    · exact h
/-- The first lock. -/
theorem HeldK.first {m : Nat} {key v : ByteArray} {mine i : Nat} (h : (kLock ⟨m, [], 0⟩ key v mine i).1 = 0) : HeldK (kLock ⟨m, [], 0⟩ key v mine i).2 key mine ∧ mine ≠ 0 := by
  have he : entO ⟨m, [], 0⟩ key = noEn := rfl
  unfold kLock at h ⊢
  rw [he] at h ⊢
  unfold modK at h ⊢
  split at h
  · next x hx =>
    unfold firstE at hx
    obtain ⟨y, hy, rfl⟩ := Option.map_eq_some_iff.1 hx
    have := List.mem_of_find?_eq_some hy
    simp only [List.mem_cons, List.not_mem_nil, or_false, shortC] at this
    rcases this with rfl | rfl | rfl | rfl <;> cases h
  · next hx =>
    have hm : mine ≠ 0 := by
      intro e
      refine absurd hx (firstE_not (b := mine != 0) (x := 2) (by simp) (by rw [e]; rfl))
    refine ⟨?_, hm⟩
    change (putK _ _ _ _).1 = 0 at h
    change HeldK (putK _ _ _ _).2 key mine
    unfold putK at h ⊢
    split at h
    · cases h
    · next hf =>
      rw [if_neg hf]
      refine ⟨_, getR_lay (r := Tb.row ⟨m, [], 0⟩ key _ i) [], rfl, ?_⟩
      have : ((noEn.val.ses == mine) : Bool) = false := by rw [beq_eq_false_iff_ne]; exact fun e => hm e.symm
      show (if _ then _ else _) = 1
      rw [this]
      rfl
end Go.Proofs.YtohnkagabpefdaaGreatDoor
/-
  Of two that compare with one index the first is taken: in plain words (layer 16).
-/
namespace Go.Proofs.YtohnkagabpefdaaGreatDoor
open Go Go.RowKit
set_option linter.unusedVariables false

/-- Every entry's index is at least 1, and at most a. -/
def IxOk (t : Tb Kp) (a : Nat) : Prop := ∀ x ∈ t.l, 1 ≤ x.ix ∧ x.ix ≤ a
section
variable {t : Tb Kp} {k : ByteArray} {i a : Nat} {cs : List (Bool × Nat)} {n : Option Kp}
theorem IxOk.mono (h : IxOk t a) (hi : a ≤ i) : IxOk t i := fun x hx => ⟨(h x hx).1, Nat.le_trans (h x hx).2 hi⟩
theorem IxOk.put (h : IxOk t a) (hi : a ≤ i) (h1 : 1 ≤ i) (v : Kp) : IxOk (t.put k v i) i := fun x hx => by
  rcases mem_lay hx with rfl | hx
  · exact ⟨h1, Nat.le_refl _⟩
  · exact h.mono hi x hx
theorem IxOk.mod (h : IxOk t a) (hi : a ≤ i) (h1 : 1 ≤ i) : IxOk (modK t k i cs n).2 i := by
  unfold modK
  split
  · exact h.mono hi
  · cases n with
    | none =>
      show IxOk (t.dropT k i) i
      unfold Tb.dropT
      split
      · exact fun x hx => h.mono hi x (mem_off.1 hx).1
      · exact h.mono hi
    | some v =>
      show IxOk (putK t k v i).2 i
      unfold putK
      split
      · exact h.mono hi
      · exact h.put hi h1 v
theorem IxOk.free (hi1 : 1 ≤ i) : ∀ (ks : List ByteArray) {t : Tb Kp} (_ : IxOk t i), IxOk (ks.foldl (unheld i) t) i
  | [], _, h => h
  | k :: ks, t, h => IxOk.free hi1 ks (h.put (Nat.le_refl _) hi1 _)
theorem IxOk.after (h : IxOk t a) (s : KSt) (hi : a ≤ s.ix) (h1 : 1 ≤ s.ix) : IxOk (s.after t) s.ix := by
  unfold KSt.after
  split
  · exact h.mod hi h1
  split
  · exact h.mod hi h1
  split
  · exact h.mod hi h1
  split
  · exact h.mod hi h1
  split
  · exact h.mod hi h1
  split
  · exact h.mod hi h1
  split
  · exact IxOk.free h1 _ (h.mono hi)
  · exact h.mono hi
theorem isO_ix (h : IxOk t a) : isO t k = ((entO t k).ix != 0) ∧ (entO t k).ix ≤ a := by
  unfold isO entO
  cases e : getR t.l k with
  | none => exact ⟨rfl, Nat.zero_le _⟩
  | some x =>
    have := h x (getR_mem e).1
    refine ⟨?_, this.2⟩
    show true = (x.ix != 0)
    rw [eq_comm, bne_iff_ne]
    omega
/-- The first that compares: taken, or the key, the value or the place is wanting. -/
theorem once_first (h : IxOk t a) (v : ByteArray) (i : Nat) :
    ((kCas t k v (entO t k).ix i).1 = 0 ∧ (∃ m, getR (kCas t k v (entO t k).ix i).2.l k = some ⟨k, { (entO t k).val with v := v }, m, i⟩) ∧ keyB k.data.toList = true) ∨ (kCas t k v (entO t k).ix i).1 = 10 ∨ (kCas t k v (entO t k).ix i).1 = 3 ∨ (kCas t k v (entO t k).ix i).1 = 5 := by
  have h1 := (isO_ix (k := k) h).1
  unfold kCas
  rw [h1, beq_self_eq_true, beq_self_eq_true]
  by_cases hk : keyB k.data.toList = true
  · by_cases hv : v.size ≤ 64
    · rw [modK_put (by rw [firstE_cons, hk, if_pos rfl, shortC, firstE_cons, decide_eq_true hv, if_pos rfl]; rfl)]
      unfold putK
      by_cases hf : t.fullB k = true
      · rw [if_pos hf]; exact .inr (.inr (.inr rfl))
      · rw [if_neg hf]; exact .inl ⟨rfl, ⟨_, getR_lay (r := t.row k { (entO t k).val with v := v } i) t.l⟩, hk⟩
    · rw [modK_err (x := 3) (by rw [firstE_cons, hk, if_pos rfl, shortC, firstE_cons, decide_eq_false hv, if_neg Bool.false_ne_true])]
      exact .inr (.inr (.inl rfl))
  · rw [modK_err (x := 10) (by rw [firstE_cons, if_neg hk])]
    exact .inr (.inl rfl)
/-- The second. -/
theorem once_second {v : ByteArray} {old j m : Nat} {x : Kp} (hx : getR t.l k = some ⟨k, x, m, j⟩) (ho : old < j) (hk : keyB k.data.toList = true) : (kCas t k v old i).2 = t ∧ ((kCas t k v old i).1 = 21 ∨ (kCas t k v old i).1 = 3) := by
  have he : entO t k = ⟨k, x, m, j⟩ := by unfold entO; rw [hx]; rfl
  have hb : ((entO t k).ix == old) = false := by rw [he, beq_eq_false_iff_ne]; show j ≠ old; omega
  unfold kCas
  rw [hb, Bool.and_false]
  by_cases hv : v.size ≤ 64
  · rw [modK_err (x := 21) (by rw [firstE_cons, hk, if_pos rfl, shortC, firstE_cons, decide_eq_true hv, if_pos rfl]; rfl)]
    exact ⟨rfl, .inl rfl⟩
  · rw [modK_err (x := 3) (by rw [firstE_cons, hk, if_pos rfl, shortC, firstE_cons, decide_eq_false hv, if_neg Bool.false_ne_true])]
    exact ⟨rfl, .inr rfl⟩
theorem IxOk.new (m : Nat) : IxOk ⟨m, [], 0⟩ 0 := fun _ h => by cases h
end
end Go.Proofs.YtohnkagabpefdaaGreatDoor
/-
  Rising indexes: what a store tells of its entries may be loaded, in plain words (layer 16).
-/
namespace Go.Proofs.YtohnkagabpefdaaGreatDoor
open Go Go.RowKit
set_option linter.unusedVariables false

def UpOk (t : Tb Kp) (a : Nat) : Prop := ∀ x ∈ t.l, x.made ≤ x.ix ∧ x.ix ≤ a
section
variable {t : Tb Kp} {k : ByteArray} {i a : Nat} {cs : List (Bool × Nat)} {n : Option Kp}
theorem UpOk.mono (h : UpOk t a) (hi : a ≤ i) : UpOk t i := fun x hx => ⟨(h x hx).1, Nat.le_trans (h x hx).2 hi⟩
theorem UpOk.put (h : UpOk t a) (hi : a ≤ i) (v : Kp) : UpOk (t.put k v i) i := fun x hx => by
  rcases mem_lay hx with rfl | hx
  · refine ⟨?_, Nat.le_refl _⟩
    unfold Tb.row
    cases e : getR t.l k with
    | none => exact Nat.le_refl _
    | some y =>
      have := h y (getR_mem e).1
      show y.made ≤ i
      omega
  · exact h.mono hi x hx
theorem UpOk.mod (h : UpOk t a) (hi : a ≤ i) : UpOk (modK t k i cs n).2 i := by
  unfold modK
  split
  · exact h.mono hi
  · cases n with
    | none =>
      show UpOk (t.dropT k i) i
      unfold Tb.dropT
      split
      · exact fun x hx => h.mono hi x (mem_off.1 hx).1
      · exact h.mono hi
    | some v =>
      show UpOk (putK t k v i).2 i
      unfold putK
      split
      · exact h.mono hi
      · exact h.put hi v
theorem UpOk.free : ∀ (ks : List ByteArray) {t : Tb Kp} (_ : UpOk t i), UpOk (ks.foldl (unheld i) t) i
  | [], _, h => h
  | k :: ks, t, h => UpOk.free ks (h.put (Nat.le_refl _) _)
theorem UpOk.after (h : UpOk t a) (s : KSt) (hi : a ≤ s.ix) : UpOk (s.after t) s.ix := by
  unfold KSt.after
  split
  · exact h.mod hi
  split
  · exact h.mod hi
  split
  · exact h.mod hi
  split
  · exact h.mod hi
  split
  · exact h.mod hi
  split
  · exact h.mod hi
  split
  · exact UpOk.free _ (h.mono hi)
  · exact h.mono hi
theorem mod_most : (modK t k i cs n).2.most = t.most := by
  unfold modK
  split
  · rfl
  · cases n with
    | none =>
      show (t.dropT k i).most = _
      unfold Tb.dropT
      split <;> rfl
    | some v =>
      show (putK t k v i).2.most = _
      unfold putK
      split <;> rfl
theorem free_most : ∀ (ks : List ByteArray) (t : Tb Kp), (ks.foldl (unheld i) t).most = t.most
  | [], _ => rfl
  | k :: ks, t => free_most ks (unheld i t k)
theorem after_most (s : KSt) (t : Tb Kp) : (s.after t).most = t.most := by
  unfold KSt.after
  split
  · exact mod_most
  split
  · exact mod_most
  split
  · exact mod_most
  split
  · exact mod_most
  split
  · exact mod_most
  split
  · exact mod_most
  split
  · exact free_most _ _
  · rfl
theorem loadOk_of (hk : KvOk t) (hu : UpOk t a) : LoadOk t.most t.l t.last :=
  ⟨hk.ok.len, hk.ok.rise.rises, fun e he => ⟨hk.key e he, (hk.val e he).1, (hu e he).1, (hk.ok.row e he).2⟩⟩
theorem inE_of (hk : KvOk t) : ∀ e ∈ t.l, InE e := fun e he => by
  have h1 := hk.val e he
  have h2 := hk.ok.row e he
  have h3 := hk.ok.lst
  exact ⟨hk.ok.key e he, by unfold maxLen; omega, h1.2.1, h1.2.2, h2.1, by omega⟩
end
/-- The store loaded anew. -/
theorem reload {O : Nat → Prop} {w w1 : World} {Bp Bt Bd a : Nat} {t : Tb Kp} {A : Option Addr} {c : Nat} (h : Both O w Bp Bt t Bd t) (hm : t.most = 64) (hu : UpOk t a) (hs : SK enC 6 w1 A t.l.length t.l) (hb : Below w.heap.size w w1) :
    Calls Tryz.prog 19 #[.int .i64 64, .slice A t.l.length c, .int .u64 (t.last : Int)] w1 fun e w2 => ∃ B B', e = .returned (.tuple #[.pointer (some ⟨B, 0, none⟩), .int .i64 0]) ∧ Both O w2 B B' t Bd t ∧ Below w1.heap.size w1 w2 := by
  obtain ⟨Sp, Sd, h1, h2, h3, h4, h5, h6, h7⟩ := h
  have hz := hb.size
  have hln : t.l.length ≤ maxLen := by have := h1.ok.ok.len; unfold maxLen; omega
  refine (load_any 64 A t.l.length c t.l t.last w1 (by decide) hs hln (inE_of h1.ok) h1.ok.ok.lst (h6.keep hb)).mono ?_
  rintro e w2 ⟨hb2, ⟨hok, B, B', rfl, hk⟩ | ⟨hno, _⟩⟩
  · have ht : (⟨mostT 64, t.l, t.last⟩ : Tb Kp) = t := by
      have : mostT 64 = t.most := by rw [hm]; rfl
      rw [this]
    rw [ht] at hk
    have hz2 := hb2.size
    refine ⟨B, B', rfl, ⟨fun k => w1.heap.size ≤ k ∧ k < w2.heap.size, Sd, hk.narrow fun k hk z => ⟨z, hk⟩, h2.below (hb.trans (hb2.mono hz)), fun k z => ⟨h5 k (by omega), z.2, fun q => by have := (h4 k q).2; omega⟩, fun k q => ⟨(h4 k q).1, by have := (h4 k q).2; omega⟩, fun k q => h5 k (by omega), (h6.keep hb).keep hb2, h7⟩, hb2⟩
  · exact absurd (by have := loadOk_of h1.ok hu; rw [hm] at this; exact this) hno
end Go.Proofs.YtohnkagabpefdaaGreatDoor
