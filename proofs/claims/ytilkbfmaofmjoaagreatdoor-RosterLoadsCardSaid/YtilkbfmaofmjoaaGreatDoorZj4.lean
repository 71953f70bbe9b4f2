import Derived.Test.YtilkbfmaofmjoaaGreatDoorZj3
import GoSem.ClaimData
namespace Go.Proofs.YtilkbfmaofmjoaaGreatDoor
open Go
structure Rw (α : Type) where
  key : ByteArray
  val : α
  made : Nat
  ix : Nat
def SR {α : Type} (l : List (Rw α)) : Prop := l.Pairwise fun a b => ltT a.key b.key = true
def plc {α : Type} (l : List (Rw α)) (k : ByteArray) : Nat := l.countP fun x => ltT x.key k
def hasR {α : Type} (l : List (Rw α)) (k : ByteArray) : Prop := ∃ h : plc l k < l.length, l[plc l k].key = k
def getR {α : Type} (l : List (Rw α)) (k : ByteArray) : Option (Rw α) := l.find? fun x => x.key.toList == k.toList
def layR {α : Type} (r : Rw α) : Bool → List (Rw α) → List (Rw α)
  | b, [] => if b then [] else [r]
  | b, x :: l => if x.key.toList == r.key.toList then r :: layR r true l else if !b && ltT r.key x.key then r :: x :: layR r true l else x :: layR r b l
def offR {α : Type} (l : List (Rw α)) (k : ByteArray) : List (Rw α) := l.filter fun x => !(x.key.toList == k.toList)
section
variable {α : Type} {l : List (Rw α)} {k : ByteArray} {r : Rw α}
theorem SR.get (h : SR l) {i j : Nat} (hj : j < l.length) (hij : i < j) : ltT (l[i]'(Nat.lt_trans hij hj)).key l[j].key = true :=
  List.pairwise_iff_getElem.1 h i j (Nat.lt_trans hij hj) hj hij
theorem plc_le (l : List (Rw α)) (k : ByteArray) : plc l k ≤ l.length := List.countP_le_length
theorem SR.tail {x : Rw α} (h : SR (x :: l)) : SR l := (List.pairwise_cons.1 h).2
theorem SR.head {x : Rw α} (h : SR (x :: l)) : ∀ y ∈ l, ltT x.key y.key = true := (List.pairwise_cons.1 h).1
theorem plc_none (h : ∀ y ∈ l, ltT y.key k = false) : plc l k = 0 := by
  unfold plc
  rw [List.countP_eq_zero]
  intro y hy
  rw [h y hy]; simp
theorem plc_cons_lt {x : Rw α} (h : ltT x.key k = true) : plc (x :: l) k = plc l k + 1 := List.countP_cons_of_pos (p := fun x : Rw α => ltT x.key k) h
theorem plc_cons_ge {x : Rw α} (hs : SR (x :: l)) (h : ltT x.key k = false) : plc (x :: l) k = 0 := by
  refine plc_none fun y hy => ?_
  rcases List.mem_cons.1 hy with rfl | hy
  · exact h
  · rw [Bool.eq_false_iff]
    intro e
    rw [ltT_trans (hs.head y hy) e] at h; cases h
theorem plc_lt : ∀ {l : List (Rw α)} (_ : SR l) (i : Nat) (hi : i < l.length), (i < plc l k ↔ ltT l[i].key k = true)
  | x :: l, hs, i, hi => by
    cases hx : ltT x.key k
    · rw [plc_cons_ge hs hx]
      cases i with
      | zero => simp [hx]
      | succ i =>
        simp only [List.getElem_cons_succ, Nat.not_lt_zero, false_iff, Bool.not_eq_true]
        rw [Bool.eq_false_iff]
        intro e
        rw [ltT_trans (hs.head _ (List.getElem_mem _)) e] at hx; cases hx
    · rw [plc_cons_lt hx]
      cases i with
      | zero => simp [hx]
      | succ i =>
        have := plc_lt hs.tail i (by simpa using hi)
        simp only [List.getElem_cons_succ, Nat.add_lt_add_iff_right]
        exact this
theorem plc_of (hs : SR l) {i : Nat} (hi : i ≤ l.length) (h1 : ∀ j (hj : j < l.length), j < i → ltT l[j].key k = true) (h2 : ∀ j (hj : j < l.length), i ≤ j → ltT l[j].key k = false) : plc l k = i := by
  rcases Nat.lt_trichotomy (plc l k) i with h | h | h
  · have := h1 (plc l k) (by omega) h
    have := (plc_lt hs _ (by omega)).2 this
    omega
  · exact h
  · have hl := plc_le l k
    have := (plc_lt (k := k) hs i (by omega)).1 h
    rw [h2 i (by omega) (Nat.le_refl _)] at this; cases this
theorem get_plc : ∀ {l : List (Rw α)} (_ : SR l), getR l k = if h : plc l k < l.length then (if l[plc l k].key = k then some l[plc l k] else none) else none
  | [], _ => rfl
  | x :: l, hs => by
    by_cases hk : x.key = k
    · have e : getR (x :: l) k = some x := by unfold getR; rw [List.find?_cons_of_pos (by simp [hk])]
      have p : plc (x :: l) k = 0 := plc_cons_ge hs (by rw [hk]; exact ltT_irr k)
      rw [e, dif_pos (by rw [p]; simp)]
      simp [p, hk]
    · have e : getR (x :: l) k = getR l k := by unfold getR; rw [List.find?_cons_of_neg (by rw [text_same]; exact hk)]
      cases hx : ltT x.key k
      · have p : plc (x :: l) k = 0 := plc_cons_ge hs hx
        have q : getR l k = none := by
          unfold getR
          rw [List.find?_eq_none]
          intro y hy
          rw [text_same]
          rintro rfl
          rw [hs.head y hy] at hx; cases hx
        rw [e, q]
        simp [p, hk]
      · have p := plc_cons_lt (l := l) hx
        rw [e, get_plc hs.tail]
        simp [p]
theorem get_none (hs : SR l) (h : ¬ hasR l k) : getR l k = none := by
  rw [get_plc hs]
  split
  · next a => rw [if_neg (fun e => h ⟨a, e⟩)]
  · rfl
theorem get_some (hs : SR l) (h : hasR l k) : getR l k = some (l[plc l k]'h.1) := by
  obtain ⟨a, b⟩ := h
  rw [get_plc hs, dif_pos a, if_pos b]
theorem layR_true (r : Rw α) : ∀ {l : List (Rw α)}, (∀ y ∈ l, y.key ≠ r.key) → layR r true l = l
  | [], _ => rfl
  | x :: l, h => by
    rw [layR, if_neg (by rw [text_same]; exact h x (List.mem_cons_self)), if_neg (by simp), layR_true r fun y hy => h y (List.mem_cons_of_mem _ hy)]
theorem lay_new (r : Rw α) : ∀ {l : List (Rw α)} (_ : SR l) (_ : ¬ hasR l r.key), layR r false l = l.take (plc l r.key) ++ r :: l.drop (plc l r.key)
  | [], _, _ => rfl
  | x :: l, hs, hn => by
    have hk : x.key ≠ r.key := fun e => hn ⟨by rw [plc_cons_ge hs (by rw [e]; exact ltT_irr _)]; simp, by simp [plc_cons_ge hs (show ltT x.key r.key = false by rw [e]; exact ltT_irr _), e]⟩
    rw [layR, if_neg (by rw [text_same]; exact hk)]
    cases hx : ltT x.key r.key
    · have hg : ltT r.key x.key = true := by
        cases hg : ltT r.key x.key
        · exact absurd (ltT_tri hx hg) hk
        · rfl
      rw [plc_cons_ge hs hx, hg, layR_true r fun y hy => (ltT_ne (ltT_trans hg (hs.head y hy))).symm]
      rfl
    · have p := plc_cons_lt (l := l) hx
      rw [ltT_asymm hx, p, lay_new r hs.tail (fun ⟨a, b⟩ => hn ⟨by rw [p]; simpa using a, by simpa [p] using b⟩)]
      simp
theorem lay_old (r : Rw α) : ∀ {l : List (Rw α)} (_ : SR l) (_ : hasR l r.key), layR r false l = l.set (plc l r.key) r
  | [], _, h => absurd h.1 (by simp)
  | x :: l, hs, hh => by
    by_cases hk : x.key = r.key
    · rw [layR, if_pos (text_same.2 hk), plc_cons_ge hs (by rw [hk]; exact ltT_irr _), layR_true r fun y hy => by
        rw [← hk]
        exact (ltT_ne (hs.head y hy)).symm]
      rfl
    · have hx : ltT x.key r.key = true := by
        cases hx : ltT x.key r.key
        · exact absurd (by have := hh.2; simpa [plc_cons_ge hs hx] using this) hk
        · rfl
      have p := plc_cons_lt (l := l) hx
      rw [layR, if_neg (by rw [text_same]; exact hk), ltT_asymm hx, p, lay_old r hs.tail ⟨by have := hh.1; rw [p] at this; simpa using this, by have := hh.2; simpa [p] using this⟩]
      simp
theorem mem_off {y : Rw α} : y ∈ offR l k ↔ y ∈ l ∧ y.key ≠ k := by
  unfold offR
  rw [List.mem_filter, Bool.not_eq_true', text_other]
theorem SR.off (hs : SR l) (k : ByteArray) : SR (offR l k) := List.Pairwise.filter _ hs
theorem mem_lay {y : Rw α} : ∀ {l : List (Rw α)} {b : Bool}, y ∈ layR r b l → y = r ∨ y ∈ l
  | [], true, h => by simp [layR] at h
  | [], false, h => by simp [layR] at h; exact .inl h
  | x :: l, b, h => by
    rw [layR] at h
    split at h
    · rcases List.mem_cons.1 h with h | h
      · exact .inl h
      · exact (mem_lay h).imp_right (List.mem_cons_of_mem _)
    · split at h
      · rcases List.mem_cons.1 h with h | h
        · exact .inl h
        · rcases List.mem_cons.1 h with h | h
          · exact .inr (h ▸ List.mem_cons_self)
          · exact (mem_lay h).imp_right (List.mem_cons_of_mem _)
      · rcases List.mem_cons.1 h with h | h
        · exact .inr (h ▸ List.mem_cons_self)
        · exact (mem_lay h).imp_right (List.mem_cons_of_mem _)
theorem SR.lay (hs : SR l) (r : Rw α) : SR (layR r false l) := by
  by_cases h : hasR l r.key
  · rw [lay_old r hs h]
    refine List.pairwise_iff_getElem.2 fun i j hi hj hij => ?_
    rw [List.length_set] at hi hj
    have hb : ∀ m (hm : m < l.length), plc l r.key = m → l[m].key = r.key := by rintro m hm rfl; exact h.2
    rw [List.getElem_set, List.getElem_set]
    have := hs.get hj hij
    split
    · next e => rw [if_neg (by omega)]; rw [hb i hi e] at this; exact this
    · split
      · next e => rw [hb j hj e] at this; exact this
      · exact this
  · rw [lay_new r hs h]
    refine List.pairwise_append.2 ⟨List.Pairwise.sublist (List.take_sublist _ _) hs, List.pairwise_cons.2 ⟨fun y hy => ?_, List.Pairwise.sublist (List.drop_sublist _ _) hs⟩, fun x hx y hy => ?_⟩
    · obtain ⟨j, hj, rfl⟩ := List.mem_iff_getElem.1 hy
      rw [List.getElem_drop]
      rw [List.length_drop] at hj
      have hx : ltT (l[plc l r.key + j]'(by omega)).key r.key = false := by
        rw [Bool.eq_false_iff]
        intro e
        have := (plc_lt hs _ (by omega)).2 e
        omega
      cases hg : ltT r.key (l[plc l r.key + j]'(by omega)).key
      · have e := ltT_tri hx hg
        refine absurd ?_ h
        have : plc l r.key = plc l r.key + j := plc_of hs (by omega) (fun i hi hij => by rw [← e]; exact hs.get _ hij) (fun i hi hij => by
          rcases Nat.lt_or_eq_of_le hij with q | q
          · rw [← e]; exact ltT_asymm (hs.get hi q)
          · subst q; rw [e]; exact ltT_irr _)
        have j0 : j = 0 := by omega
        subst j0
        exact ⟨by omega, by simpa using e⟩
      · rfl
    · obtain ⟨i, hi, rfl⟩ := List.mem_iff_getElem.1 hx
      rw [List.length_take] at hi
      rw [List.getElem_take]
      have hl := (plc_lt (k := r.key) hs i (by omega)).1 (by omega)
      rcases List.mem_cons.1 hy with rfl | hy
      · exact hl
      · obtain ⟨j, hj, rfl⟩ := List.mem_iff_getElem.1 hy
        rw [List.length_drop] at hj
        rw [List.getElem_drop]
        exact hs.get _ (by omega)
theorem lay_length (hs : SR l) (r : Rw α) (h : hasR l r.key) : (layR r false l).length = l.length := by rw [lay_old r hs h, List.length_set]
theorem lay_length' (hs : SR l) (r : Rw α) (h : ¬ hasR l r.key) : (layR r false l).length = l.length + 1 := by
  rw [lay_new r hs h]
  have := plc_le l r.key
  simp
  omega
theorem off_length (l : List (Rw α)) (k : ByteArray) : (offR l k).length ≤ l.length := List.length_filter_le _ _
end
structure Tb (α : Type) where
  most : Nat
  l : List (Rw α)
  last : Nat
section
variable {α : Type}
def mostT (m : Int) : Nat := if m < 1 then 1 else if 64 < m then 64 else m.toNat
theorem mostT_le (m : Int) : 1 ≤ mostT m ∧ mostT m ≤ 64 := by
  unfold mostT
  split
  · omega
  · split <;> omega
def Tb.raise (t : Tb α) (i : Nat) : Tb α := { t with last := max t.last i }
def Tb.row (t : Tb α) (k : ByteArray) (v : α) (i : Nat) : Rw α := ⟨k, v, ((getR t.l k).map (·.made)).getD i, i⟩
def Tb.full (t : Tb α) (k : ByteArray) : Prop := getR t.l k = none ∧ t.most ≤ t.l.length
def Tb.put (t : Tb α) (k : ByteArray) (v : α) (i : Nat) : Tb α := { t with l := layR (t.row k v i) false t.l, last := max t.last i }
def Tb.drop (t : Tb α) (k : ByteArray) (i : Nat) : Tb α := { t with l := offR t.l k, last := max t.last i }
structure Tb.Ok (t : Tb α) : Prop where
  most : 1 ≤ t.most ∧ t.most ≤ 64
  len : t.l.length ≤ t.most
  rise : SR t.l
  lst : t.last < 18446744073709551616
  row : ∀ x ∈ t.l, x.made < 18446744073709551616 ∧ x.ix ≤ t.last
  key : ∀ x ∈ t.l, x.key.size ≤ maxLen
theorem Tb.Ok.new (m : Int) : (⟨mostT m, [], 0⟩ : Tb α).Ok := ⟨mostT_le m, by simp, .nil, by simp, by simp, by simp⟩
theorem Tb.Ok.raise {t : Tb α} (h : t.Ok) {i : Nat} (hi : i < 18446744073709551616) : (t.raise i).Ok :=
  ⟨h.most, h.len, h.rise, by have := h.lst; simp only [Tb.raise]; omega, fun x hx => ⟨(h.row x hx).1, Nat.le_trans (h.row x hx).2 (Nat.le_max_left _ _)⟩, h.key⟩
theorem Tb.row_mk {t : Tb α} (h : t.Ok) (k : ByteArray) (v : α) {i : Nat} (hi : i < 18446744073709551616) : (t.row k v i).made < 18446744073709551616 := by
  unfold Tb.row
  cases e : getR t.l k with
  | none => simpa using hi
  | some x =>
    have := (h.row x (List.mem_of_find?_eq_some e)).1
    simpa using this
theorem Tb.Ok.put {t : Tb α} (h : t.Ok) (k : ByteArray) (v : α) {i : Nat} (hi : i < 18446744073709551616) (hk : k.size ≤ maxLen) (hf : ¬ t.full k) : (t.put k v i).Ok := by
  refine ⟨h.most, ?_, h.rise.lay _, ?_, fun x hx => ?_, fun x hx => by
    rcases mem_lay hx with rfl | hx
    · exact hk
    · exact h.key x hx⟩
  · by_cases hh : hasR t.l (t.row k v i).key
    · rw [Tb.put, lay_length h.rise _ hh]; exact h.len
    · rw [Tb.put, lay_length' h.rise _ hh]
      have : ¬ t.most ≤ t.l.length := fun e => hf ⟨get_none h.rise hh, e⟩
      show t.l.length + 1 ≤ t.most
      omega
  · have := h.lst
    simp only [Tb.put]
    omega
  · rcases mem_lay hx with rfl | hx
    · exact ⟨Tb.row_mk h k v hi, Nat.le_max_right _ _⟩
    · exact ⟨(h.row x hx).1, Nat.le_trans (h.row x hx).2 (Nat.le_max_left _ _)⟩
theorem Tb.Ok.drop {t : Tb α} (h : t.Ok) (k : ByteArray) {i : Nat} (hi : i < 18446744073709551616) : (t.drop k i).Ok := by
  refine ⟨h.most, Nat.le_trans (off_length _ _) h.len, h.rise.off k, ?_, fun x hx => ?_, fun x hx => h.key x (mem_off.1 hx).1⟩
  · have := h.lst
    simp only [Tb.drop]
    omega
  · have hx := (mem_off.1 hx).1
    exact ⟨(h.row x hx).1, Nat.le_trans (h.row x hx).2 (Nat.le_max_left _ _)⟩
structure Tb.Up (t : Tb α) (at_ : Nat) : Prop where
  last : t.last ≤ at_
  row : ∀ x ∈ t.l, x.made ≤ x.ix
theorem Tb.Up.put {t : Tb α} (ok : t.Ok) {a : Nat} (h : t.Up a) (k : ByteArray) (v : α) {i : Nat} (hi : a ≤ i) : (t.put k v i).Up i := by
  refine ⟨by have := h.last; simp only [Tb.put]; omega, fun x hx => ?_⟩
  rcases mem_lay hx with rfl | hx
  · unfold Tb.row
    cases e : getR t.l k with
    | none => simp
    | some y =>
      have m := List.mem_of_find?_eq_some e
      have h1 := h.row y m
      have h2 := (ok.row y m).2
      have h3 := h.last
      simp
      omega
  · exact h.row x hx
theorem Tb.Up.mono {t : Tb α} {a i : Nat} (h : t.Up a) (hi : a ≤ i) : t.Up i := ⟨Nat.le_trans h.last hi, h.row⟩
theorem Tb.Up.drop {t : Tb α} {a : Nat} (h : t.Up a) (k : ByteArray) {i : Nat} (hi : a ≤ i) : (t.drop k i).Up i :=
  ⟨by have := h.last; simp only [Tb.drop]; omega, fun x hx => h.row x (mem_off.1 hx).1⟩
end
end Go.Proofs.YtilkbfmaofmjoaaGreatDoor
