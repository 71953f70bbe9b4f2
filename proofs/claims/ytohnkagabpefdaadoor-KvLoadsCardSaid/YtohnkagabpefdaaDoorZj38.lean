/-
  What Free makes of a store, in plain words (layer 16).
-/
import Derived.Test.YtohnkagabpefdaaDoorZj9
namespace Go.Proofs.YtohnkagabpefdaaDoor
open Go Go.RowKit

section
variable {α : Type}
theorem getR_cons (x : Rw α) (l : List (Rw α)) (k : ByteArray) : getR (x :: l) k = if x.key = k then some x else getR l k := by
  unfold getR
  by_cases h : x.key = k
  · rw [if_pos h, List.find?_cons_of_pos (by exact text_same.2 h)]
  · rw [if_neg h, List.find?_cons_of_neg (by rw [text_other.2 h]; exact Bool.false_ne_true)]
theorem getR_nil (k : ByteArray) : getR ([] : List (Rw α)) k = none := rfl
theorem getR_lay_ne {r : Rw α} {k : ByteArray} (h : r.key ≠ k) : ∀ (l : List (Rw α)) (b : Bool), getR (layR r b l) k = getR l k
  | [], b => by
    unfold layR
    cases b
    · exact (getR_cons _ _ _).trans (if_neg h)
    · rfl
  | x :: l, b => by
    unfold layR
    by_cases e : x.key = r.key
    · rw [if_pos (text_same.2 e), getR_cons, getR_cons, if_neg h, if_neg (by rw [e]; exact h), getR_lay_ne h l]
    · rw [if_neg (by rw [text_other.2 e]; exact Bool.false_ne_true)]
      split
      · rw [getR_cons, if_neg h, getR_cons, getR_cons, getR_lay_ne h l]
      · rw [getR_cons, getR_cons, getR_lay_ne h l]
theorem getR_lay {r : Rw α} : ∀ (l : List (Rw α)), getR (layR r false l) r.key = some r
  | [] => (getR_cons _ _ _).trans (if_pos rfl)
  | x :: l => by
    unfold layR
    by_cases e : x.key = r.key
    · rw [if_pos (text_same.2 e), getR_cons, if_pos rfl]
    · rw [if_neg (by rw [text_other.2 e]; exact Bool.false_ne_true)]
      split
      · rw [getR_cons, if_pos rfl]
      · rw [getR_cons, if_neg e, getR_lay l]
theorem getR_at {l : List (Rw α)} (hs : SR l) {j : Nat} (hj : j < l.length) : getR l l[j].key = some l[j] := by
  induction l generalizing j with
  | nil => cases hj
  | cons x l ih =>
    rw [getR_cons]
    cases j with
    | zero => exact if_pos rfl
    | succ j =>
      have hj' : j < l.length := by simpa using hj
      rw [if_neg fun e => ?_]
      · exact ih hs.tail hj'
      · have := hs.head l[j] (List.getElem_mem hj')
        have e' : x.key = l[j].key := e
        rw [e', ltT_irr] at this
        cases this
end
section
variable {t : Tb Kp} {i : Nat}
theorem unheld_one (h : KvOk t) (hi : i < 18446744073709551616) {k : ByteArray} (hk : isO t k = true) :
    KvOk (unheld i t k) ∧ (∀ q, isO (unheld i t k) q = isO t q) ∧ (∀ q, k ≠ q → getR (unheld i t k).l q = getR t.l q) ∧ t.fullB k = false ∧ keyB k.data.toList = true ∧ (entO t k).key = k := by
  unfold isO at hk
  obtain ⟨x, hx⟩ := Option.isSome_iff_exists.1 hk
  obtain ⟨hm, hxk⟩ := getR_mem hx
  have he : entO t k = x := by unfold entO; rw [hx]; rfl
  have hf : t.fullB k = false := by unfold Tb.fullB; rw [hx]; rfl
  have hkey : keyB k.data.toList = true := hxk ▸ h.key x hm
  have hent := h.ent k
  have hne : ∀ q, k ≠ q → getR (unheld i t k).l q = getR t.l q := fun q hq => getR_lay_ne (r := t.row k { (entO t k).val with ses := 0 } i) hq t.l false
  refine ⟨h.put hkey (hxk ▸ h.ok.key x hm) ⟨hent.1, by show 0 < 18446744073709551616; decide, hent.2.2.1⟩ hi fun e => ?_, fun q => ?_, hne, hf, hkey, by rw [he]; exact hxk⟩
  · rw [(full_iff t k).2 e] at hf
    cases hf
  · unfold isO
    by_cases e : k = q
    · rw [← e, hx]
      have : getR (unheld i t k).l k = some (t.row k { (entO t k).val with ses := 0 } i) := getR_lay (r := t.row k { (entO t k).val with ses := 0 } i) t.l
      rw [this]
      rfl
    · rw [hne q e]
theorem unheld_all (hi : i < 18446744073709551616) : ∀ (ks : List ByteArray) {t : Tb Kp} (_ : KvOk t) (_ : ∀ k ∈ ks, isO t k = true), KvOk (ks.foldl (unheld i) t) ∧ (∀ q, isO (ks.foldl (unheld i) t) q = isO t q) ∧ ∀ q, q ∉ ks → getR (ks.foldl (unheld i) t).l q = getR t.l q
  | [], t, h, _ => ⟨h, fun _ => rfl, fun _ _ => rfl⟩
  | k :: ks, t, h, hk => by
    obtain ⟨h1, h2, h3, _⟩ := unheld_one h hi (hk k (by simp))
    obtain ⟨g1, g2, g3⟩ := unheld_all hi ks h1 fun q hq => by rw [h2]; exact hk q (by simp [hq])
    exact ⟨g1, fun q => (g2 q).trans (h2 q), fun q hq => by
      rw [List.mem_cons, not_or] at hq
      exact (g3 q hq.2).trans (h3 q fun e => hq.1 e.symm)⟩
/-- The keys of those entries that a session holds. -/
def heldL (l : List En) (s : Nat) : List ByteArray := (l.filter fun x => s != 0 && x.val.ses == s).map (·.key)
theorem heldBy_eq (t : Tb Kp) (s : Nat) : heldBy t s = heldL t.l s := rfl
theorem heldL_step {l : List En} {k : Nat} (hk : k < l.length) (s : Nat) : heldL (l.take (k + 1)) s = heldL (l.take k) s ++ (if (s != 0 && l[k].val.ses == s) = true then [l[k].key] else []) := by
  unfold heldL
  rw [List.take_succ_eq_append_getElem hk, List.filter_append, List.map_append]
  by_cases e : (s != 0 && l[k].val.ses == s) = true
  · rw [if_pos e, List.filter_cons_of_pos (p := fun x : En => s != 0 && x.val.ses == s) e]; rfl
  · rw [if_neg e, List.filter_cons_of_neg (p := fun x : En => s != 0 && x.val.ses == s) e]; rfl
theorem heldL_length (l : List En) (s : Nat) : (heldL l s).length ≤ l.length := by
  unfold heldL
  rw [List.length_map]
  exact List.length_filter_le _ _
theorem heldL_mem {l : List En} {s : Nat} {k : ByteArray} (h : k ∈ heldL l s) : ∃ x ∈ l, x.key = k := by
  unfold heldL at h
  obtain ⟨x, hx, e⟩ := List.mem_map.1 h
  exact ⟨x, (List.mem_filter.1 hx).1, e⟩
/-- What Free has made of a store up to an entry: that one is as it was. -/
theorem free_at (h : KvOk t) (hi : i < 18446744073709551616) (s : Nat) {k : Nat} (hk : k < t.l.length) :
    KvOk ((heldL (t.l.take k) s).foldl (unheld i) t) ∧ getR ((heldL (t.l.take k) s).foldl (unheld i) t).l t.l[k].key = some t.l[k] := by
  obtain ⟨g1, _, g3⟩ := unheld_all hi (heldL (t.l.take k) s) h fun q hq => by
    obtain ⟨x, hx, rfl⟩ := heldL_mem hq
    obtain ⟨j, hj, rfl⟩ := List.getElem_of_mem (List.mem_of_mem_take hx)
    unfold isO
    rw [getR_at h.ok.rise hj]
    rfl
  refine ⟨g1, (g3 _ fun hq => ?_).trans (getR_at h.ok.rise hk)⟩
  obtain ⟨x, hx, e⟩ := heldL_mem hq
  obtain ⟨j, hj, rfl⟩ := List.getElem_of_mem hx
  rw [List.length_take] at hj
  have := h.ok.rise.get hk (i := j) (by omega)
  rw [List.getElem_take] at e
  rw [e, ltT_irr] at this
  cases this
theorem und_all (l : List En) : undR l ⟨#[]⟩ = l := by
  unfold undR
  rw [List.filter_eq_self]
  intro x _
  unfold underB Lib.hasPrefix
  simp
/-- Free turns one entry more. -/
theorem mod_unheld (h : KvOk t) (hi : i < 18446744073709551616) {k : ByteArray} {x : En} (hx : getR t.l k = some x) : modK t k i [] (some { x.val with ses := 0 }) = (0, unheld i t k) := by
  have he : entO t k = x := by unfold entO; rw [hx]; rfl
  obtain ⟨_, _, _, h4, h5, _⟩ := unheld_one h hi (k := k) (by unfold isO; rw [hx]; rfl)
  rw [modK_put (by rw [firstE_cons, h5, if_pos rfl]; rfl)]
  unfold putK unheld
  rw [h4, he]
  rfl
end
end Go.Proofs.YtohnkagabpefdaaDoor
