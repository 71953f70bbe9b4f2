/-
  Layer 16 in plain words: an entry is a row of a table whose value is a text, its holder, and how often it was locked; what each call answers, and makes of the table.
-/
import Derived.Test.YtohnkagabpefdaaGreatDoorZj6
import Derived.Test.YtohnkagabpefdaaGreatDoorZj7
namespace Go.Proofs.YtohnkagabpefdaaGreatDoor
open Go Go.RowKit

/-- A row's value. -/
structure Kp where
  v : ByteArray
  ses : Nat
  lck : Nat
/-- An entry. -/
abbrev En := Rw Kp
def noEn : En := ⟨⟨#[]⟩, ⟨⟨#[]⟩, 0, 0⟩, 0, 0⟩
/-- The entry with a key, or none. -/
def entO (t : Tb Kp) (k : ByteArray) : En := (getR t.l k).getD noEn
def isO (t : Tb Kp) (k : ByteArray) : Bool := (getR t.l k).isSome
/-- What always holds of a store. -/
structure KvOk (t : Tb Kp) : Prop where
  ok : t.Ok
  key : ∀ x ∈ t.l, keyB x.key.data.toList = true
  val : ∀ x ∈ t.l, x.val.v.size ≤ 64 ∧ x.val.ses < 18446744073709551616 ∧ x.val.lck < 18446744073709551616
/-- The first of some checks that does not hold. -/
def firstE (cs : List (Bool × Nat)) : Option Nat := (cs.find? fun c => !c.1).map (·.2)
def putK (t : Tb Kp) (k : ByteArray) (v : Kp) (i : Nat) : Nat × Tb Kp := if t.fullB k then (5, t) else (0, t.put k v i)
/-- A modification: the checks behind the key's own, and what the entry turns into. -/
def modK (t : Tb Kp) (k : ByteArray) (i : Nat) (cs : List (Bool × Nat)) (n : Option Kp) : Nat × Tb Kp := match firstE ((keyB k.data.toList, 10) :: cs) with
  | some e => (e, t)
  | none => match n with
    | some v => putK t k v i
    | none => (0, t.dropT k i)
def shortC (v : ByteArray) : Bool × Nat := (decide (v.size ≤ 64), 3)
def kSet (t : Tb Kp) (k v : ByteArray) (i : Nat) : Nat × Tb Kp := modK t k i [shortC v] (some { (entO t k).val with v := v })
def kCas (t : Tb Kp) (k v : ByteArray) (old i : Nat) : Nat × Tb Kp := modK t k i [shortC v, (isO t k == (old != 0) && (entO t k).ix == old, 21)] (some { (entO t k).val with v := v })
def kDel (t : Tb Kp) (k : ByteArray) (i : Nat) : Nat × Tb Kp := modK t k i [(isO t k, 4)] none
def kDelCas (t : Tb Kp) (k : ByteArray) (old i : Nat) : Nat × Tb Kp := modK t k i [(isO t k, 4), ((entO t k).ix == old, 21)] none
def kLock (t : Tb Kp) (k v : ByteArray) (s i : Nat) : Nat × Tb Kp := modK t k i [shortC v, (s != 0, 2), ((entO t k).val.ses == 0 || (entO t k).val.ses == s, 22)]
  (some ⟨v, s, if (entO t k).val.ses == s then (entO t k).val.lck else ((entO t k).val.lck + 1) % 18446744073709551616⟩)
def kUnlock (t : Tb Kp) (k v : ByteArray) (s i : Nat) : Nat × Tb Kp := modK t k i [shortC v, (isO t k, 4), (s != 0 && (entO t k).val.ses == s, 22)] (some ⟨v, 0, (entO t k).val.lck⟩)
/-- The keys that a session holds. -/
def heldBy (t : Tb Kp) (s : Nat) : List ByteArray := (t.l.filter fun x => s != 0 && x.val.ses == s).map (·.key)
/-- A key's entry is held by nobody. -/
def unheld (i : Nat) (t : Tb Kp) (k : ByteArray) : Tb Kp := t.put k { (entO t k).val with ses := 0 } i
def kFree (t : Tb Kp) (s i : Nat) : Tb Kp := (heldBy t s).foldl (unheld i) t

theorem modK_err {t : Tb Kp} {k : ByteArray} {i x : Nat} {cs : List (Bool × Nat)} {n : Option Kp} (h : firstE ((keyB k.data.toList, 10) :: cs) = some x) : modK t k i cs n = (x, t) := by simp only [modK, h]
theorem modK_put {t : Tb Kp} {k : ByteArray} {i : Nat} {cs : List (Bool × Nat)} {v : Kp} (h : firstE ((keyB k.data.toList, 10) :: cs) = none) : modK t k i cs (some v) = putK t k v i := by simp only [modK, h]
theorem modK_drop {t : Tb Kp} {k : ByteArray} {i : Nat} {cs : List (Bool × Nat)} (h : firstE ((keyB k.data.toList, 10) :: cs) = none) : modK t k i cs none = (0, t.dropT k i) := by simp only [modK, h]
theorem firstE_cons (b : Bool) (e : Nat) (cs : List (Bool × Nat)) : firstE ((b, e) :: cs) = if b then firstE cs else some e := by
  cases b <;> simp [firstE]
theorem firstE_nil : firstE [] = none := rfl
section
variable {t : Tb Kp} {k : ByteArray}
theorem getR_mem {α : Type} {l : List (Rw α)} {k : ByteArray} {x : Rw α} (h : getR l k = some x) : x ∈ l ∧ x.key = k := by
  unfold getR at h
  have h2 := List.find?_some (p := fun x : Rw α => x.key.toList == k.toList) h
  exact ⟨List.mem_of_find?_eq_some h, text_same.1 h2⟩
theorem key_some {k : ByteArray} (h : keyB k.data.toList = true) : 0 < k.size := by
  rcases Nat.eq_zero_or_pos k.size with e | e
  · rw [key_short (.inl (by rw [← Lib.size_eq, e]; decide))] at h
    cases h
  · exact e
theorem KvOk.ent (h : KvOk t) (k : ByteArray) : (entO t k).val.v.size ≤ 64 ∧ (entO t k).val.ses < 18446744073709551616 ∧ (entO t k).val.lck < 18446744073709551616 ∧ (entO t k).made < 18446744073709551616 ∧ (entO t k).ix < 18446744073709551616 := by
  unfold entO
  cases e : getR t.l k with
  | none => exact ⟨by decide, by decide, by decide, by decide, by decide⟩
  | some x =>
    have hm := (getR_mem e).1
    have h1 := h.val x hm
    have h2 := h.ok.row x hm
    have h3 := h.ok.lst
    exact ⟨h1.1, h1.2.1, h1.2.2, h2.1, by show x.ix < _; omega⟩
theorem KvOk.put (h : KvOk t) {v : Kp} {i : Nat} (hk : keyB k.data.toList = true) (hs : k.size ≤ maxLen) (hv : v.v.size ≤ 64 ∧ v.ses < 18446744073709551616 ∧ v.lck < 18446744073709551616) (hi : i < 18446744073709551616) (hf : ¬ t.full k) : KvOk (t.put k v i) := by
  refine ⟨h.ok.put k v hi hs hf, fun x hx => ?_, fun x hx => ?_⟩
  · rcases mem_lay hx with rfl | hx
    · exact hk
    · exact h.key x hx
  · rcases mem_lay hx with rfl | hx
    · exact hv
    · exact h.val x hx
theorem KvOk.dropT (h : KvOk t) {i : Nat} (hi : i < 18446744073709551616) : KvOk (t.dropT k i) := by
  unfold Tb.dropT
  split
  · exact ⟨h.ok.drop k hi, fun x hx => h.key x (mem_off.1 hx).1, fun x hx => h.val x (mem_off.1 hx).1⟩
  · exact h
theorem full_iff (t : Tb Kp) (k : ByteArray) : t.fullB k = true ↔ t.full k := by
  unfold Tb.fullB Tb.full
  cases getR t.l k <;> simp
theorem KvOk.putK (h : KvOk t) {v : Kp} {i : Nat} (hk : keyB k.data.toList = true) (hs : k.size ≤ maxLen) (hv : v.v.size ≤ 64 ∧ v.ses < 18446744073709551616 ∧ v.lck < 18446744073709551616) (hi : i < 18446744073709551616) : KvOk (putK t k v i).2 := by
  unfold Go.Proofs.YtohnkagabpefdaaGreatDoor.putK
  split
  · exact h
  · next e => exact h.put hk hs hv hi (fun f => e ((full_iff t k).2 f))
theorem KvOk.mod (h : KvOk t) {i : Nat} {cs : List (Bool × Nat)} {n : Option Kp} (hs : k.size ≤ maxLen) (hi : i < 18446744073709551616) (hv : firstE cs = none → ∀ v, n = some v → v.v.size ≤ 64 ∧ v.ses < 18446744073709551616 ∧ v.lck < 18446744073709551616) : KvOk (modK t k i cs n).2 := by
  unfold modK
  rw [firstE_cons]
  cases hk : keyB k.data.toList
  · exact h
  · rw [if_pos rfl]
    cases hc : firstE cs with
    | some e => exact h
    | none =>
      cases n with
      | none => exact h.dropT hi
      | some v => exact h.putK hk hs (hv hc v rfl) hi
theorem firstE_short {v : ByteArray} {cs : List (Bool × Nat)} (h : firstE (shortC v :: cs) = none) : v.size ≤ 64 ∧ firstE cs = none := by
  unfold shortC at h
  rw [firstE_cons] at h
  by_cases e : v.size ≤ 64
  · rw [decide_eq_true e, if_pos rfl] at h
    exact ⟨e, h⟩
  · rw [decide_eq_false e] at h
    cases h
theorem KvOk.set (h : KvOk t) {v : ByteArray} {i : Nat} (hs : k.size ≤ maxLen) (hi : i < 18446744073709551616) : KvOk (kSet t k v i).2 := h.mod hs hi fun hc w hw => by
  cases hw
  exact ⟨(firstE_short hc).1, (h.ent k).2.1, (h.ent k).2.2.1⟩
theorem KvOk.cas (h : KvOk t) {v : ByteArray} {old i : Nat} (hs : k.size ≤ maxLen) (hi : i < 18446744073709551616) : KvOk (kCas t k v old i).2 := h.mod hs hi fun hc w hw => by
  cases hw
  exact ⟨(firstE_short hc).1, (h.ent k).2.1, (h.ent k).2.2.1⟩
theorem KvOk.del (h : KvOk t) {i : Nat} (hs : k.size ≤ maxLen) (hi : i < 18446744073709551616) : KvOk (kDel t k i).2 := h.mod hs hi fun _ w hw => by cases hw
theorem KvOk.delCas (h : KvOk t) {old i : Nat} (hs : k.size ≤ maxLen) (hi : i < 18446744073709551616) : KvOk (kDelCas t k old i).2 := h.mod hs hi fun _ w hw => by cases hw
theorem KvOk.lock (h : KvOk t) {v : ByteArray} {s i : Nat} (hs : k.size ≤ maxLen) (hi : i < 18446744073709551616) (hx : s < 18446744073709551616) : KvOk (kLock t k v s i).2 := h.mod hs hi fun hc w hw => by
  cases hw
  refine ⟨(firstE_short hc).1, hx, ?_⟩
  show (if _ then _ else _) < _
  split
  · exact (h.ent k).2.2.1
  · exact Nat.mod_lt _ (by decide)
theorem KvOk.unlock (h : KvOk t) {v : ByteArray} {s i : Nat} (hs : k.size ≤ maxLen) (hi : i < 18446744073709551616) : KvOk (kUnlock t k v s i).2 := h.mod hs hi fun hc w hw => by
  cases hw
  exact ⟨(firstE_short hc).1, by show 0 < _; decide, (h.ent k).2.2.1⟩
theorem KvOk.new (m : Int) : KvOk ⟨mostT m, [], 0⟩ := ⟨Tb.Ok.new m, (fun _ h => by cases h), (fun _ h => by cases h)⟩
/-- There is an entry just where it has a key. -/
theorem KvOk.some_key (h : KvOk t) (k : ByteArray) : (isO t k = true ∧ 0 < (entO t k).key.size) ∨ (isO t k = false ∧ entO t k = noEn) := by
  unfold isO entO
  cases e : getR t.l k with
  | none => exact .inr ⟨rfl, rfl⟩
  | some x => exact .inl ⟨rfl, key_some (h.key x (getR_mem e).1)⟩
end
end Go.Proofs.YtohnkagabpefdaaGreatDoor
/-
  The program's table at values of one type (kv.kept): a row's cells; New, made, Last, Raise, Copy, now, walked.
-/
namespace Go.Proofs.YtohnkagabpefdaaGreatDoor.Kt
open Go.RowKit
set_option linter.unusedSimpArgs false
set_option linter.unusedVariables false

/-- A row's cells. -/
def trC (r : Rw Kp) : List Value := [.string r.key, .string r.val.v, .int .u64 (r.val.ses : Int), .int .u64 (r.val.lck : Int), .int .u64 (r.made : Int), .int .u64 (r.ix : Int)]
/-- A row as a value. -/
def trV (r : Rw Kp) : Value := .agg #[.string r.key, .string r.val.v, .int .u64 (r.val.ses : Int), .int .u64 (r.val.lck : Int), .int .u64 (r.made : Int), .int .u64 (r.ix : Int)]
theorem trC_len (r : Rw Kp) : (trC r).length = 6 := rfl
theorem trC_one (r : Rw Kp) : ∀ u ∈ trC r, u.oneCell' = true := fun u hu => by
  simp only [trC, List.mem_cons, List.not_mem_nil, or_false] at hu
  rcases hu with rfl | rfl | rfl | rfl | rfl | rfl <;> rfl
theorem tr_cells {w : World} {b o : Nat} {r : Rw Kp} (h : ItAt trC w b o r) : w.cell? ⟨b, o, none⟩ = some (.string r.key) ∧ w.cell? ⟨b, o + 1, none⟩ = some (.string r.val.v) ∧ w.cell? ⟨b, o + 2, none⟩ = some (.int .u64 (r.val.ses : Int)) ∧ w.cell? ⟨b, o + 3, none⟩ = some (.int .u64 (r.val.lck : Int)) ∧ w.cell? ⟨b, o + 4, none⟩ = some (.int .u64 (r.made : Int)) ∧ w.cell? ⟨b, o + 5, none⟩ = some (.int .u64 (r.ix : Int)) :=
  ⟨h 0 _ rfl, h 1 _ rfl, h 2 _ rfl, h 3 _ rfl, h 4 _ rfl, h 5 _ rfl⟩
theorem blk {w : World} {B : Nat} {v0 v1 v2 v3 v4 v5 : Value} {t : TypeId} (h : w.heap[B]? = some (.cells #[v0, v1, v2, v3, v4, v5] t (0, 0))) : w.cell? ⟨B, 0, none⟩ = some v0 ∧ w.cell? ⟨B, 1, none⟩ = some v1 ∧ w.cell? ⟨B, 2, none⟩ = some v2 ∧ w.cell? ⟨B, 3, none⟩ = some v3 ∧ w.cell? ⟨B, 4, none⟩ = some v4 ∧ w.cell? ⟨B, 5, none⟩ = some v5 :=
  ⟨cellsN h 0 _ rfl, cellsN h 1 _ rfl, cellsN h 2 _ rfl, cellsN h 3 _ rfl, cellsN h 4 _ rfl, cellsN h 5 _ rfl⟩
theorem tw_info : (Tryz.prog.info? 68).map (fun i => (i.zero, i.size, i.bytes)) = some (some (.agg #[.string ⟨#[]⟩, .string ⟨#[]⟩, .int .u64 0, .int .u64 0, .int .u64 0, .int .u64 0]), 6, 64) := by kernel_rfl
/-- Rows of the program's, of the call's own. -/
abbrev twRow (w : World) (base : Nat) (v : Value) (l : List (Rw Kp)) : Prop := rowK trC 68 6 w base v l
abbrev TIs := PtIs trC 6 94
abbrev TAt := PtAt trC 6 94
abbrev Now := NowIs trC 6 73 88
abbrev New := NewRows trC 6
theorem made_no {w : World} {p : Option Addr} (h : NoTp 94 w p) : Calls Tryz.prog 62 #[.pointer p] w fun e w' => e = .returned (.bool false) ∧ w = w' := by
  rcases h.or with rfl | ⟨B, rfl, k⟩
  · clear h
    go_enter Tryz.func62, Tryz.ntmps62
    go_wp2
    go_ret
    exact ⟨rfl, rfl⟩
  · have c0 := cellsN k 0 _ rfl
    clear h k
    go_enter Tryz.func62, Tryz.ntmps62
    go_wp2
    go_ret
    exact ⟨rfl, rfl⟩
section
variable {S : Nat → Prop} {w : World} {B c : Nat} {A : Option Addr} {t : Tb Kp}
theorem made_is (h : TIs S w B A c t) (h1 : 1 ≤ t.most) : Calls Tryz.prog 62 #[.pointer (some ⟨B, 0, none⟩)] w fun e w' => e = .returned (.bool true) ∧ w = w' := by
  have c0 := h.c0
  obtain ⟨m, hm⟩ : ∃ m, t.most = m := ⟨_, rfl⟩
  rw [hm] at c0 h1
  have d0 : decide ((m : Int) > 0) = true := decide_eq_true (by omega)
  have d1 : decide (0 < m) = true := decide_eq_true (by omega)
  clear h hm
  go_enter Tryz.func62, Tryz.ntmps62
  go_wp2
  go_ret
  exact ⟨rfl, rfl⟩
theorem made_yes (h : TAt S w B t) : Calls Tryz.prog 62 #[.pointer (some ⟨B, 0, none⟩)] w fun e w' => e = .returned (.bool true) ∧ w = w' := by
  obtain ⟨hok, A, c, h⟩ := h
  exact made_is h hok.most.1
set_option maxHeartbeats 1000000 in
theorem new_any (m : Int) (w : World) (hm : -9223372036854775808 ≤ m ∧ m ≤ 9223372036854775807) :
    Calls Tryz.prog 20 #[.int .i64 m] w fun e w' => ∃ B, e = .returned (.pointer (some ⟨B, 0, none⟩)) ∧ TAt (fun k => w.heap.size ≤ k) w' B ⟨mostT m, [], 0⟩ ∧ Below w.heap.size w w' := by
  have fin : ∀ (k : Int), k = (mostT m : Int) → ∀ (e : Ending), e = .returned (.pointer (some ⟨w.heap.size, 0, none⟩)) → ∃ B, e = .returned (.pointer (some ⟨B, 0, none⟩)) ∧ TAt (fun k => w.heap.size ≤ k) (w.alloc (.cells #[.int .i64 k, .int .u64 0, .slice none 0 0] 94)) B ⟨mostT m, [], 0⟩ ∧ Below w.heap.size w (w.alloc (.cells #[.int .i64 k, .int .u64 0, .slice none 0 0] 94)) := fun k hk e he => by subst hk; exact ⟨_, he, PtAt.new m w, below1 _ _ _⟩
  have hm1 := hm.1
  have hm2 := hm.2
  have FIN := Lib.hid fin
  clear fin hm
  by_cases h1 : m < 1
  · have hM : Hid ((1 : Int) = (mostT m : Int)) := Lib.hid (by unfold mostT; rw [if_pos h1]; rfl)
    go_enter Tryz.func20, Tryz.ntmps20
    go_wp2
    go_ret
    exact FIN.out 1 hM.out _ rfl
  · by_cases h2 : 64 < m
    · have hM : Hid ((64 : Int) = (mostT m : Int)) := Lib.hid (by unfold mostT; rw [if_neg h1, if_pos h2]; rfl)
      go_enter Tryz.func20, Tryz.ntmps20
      go_wp2
      go_ret
      exact FIN.out 64 hM.out _ rfl
    · have hM : Hid (m = (mostT m : Int)) := Lib.hid (by unfold mostT; rw [if_neg h1, if_neg h2]; omega)
      have h3 : 1 ≤ m := by omega
      have h4 : m ≤ 64 := by omega
      go_enter Tryz.func20, Tryz.ntmps20
      go_wp2
      go_ret
      exact FIN.out m hM.out _ rfl
theorem last_any (h : TAt S w B t) : Calls Tryz.prog 37 #[.pointer (some ⟨B, 0, none⟩)] w fun e w' => e = .returned (.int .u64 (t.last : Int)) ∧ w = w' := by
  have HM := Lib.hid (made_yes h)
  obtain ⟨hok, A, c, h⟩ := h
  have c1 := h.c1
  clear hok h
  go_enter Tryz.func37, Tryz.ntmps37
  go_wp2_with fail
  refine HM.out.mono ?_
  rintro e w' ⟨rfl, rfl⟩
  go_wp2
  go_ret
  exact ⟨rfl, rfl⟩
theorem last_no {p : Option Addr} (h : NoTp 94 w p) : Calls Tryz.prog 37 #[.pointer p] w fun e w' => e = .returned (.int .u64 0) ∧ w = w' := by
  have HM := Lib.hid (made_no h)
  clear h
  go_enter Tryz.func37, Tryz.ntmps37
  go_wp2_with fail
  refine HM.out.mono ?_
  rintro e w' ⟨rfl, rfl⟩
  go_wp2
  go_ret
  exact ⟨rfl, rfl⟩
theorem raise_is (i : Nat) (h : TIs S w B A c t) (h1 : 1 ≤ t.most) : Calls Tryz.prog 53 #[.pointer (some ⟨B, 0, none⟩), .int .u64 (i : Int)] w fun e w' => e = .returned (.tuple #[]) ∧ TIs S w' B A c (t.raise i) ∧ But (· = B) w w' := by
  have HM := Lib.hid (made_is h h1)
  have c1 := h.c1
  have z1 := h.froz 1
  have H := Lib.hid (fun n (e : t.raise i = { t with last := n }) => (⟨by rw [e]; exact h.setLast n, But.set (S := (· = B)) w (p := ⟨B, 1, none⟩) rfl _⟩ : TIs S (w.setCell ⟨B, 1, none⟩ (.int .u64 (n : Int))) B A c (t.raise i) ∧ But (· = B) w (w.setCell ⟨B, 1, none⟩ (.int .u64 (n : Int)))))
  clear h h1
  by_cases h1 : t.last < i
  · have q : (t.last : Int) < (i : Int) := by omega
    have e := Lib.hid (raise_max h1)
    go_enter Tryz.func53, Tryz.ntmps53
    go_wp2_with fail
    refine HM.out.mono ?_
    rintro e w' ⟨rfl, rfl⟩
    go_wp2
    exact bodyPost_end (results_none rfl _ _ _) rfl ⟨rfl, H.out i e.out⟩
  · have q : ¬ (t.last : Int) < (i : Int) := by omega
    have e := Lib.hid (raise_same h1)
    go_enter Tryz.func53, Tryz.ntmps53
    go_wp2_with fail
    refine HM.out.mono ?_
    rintro e w' ⟨rfl, rfl⟩
    go_wp2
    exact bodyPost_end (results_none rfl _ _ _) rfl ⟨rfl, H.out t.last e.out⟩
theorem raise_any (i : Nat) (h : TAt S w B t) (hi : i < 18446744073709551616) : Calls Tryz.prog 53 #[.pointer (some ⟨B, 0, none⟩), .int .u64 (i : Int)] w fun e w' => e = .returned (.tuple #[]) ∧ TAt S w' B (t.raise i) ∧ But (· = B) w w' := by
  obtain ⟨hok, A, c, h⟩ := h
  exact (raise_is i h hok.most.1).mono fun e w' ⟨a, b, d⟩ => ⟨a, ⟨hok.raise hi, A, c, b⟩, d⟩
theorem copy_any (h : TAt S w B t) : Calls Tryz.prog 61 #[.pointer (some ⟨B, 0, none⟩)] w fun e w' => ∃ B', e = .returned (.pointer (some ⟨B', 0, none⟩)) ∧ w.heap.size ≤ B' ∧ TAt (fun k => S k ∨ w.heap.size ≤ k) w' B' t ∧ Below w.heap.size w w' := by
  have HM := Lib.hid (made_yes h)
  obtain ⟨hok, A, c, h⟩ := h
  have c0 := h.c0
  have c1 := h.c1
  have c2 := h.c2
  have HN := Lib.hid (h.copied hok)
  obtain ⟨L, hL⟩ : ∃ L, t.l.length = L := ⟨_, rfl⟩
  rw [hL] at c2 HN
  clear hok h hL
  go_enter Tryz.func61, Tryz.ntmps61
  go_wp2_with fail
  refine HM.out.mono ?_
  rintro e w' ⟨rfl, rfl⟩
  go_wp2
  go_ret
  exact ⟨_, rfl, Nat.le_refl _, HN.out, below1 _ _ _⟩
/-- slices.Values at rows: a function over a box that holds them. -/
theorem values_any (A : Option Addr) (n c : Nat) (w : World) : Calls Tryz.prog 79 #[.slice A n c] w fun e w' => e = .returned (.func (.func 88) #[] #[.pointer (some ⟨w.heap.size, 0, none⟩)]) ∧ w' = w.alloc (.cells #[.slice A n c] 73) := by
  go_enter Tryz.func79, Tryz.ntmps79
  go_wp2
  go_ret
  exact ⟨rfl, rfl⟩
theorem now_is (h : TIs S w B A c t) (hmo : 1 ≤ t.most) : Calls Tryz.prog 64 #[.pointer (some ⟨B, 0, none⟩)] w fun e w' => ∃ v Bx, e = .returned v ∧ Now w w' v t.l Bx A c := by
  have HM := Lib.hid (made_is h hmo)
  have c2 := h.c2
  have HV := Lib.hid (values_any A t.l.length c w)
  have HN : Hid (Now w (w.alloc (.cells #[.slice A t.l.length c] 73)) (.func (.func 88) #[] #[.pointer (some ⟨w.heap.size, 0, none⟩)]) t.l w.heap.size A c) := Lib.hid ⟨rfl, heap_alloc_new w _, h.row.below (below1 _ _ _), Nat.le_refl _, fun b off e hn => by
    obtain ⟨b', off', e', hb, _⟩ := h.row.at_ (j := 0) hn hn
    rw [e] at e'
    cases e'
    exact hb, below1 _ _ _⟩
  obtain ⟨L, hL⟩ : ∃ L, t.l.length = L := ⟨_, rfl⟩
  rw [hL] at c2 HV HN
  clear hmo h hL
  go_enter Tryz.func64, Tryz.ntmps64
  go_wp2_with fail
  refine HM.out.mono ?_
  rintro e w' ⟨rfl, rfl⟩
  go_wp2_with fail
  refine HV.out.mono ?_
  rintro e w' ⟨rfl, rfl⟩
  go_wp2
  go_ret
  exact ⟨_, _, rfl, HN.out⟩
theorem now_no {p : Option Addr} (h : NoTp 94 w p) : Calls Tryz.prog 64 #[.pointer p] w fun e w' => ∃ v Bx A c, e = .returned v ∧ Now w w' v [] Bx A c := by
  have HM := Lib.hid (made_no h)
  have HV := Lib.hid (values_any none 0 0 w)
  have HN : Hid (Now w (w.alloc (.cells #[.slice none 0 0] 73)) (.func (.func 88) #[] #[.pointer (some ⟨w.heap.size, 0, none⟩)]) [] w.heap.size none 0) := Lib.hid ⟨rfl, heap_alloc_new w _, SK.zero, Nat.le_refl _, (fun _ _ e => by cases e), below1 _ _ _⟩
  clear h
  go_enter Tryz.func64, Tryz.ntmps64
  go_wp2_with fail
  refine HM.out.mono ?_
  rintro e w' ⟨rfl, rfl⟩
  go_wp2_with fail
  refine HV.out.mono ?_
  rintro e w' ⟨rfl, rfl⟩
  go_wp2
  go_ret
  exact ⟨_, _, _, _, rfl, HN.out⟩
end
end Go.Proofs.YtohnkagabpefdaaGreatDoor.Kt
