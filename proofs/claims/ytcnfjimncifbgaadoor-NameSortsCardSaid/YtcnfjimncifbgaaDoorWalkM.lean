/-
  The walk of the document's plain Sorted, and of the laws NameSorts and NameAgain (layer 1).
-/
import Derived.Test.YtcnfjimncifbgaaDoorWalkL
import Derived.Test.YtcnfjimncifbgaaDoorWalkE
namespace Go.Proofs.YtcnfjimncifbgaaDoor
open Go.RowKit Go.ChangeShapes Go.WideShapes Go.ChangeAt
set_option linter.unusedSimpArgs false

theorem rWith_length (s : ByteArray) : ∀ (l : List ByteArray), (rWith s true l).length ≤ l.length ∧ (rWith s false l).length ≤ l.length + 1
  | [] => by simp [rWith]
  | x :: r => by
    have h := rWith_length s r
    rw [rWith_laid]
    refine ⟨by simp only [List.length_cons]; omega, ?_⟩
    cases t1 : (x.toList == s.toList) with
    | true => rw [rWith_here _ _ _ t1]; simp only [List.length_cons]; omega
    | false =>
      cases t2 : ltS s x with
      | true => rw [rWith_gap _ _ _ t1 t2]; simp only [List.length_cons]; omega
      | false => rw [rWith_low _ _ _ t1 t2]; simp only [List.length_cons]; omega
theorem rSorted_next {l : List ByteArray} {k : Nat} (hk : k < l.length) : rSorted (l.take (k + 1)) = rWith l[k] false (rSorted (l.take k)) := by
  rw [rSorted, List.take_succ_eq_append_getElem hk, List.foldl_append]
  rfl
theorem rSorted_length (l : List ByteArray) : ∀ k, k ≤ l.length → (rSorted (l.take k)).length ≤ k
  | 0, _ => by simp [rSorted]
  | k + 1, h => by
    rw [rSorted_next (by omega)]
    have := (rWith_length l[k] (rSorted (l.take k))).2
    have := rSorted_length l k (by omega)
    omega

set_option maxHeartbeats 1000000 in
theorem rsorted_any (A : Option Addr) (n c : Nat) (xs : List ByteArray) (w : World) (h : RS w A n xs) (hn : n ≤ 1000) :
    Calls Tryd.prog 21 #[.slice A n c] w fun e w' => Gives w (rSorted xs) e w' := by
  have hl := h.1
  go_enter Tryd.func21, Tryd.ntmps21
  go_wp2
  go_loopw [3, 4] (fun v i wr => ∃ (k : Nat) (A1 : Option Addr) (d1 : Nat), k ≤ n ∧ i = .int .i64 k ∧ v = .slice A1 (rSorted (xs.take k)).length d1 ∧ RS wr A1 (rSorted (xs.take k)).length (rSorted (xs.take k)) ∧ Below w.heap.size w wr) (fun _ i _ => n - (intOf i).toNat)
  case atStart => exact ⟨0, none, 0, Nat.zero_le _, rfl, rfl, RS.zero _ _, Below.refl _ _⟩
  case round =>
    obtain ⟨k, A1, d1, hk, rfl, rfl, hR, hb⟩ := hrel
    by_cases hlt : k < n
    · have q : k < xs.length := by omega
      have hL := rSorted_length xs k (by omega)
      have hnx := rSorted_next q
      obtain ⟨ys, hys⟩ : ∃ ys, rSorted (xs.take k) = ys := ⟨_, rfl⟩
      rw [hys] at hL hnx hR ⊢
      have cw := rwith_any A1 ys.length d1 ys xs[k] wr hR (by omega)
      rw [← hnx] at cw
      obtain ⟨b, off, rfl, hb1, hc⟩ := (h.below hb).2 (by omega)
      have hcell := hc k q
      have HB := Lib.hid hb
      clear hc h hR hnx hys hb
      go_wp2_with (go_at_call 26; refine cw.mono ?_; rintro e w1 ⟨A2, d2, rfl, hR2, hb2⟩)
      have HS := Lib.hid hR2
      have HB2 := Lib.hid (HB.out.trans (hb2.mono HB.out.size))
      clear hR2 hb2
      go_roundw
      case rel => exact ⟨k + 1, A2, d2, by omega, by go_num, rfl, HS.out, HB2.out⟩
      case measure => simp [intOf]; omega
    · obtain rfl : k = n := by omega
      have e : xs.take k = xs := List.take_of_length_le (by omega)
      rw [e] at hR ⊢
      have HS := Lib.hid hR
      have HB := Lib.hid hb
      clear hR hb h e
      go_wp2
      go_ret
      exact ⟨A1, d1, rfl, HS.out, HB.out⟩

/-! ### append of a row that was handed in -/
theorem RS.news {w : World} {ad : Addr} {n : Nat} {xs : List ByteArray} (h : RS w (some ad) n xs) : ∀ j u, (xs.map Value.string)[j]? = some u → w.cell? (ad.add j) = some u := by
  intro j u hu
  have hj : j < xs.length := by
    have := (List.getElem?_eq_some_iff.1 hu).1
    simpa using this
  have hl := h.1
  obtain ⟨b, off, e, _, hc⟩ := h.2 (by omega)
  simp only [Option.some.injEq] at e
  subst e
  rw [List.getElem?_map, List.getElem?_eq_getElem hj] at hu
  simp only [Option.map_some, Option.some.injEq] at hu
  subst hu
  have h1 := hc j hj
  by_cases e : j = 0
  · subst e; simp [Addr.add]
  · simp [Addr.add, e]

theorem wpList_append_rs {P : Program} {w : World} {ops : Array Oper} {rest : List Oper} {o : Oper} {a : Act} {Q : Exit → Act → World → Prop} (hgd : o.guard = none) (s x : Operand) (t : TypeId)
    (ho : o.op = .call { callee := .builtin .append, args := #[s, x], argTypes := #[t, t] })
    (base : Nat) (e : TypeId) (i : TypeInfo) (z : Value) (bytes : Nat) (ht : P.underlying t = some (.slice e)) (hi : P.info? e = some i) (hz : i.zero = some z)
    (hsize : i.size = 1) (hby : i.bytes = bytes) (hzs : z.cells.size = 1)
    (v : Value) (m : Nat) (ys : List Value) (hs : a.eval s = v) (hown : w.ownsRow base e 1 v m ys)
    (A : Option Addr) (n c : Nat) (xs : List ByteArray) (hx : a.eval x = .slice A n c) (hnil : A = none → c = 0) (hR : RS w A n xs)
    (h63 : m + n ≤ maxLen) (hbytes : (m + n) * bytes ≤ 140737488355328) (hbase : base ≤ w.heap.size)
    (h : ∀ v' w', w'.ownsRow base e 1 v' (m + n) (ys ++ xs.map Value.string) → w.grownBy w' v.ownBlock → wpList P ops Q rest (a.put o.dst v') w') : wpList P ops Q (o :: rest) a w := by
  have hl := hR.1
  cases A with
  | none =>
    have hn : n = 0 := by
      rcases Nat.eq_zero_or_pos n with e | e
      · exact e
      · obtain ⟨b, off, e, _⟩ := hR.2 e
        cases e
    subst hn
    obtain rfl := hnil rfl
    obtain rfl : xs = [] := List.eq_nil_of_length_eq_zero hl
    exact wpList_append_own_none hgd s x t ho base e i 1 ht hi v m ys hs hown hx (h v w (by simpa using hown) (World.grownBy.refl w _))
  | some ad =>
    exact wpList_append_own w hgd s x t ho base e i z 1 bytes ht hi hz hsize hby hzs (by decide) v m ys hs hown ad n c (xs.map Value.string) hx (by simp [hl]) hR.news (by
      intro u hu
      simp only [List.mem_map] at hu
      obtain ⟨y, _, rfl⟩ := hu
      rfl) h63 hbytes hbase (fun v' w' h2 h3 _ => h v' w' h2 h3)

/-! ### The calls of the laws, at named lists -/
theorem nsorted_to {A : Option Addr} {n c : Nat} {xs M : List ByteArray} {w : World} (hM : rSorted xs = M) (h : RS w A n xs) (hn : n ≤ 1000) :
    Calls Tryd.prog 20 #[.slice A n c] w fun e w' => Gives w M e w' := by
  rw [← hM, ← nSorted_eq]
  exact nsorted_any A n c xs w h hn
theorem rsorted_to {A : Option Addr} {n c : Nat} {xs M : List ByteArray} {w : World} (hM : rSorted xs = M) (h : RS w A n xs) (hn : n ≤ 1000) :
    Calls Tryd.prog 21 #[.slice A n c] w fun e w' => Gives w M e w' := by
  rw [← hM]
  exact rsorted_any A n c xs w h hn
theorem with_to {A : Option Addr} {n c : Nat} {xs M : List ByteArray} {s : ByteArray} {w : World} (hM : withB xs s = M) (h : RS w A n xs) (hn : n ≤ 1000) :
    Calls Tryd.prog 25 #[.slice A n c, .string s] w fun e w' => Gives w M e w' := by
  rw [← hM]
  exact with_any A n c xs s w h hn
theorem rwith_to {A : Option Addr} {n c : Nat} {xs M : List ByteArray} {s : ByteArray} {w : World} (hS : SS xs) (hM : withB xs s = M) (h : RS w A n xs) (hn : n ≤ 1000) :
    Calls Tryd.prog 26 #[.slice A n c, .string s] w fun e w' => Gives w M e w' := by
  rw [← hM, ← rWith_eq s hS]
  exact rwith_any A n c xs s w h hn
theorem without_to {A : Option Addr} {n c : Nat} {xs M : List ByteArray} {s : ByteArray} {w : World} (hM : withoutB xs s = M) (h : RS w A n xs) (hn : n ≤ 1000) :
    Calls Tryd.prog 27 #[.slice A n c, .string s] w fun e w' => Gives w M e w' := by
  rw [← hM]
  exact without_any A n c xs s w h hn
theorem rwithout_to {A : Option Addr} {n c : Nat} {xs M : List ByteArray} {s : ByteArray} {w : World} (hM : withoutB xs s = M) (h : RS w A n xs) (hn : n ≤ 1000) :
    Calls Tryd.prog 28 #[.slice A n c, .string s] w fun e w' => Gives w M e w' := by
  rw [← hM]
  exact rwithout_any A n c xs s w h hn
theorem has_to {A : Option Addr} {n c : Nat} {xs : List ByteArray} {s : ByteArray} {w : World} {b : Bool} (hS : SS xs) (hb : hasB xs s = b) (h : RS w A n xs) (hn : n ≤ 1000) :
    Calls Tryd.prog 23 #[.slice A n c, .string s] w fun e w' => e = .returned (.bool b) ∧ Below w.heap.size w w' := by
  rw [← hb]
  exact has_any_ A n c xs s w h hn hS
theorem rhas_to {A : Option Addr} {n c : Nat} {xs : List ByteArray} {s : ByteArray} {w : World} {b : Bool} (hb : hasB xs s = b) (h : RS w A n xs) (hn : n ≤ 1000) :
    Calls Tryd.prog 24 #[.slice A n c, .string s] w fun e w' => e = .returned (.bool b) ∧ Below w.heap.size w w' := by
  rw [← hb]
  exact (rhas_any A n c xs s w h hn).mono (by rintro e w' ⟨rfl, rfl⟩; exact ⟨rfl, Below.refl _ _⟩)
theorem same_to {A B : Option Addr} {n c d : Nat} {xs : List ByteArray} {w : World} (h : RS w A n xs) (k : RS w B n xs) (hn : n ≤ 1000) :
    Calls Tryd.prog 22 #[.slice A n c, .slice B n d] w fun e w' => e = .returned (.bool true) ∧ Below w.heap.size w w' :=
  rsame_yes A B n c d xs w h k hn
theorem rising_to {A : Option Addr} {n c : Nat} {xs : List ByteArray} {w : World} (hS : SS xs) (h : RS w A n xs) (hn : n ≤ 1000) :
    Calls Tryd.prog 31 #[.slice A n c] w fun e w' => e = .returned (.bool true) ∧ Below w.heap.size w w' := by
  rw [← rising_SS hS]
  exact rrising_any A n c xs w h hn
theorem withoutB_length (l : List ByteArray) (s : ByteArray) : (withoutB l s).length ≤ l.length := List.length_filter_le _ _
theorem rSorted_length_all (l : List ByteArray) : (rSorted l).length ≤ l.length := by
  have := rSorted_length l l.length (Nat.le_refl _)
  rwa [List.take_length] at this
end Go.Proofs.YtcnfjimncifbgaaDoor
