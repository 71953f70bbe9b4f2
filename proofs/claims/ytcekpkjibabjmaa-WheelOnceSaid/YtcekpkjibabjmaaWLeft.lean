/-
  Left and Next of the program's wheel, walked (layer 6).
-/
import Derived.Test.YtcekpkjibabjmaaWSet
namespace Go.Proofs.Ytcekpkjibabjmaa
open Go.RowKit Go.Maps
set_option linter.unusedSimpArgs false

/-- A number and whether there is one. -/
def optV : Option Nat → Value
  | none => .tuple #[.int .i64 0, .bool false]
  | some n => .tuple #[.int .i64 (n : Int), .bool true]
set_option maxHeartbeats 2000000 in
theorem left_at (S : Nat → Prop) (w : World) (B : Nat) (s : St) (h : WhAt S w B s) (id : Int) (hid : wfI id) (hN : s.now ≤ 1099511627776) :
    Calls Try.prog 19 #[.pointer (some ⟨B, 0, none⟩), .int .i64 id] w fun e w' => e = .returned (optV (s.left id)) ∧ Below w.heap.size w w' := by
  have HM := Lib.hid (made_at h)
  have c0 := h.c0
  obtain ⟨M, g, m, q, h, hI, hT, hok⟩ := h
  have c1 := h.c1
  have hl := h.lt
  unfold St.left
  cases hm : m id with
  | none =>
    have hd : dueOf s.L id = none := by rw [← hT id, hm]; rfl
    obtain ⟨z, hz⟩ : ∃ z : Nat, z = 0 := ⟨0, rfl⟩
    have hlk := h.map.look hid (v := (z, z)) (by rw [hm, hz]; rfl) (is := false) (by simp [hm])
    simp only at hlk
    rw [hd]
    clear h hI hT hok hd hz hm
    go_enter Try.func19, Try.ntmps19
    go_wp2_with fail
    refine HM.out.mono ?_
    rintro e w' ⟨rfl, rfl⟩
    go_wp2
    go_ret2
    exact ⟨rfl, (Below.refl _ w).alloc (Nat.le_refl _) _⟩
  | some x =>
    obtain ⟨d, l⟩ := x
    have hd : dueOf s.L id = some d := by rw [← hT id, hm]; rfl
    have hsn := hok.soon _ (dueOf_mem hd)
    simp only at hsn
    have hlk := h.map.look hid (v := (d, l)) (by simp [hm]) (is := true) (by simp [hm])
    simp only at hlk
    rw [hd]
    obtain ⟨N, hNN⟩ : ∃ N, s.now = N := ⟨_, rfl⟩
    rw [hNN] at c0 hsn hN ⊢
    have q1 : (N : Int) < (d : Int) := by omega
    have q2 : (d : Int) ≤ (N : Int) + 262144 := by omega
    have q3 : (N : Int) ≤ 1099511627776 := by omega
    have q4 : (0 : Int) ≤ (N : Int) := by omega
    have HE : Hid (((d - N : Nat) : Int) = (d : Int) - (N : Int)) := Lib.hid (by omega)
    clear h hI hT hok hd hm hsn hNN
    go_enter Try.func19, Try.ntmps19
    go_wp2_with fail
    refine HM.out.mono ?_
    rintro e w' ⟨rfl, rfl⟩
    go_wp2
    go_quiet (fail)
    go_wp2
    go_ret2
    refine ⟨?_, below_drewN ((Below.refl _ w).alloc (Nat.le_refl _) _) _⟩
    show Ending.returned (.tuple #[.int .i64 ((d : Int) - (N : Int)), .bool true]) = .returned (.tuple #[.int .i64 ((d - N : Nat) : Int), .bool true])
    rw [HE.out]

/-! ### Next -/
/-- What the loop over the map has found: the least of what has come. -/
def LeastOf (L : Tm) (N : Nat) (left : Lit → Bool) (x : Nat) : Prop :=
  (∀ t ∈ L, left (.int .i64 t.1) = false → x ≤ t.2 - N) ∧ (x = 262144 ∨ ∃ t ∈ L, left (.int .i64 t.1) = false ∧ x = t.2 - N) ∧ x ≤ 262144
theorem leastL_of {N : Nat} : ∀ {L : Tm} {x : Nat}, L ≠ [] → (∀ t ∈ L, x ≤ t.2 - N) → (∃ t ∈ L, x = t.2 - N) → leastL N L = some x
  | [], _, h, _, _ => absurd rfl h
  | t :: r, x, _, h1, h2 => by
    unfold leastL
    congr 1
    have ht := h1 t (List.mem_cons_self ..)
    by_cases hr : r = []
    · subst hr
      obtain ⟨t', hm, e⟩ := h2
      obtain rfl := List.mem_singleton.1 hm
      simp [leastL, e]
    · -- the least of the rest is at least x
      have key : ∃ y, leastL N r = some y ∧ x ≤ y ∧ (∃ t' ∈ r, y = t'.2 - N) := by
        have : ∀ r : Tm, r ≠ [] → ∃ y, leastL N r = some y ∧ (∃ t' ∈ r, y = t'.2 - N) ∧ ∀ t' ∈ r, y ≤ t'.2 - N := fun r => by
          induction r with
          | nil => intro h; exact absurd rfl h
          | cons a b ih =>
            intro _
            by_cases hb : b = []
            · subst hb
              exact ⟨a.2 - N, by simp [leastL], ⟨a, by simp, rfl⟩, fun z hz => by obtain rfl := List.mem_singleton.1 hz; exact Nat.le_refl _⟩
            · obtain ⟨y, e, ⟨t', hm, hy⟩, hl⟩ := ih hb
              refine ⟨min (a.2 - N) y, by simp [leastL, e], ?_, fun z hz => ?_⟩
              · by_cases hc : a.2 - N ≤ y
                · exact ⟨a, by simp, by omega⟩
                · exact ⟨t', List.mem_cons_of_mem _ hm, by omega⟩
              · rcases List.mem_cons.1 hz with rfl | hz
                · omega
                · have := hl z hz; omega
        obtain ⟨y, e, ⟨t', hm, hy⟩, _⟩ := this r hr
        exact ⟨y, e, by rw [hy]; exact h1 t' (List.mem_cons_of_mem _ hm), t', hm, hy⟩
      obtain ⟨y, e, hxy, t', hm', hy⟩ := key
      rw [e]
      simp only
      obtain ⟨t2, hm2, e2⟩ := h2
      rcases List.mem_cons.1 hm2 with rfl | hm2
      · omega
      · -- x is reached in the rest
        have hy2 : y ≤ x := by
          have : ∀ r : Tm, ∀ y, leastL N r = some y → ∀ t' ∈ r, y ≤ t'.2 - N := fun r => by
            induction r with
            | nil => intro y e; cases e
            | cons a b ih =>
              intro y e z hz
              unfold leastL at e
              cases hb : leastL N b with
              | none =>
                rw [hb] at e
                simp only [Option.some.injEq] at e
                have : b = [] := leastL_none.1 hb
                subst this
                obtain rfl := List.mem_singleton.1 hz
                omega
              | some v =>
                rw [hb] at e
                simp only [Option.some.injEq] at e
                rcases List.mem_cons.1 hz with rfl | hz
                · omega
                · have := ih v hb z hz; omega
          rw [e2]
          exact this r y e t2 hm2
        omega
theorem LeastOf.start (L : Tm) (N : Nat) (left : Lit → Bool) (h : ∀ t ∈ L, left (.int .i64 t.1) = true) : LeastOf L N left 262144 :=
  ⟨(fun t ht hl => by rw [h t ht] at hl; cases hl), .inl rfl, Nat.le_refl _⟩
theorem LeastOf.step {L : Tm} {N : Nat} {left : Lit → Bool} {x : Nat} (h : LeastOf L N left x) (hR : Rise L) {id : Int} {d : Nat} (hm : (id, d) ∈ L) : LeastOf L N (fun z => left z && !z.sameKey (.int .i64 id)) (min x (d - N)) := by
  obtain ⟨h1, h2, h3⟩ := h
  have key : ∀ t ∈ L, (left (.int .i64 t.1) && !(Lit.int .i64 t.1).sameKey (.int .i64 id)) = false → left (.int .i64 t.1) = false ∨ t = (id, d) := fun t ht hl => by
    by_cases e : t.1 = id
    · refine .inr ?_
      have e1 := dueOf_of_mem hR hm
      have e2 := dueOf_of_mem hR (id := t.1) (d := t.2) ht
      rw [e, e1] at e2
      simp only [Option.some.injEq] at e2
      exact Prod.ext e e2.symm
    · refine .inl ?_
      simpa [Lit.sameKey, e] using hl
  refine ⟨fun t ht hl => ?_, ?_, by omega⟩
  · rcases key t ht hl with hl | rfl
    · have := h1 t ht hl; omega
    · simp only; omega
  · by_cases hc : x ≤ d - N
    · rcases h2 with h2 | ⟨t, ht, hl, e⟩
      · exact .inl (by omega)
      · exact .inr ⟨t, ht, by simp [hl], by omega⟩
    · exact .inr ⟨(id, d), hm, by simp [Lit.sameKey], by simp only; omega⟩
theorem LeastOf.done {L : Tm} {N : Nat} {left : Lit → Bool} {x : Nat} (h : LeastOf L N left x) (hl : ∀ k, left k = false) (hne : L ≠ []) (hs : ∀ t ∈ L, t.2 ≤ N + 262144) : leastL N L = some x := by
  obtain ⟨h1, h2, h3⟩ := h
  refine leastL_of hne (fun t ht => h1 t ht (hl _)) ?_
  rcases h2 with h2 | ⟨t, ht, _, e⟩
  · obtain ⟨t, ht⟩ := List.exists_mem_of_ne_nil L hne
    have := h1 t ht (hl _)
    have := hs t ht
    exact ⟨t, ht, by omega⟩
  · exact ⟨t, ht, e⟩
set_option maxHeartbeats 8000000 in
theorem next_at (S : Nat → Prop) (w : World) (B : Nat) (s : St) (h : WhAt S w B s) (hN : s.now ≤ 1099511627776) :
    Calls Try.prog 20 #[.pointer (some ⟨B, 0, none⟩)] w fun e w' => e = .returned (optV s.next) ∧ Below w.heap.size w w' := by
  have HM := Lib.hid (made_at h)
  have hlen := h.len
  have c0 := h.c0
  have hat := h
  obtain ⟨M, g, m, q, h, hI, hT, hok⟩ := h
  have c1 := h.c1
  have hlt := h.lt
  obtain ⟨M', c1', hlen⟩ := hlen
  have eM : M' = M := by rw [c1] at c1'; simpa using c1'.symm
  rw [eM] at hlen
  unfold St.next
  by_cases hL : s.L = []
  · rw [hL] at hlen ⊢
    simp only [List.length_nil] at hlen
    clear h hI hT hok hat c1' hL eM
    go_enter Try.func20, Try.ntmps20
    go_wp2_with fail
    refine HM.out.mono ?_
    rintro e w' ⟨rfl, rfl⟩
    go_wp2
    go_ret2
    exact ⟨rfl, Below.refl _ _⟩
  · obtain ⟨D, ho, h2⟩ := h.map
    have q0 : ((s.L.length : Int) == 0) = false := by rw [beq_eq_false_iff_ne]; have := List.length_pos_iff.2 hL; omega
    have HOw := Lib.hid ho
    have HT2 := Lib.hid h2
    have HW := Lib.hid hat
    obtain ⟨N, hNN⟩ : ∃ N, s.now = N := ⟨_, rfl⟩
    obtain ⟨L, hLL⟩ : ∃ L, s.L = L := ⟨_, rfl⟩
    have HSoon : Hid (∀ t ∈ L, N < t.2 ∧ t.2 ≤ N + 262144) := Lib.hid (by rw [← hNN, ← hLL]; exact hok.soon)
    have HRise : Hid (Rise L) := Lib.hid (by rw [← hLL]; exact hok.rise)
    have HTie : Hid (Tie m L) := Lib.hid (by rw [← hLL]; exact hT)
    have HWf : Hid (∀ t ∈ L, wfI t.1) := Lib.hid (by rw [← hLL]; exact hok.wf)
    have HNe : Hid (L ≠ []) := Lib.hid (by rw [← hLL]; exact hL)
    rw [hNN] at c0 hN ⊢
    rw [hLL] at hlen q0 ho ⊢
    clear h hI hT hok hat c1' hL h2 ho hNN hLL eM
    go_enter Try.func20, Try.ntmps20
    go_wp2_with fail
    refine HM.out.mono ?_
    rintro e w' ⟨rfl, rfl⟩
    have ho := HOw.out
    go_wp2_with (at_range; refine wpList_range_own _ rfl _ 44 rfl 3 58 law Try.underlying44 _ M _ D rfl ho ?_; intro w0 hrg0 hg0 hs0)
    go_frame
    have HR0 := Lib.hid hrg0
    have HB0 : Hid (Below w.heap.size w w0) := Lib.hid ((Below.refl _ w).grown hg0 (Nat.le_refl _) (fun k e => by cases e))
    have HL0 : Hid (LeastOf L N (has D) 262144) := Lib.hid (LeastOf.start L N _ (fun t ht => by
      rw [(HT2.out _ (HWf.out t ht)).1, HTie.out.isSome]
      unfold hasL
      rw [dueOf_of_mem HRise.out (id := t.1) (d := t.2) ht]
      rfl))
    clear hrg0 hg0 hs0 ho
    go_loopw [4] (fun nx wr => ∃ (left : Lit → Bool) (cnt x : Nat), nx = .int .i64 (x : Int) ∧ x ≤ 262144 ∧ Hid (wr.ranges Try.prog 3 tmE M w.heap.size s.L.length D left cnt) ∧ Hid (LeastOf L N left x) ∧ Hid (Below w.heap.size w wr)) (fun _ wr => wr.rangeLeft M w.heap.size)
    case atStart => exact ⟨_, _, 262144, rfl, Nat.le_refl _, HR0, HL0, HB0⟩
    case round =>
      obtain ⟨left, cnt, x, rfl, hx, hrg, hle, hbe⟩ := hrel
      have cr := (hbe.out.cell (p := ⟨B, 0, none⟩) hlt).trans c0
      have hrg' := hrg.out
      go_wp2_with (at_next; refine wpList_next_ranges _ rfl _ rfl 3 law tmE (Value.int .i64) tmV (fun key kl hk => by obtain ⟨x, hx, _⟩ := Maps.keyOf_i64 Try.underlying3 hk; exact ⟨x, hx⟩) (fun v y hv => by obtain ⟨c, hc, _⟩ := tmE_inv hv; exact ⟨c, hc⟩) M w.heap.size _ D left cnt rfl hrg' ?_ ?_)
      · intro hc0 hl0
        have HD := Lib.hid (hle.out.done hl0 HNe.out (fun t ht => (HSoon.out t ht).2))
        clear hl0 hrg'
        go_wp2
        go_ret2
        rw [HD.out]
        exact ⟨rfl, hbe.out⟩
      · intro id d l kl yd yp w1 cnt1 hkey hlk hv hat hrg1 hlt1 hg1 hs1 hen
        obtain ⟨id', e1, rfl, hw⟩ := Maps.keyOf_i64 Try.underlying3 hkey
        obtain rfl : id = id' := by simpa [encZ] using e1
        have hwid : wfI id := by
          have e1 : IntKind.i64.min = -9223372036854775808 := by decide
          have e2 : IntKind.i64.max = 9223372036854775807 := by decide
          simp [Lit.wf] at hw
          unfold wfI
          omega
        have hmem : (id, d) ∈ L := by
          have h1 := HT2.out id hwid
          have h2 := has_true_of_atKey hat
          rw [h1.1] at h2
          obtain ⟨x0, hx0⟩ := Option.isSome_iff_exists.1 h2
          have h3 := h1.2 x0 hx0 (tmD (0, 0))
          rw [hat] at h3
          obtain ⟨x1, e3, e4⟩ := tmE_inv hv
          have e5 : x1 = (d, l) := by
            unfold tmV at e3
            simp only [Value.agg.injEq, Array.mk.injEq, List.cons.injEq, Value.int.injEq, true_and, and_true] at e3
            exact Prod.ext (by omega) (by omega)
          simp only [Prod.mk.injEq] at e4
          rw [e4.1, e5] at h3
          have e6 := tmD_inj h3
          have h4 := HTie.out id
          rw [hx0, ← e6] at h4
          exact dueOf_mem h4.symm
        have HLe := Lib.hid (hle.out.step HRise.out hmem)
        have HB1 : Hid (Below w.heap.size w w1) := Lib.hid (hbe.out.grown hg1 hbe.out.size (fun k e => by cases e; exact Nat.le_refl _))
        have hsd := HSoon.out _ hmem
        simp only at hsd
        have q1 : (N : Int) < (d : Int) := by omega
        have q2 : (d : Int) ≤ (N : Int) + 262144 := by omega
        have q3 : (N : Int) ≤ 1099511627776 := by omega
        have q4 : (0 : Int) ≤ (N : Int) := by omega
        have HMin : Hid (((min x (d - N) : Nat) : Int) = min (x : Int) ((d : Int) - (N : Int))) := Lib.hid (by omega)
        have cr1 := (HB1.out.cell (p := ⟨B, 0, none⟩) hlt).trans c0
        unfold tmV at hen
        simp only at hen
        have HR1 := Lib.hid hrg1
        have hlc : Hid (cnt1 < cnt) := Lib.hid hlt1
        clear hkey hlk hv hat hrg1 hlt1 hg1 hs1 hmem hw e1 hrg' hsd cr
        simp only [tmV]
        have crA : (w1.alloc (.cells #[.int .i64 (d : Int), .int .i64 (l : Int)] 58)).cell? ⟨B, 0, none⟩ = some (.int .i64 (N : Int)) := by
          rw [World.cell?_alloc_past _ _ _ (Nat.lt_of_lt_of_le hlt HB1.out.size)]; exact cr1
        go_wp2
        go_quiet (fail)
        have HR3 : Hid (((w1.alloc (.cells #[.int .i64 (d : Int), .int .i64 (l : Int)] 58)).drewN nq).ranges Try.prog 3 tmE M w.heap.size s.L.length D (fun z => left z && !z.sameKey (.int .i64 id)) cnt1) := Lib.hid ((HR1.out.alloc _).kept (row := none) ⟨rfl, rfl, rfl, Nat.le_refl _, fun _ _ _ => rfl⟩ (by simp) (by simp))
        have HB3 : Hid (Below w.heap.size w ((w1.alloc (.cells #[.int .i64 (d : Int), .int .i64 (l : Int)] 58)).drewN nq)) := Lib.hid (below_drewN (HB1.out.alloc HB1.out.size _) nq)
        clear cr1 crA hen
        go_wp2
        go_roundw
        case rel => exact ⟨_, _, min x (d - N), by rw [HMin.out], by omega, HR3, HLe, HB3⟩
        case measure => rw [HR3.out.left_eq, hrg.out.left_eq]; exact hlc.out
end Go.Proofs.Ytcekpkjibabjmaa
