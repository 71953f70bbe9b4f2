/-
  The program's lay, walked (layer 20).
-/
import Derived.Test.YtbhhalkpghcflaaZj19
namespace Go.Proofs.Ytbhhalkpghcflaa
open Go.RowKit
set_option linter.unusedSimpArgs false
set_option linter.unusedVariables false

theorem textB_le {s : List UInt8} (h : s.length ≤ 80) : (textB s).length ≤ 89 := by
  have := numB_le (n := s.length) (by omega)
  unfold textB
  rw [List.length_append]
  omega
theorem texts_le : ∀ {l : List (List UInt8)}, (∀ s ∈ l, s.length ≤ 80) → (l.flatMap textB).length ≤ 89 * l.length
  | [], _ => Nat.le_refl _
  | s :: l, h => by
    have h1 := textB_le (h s (by simp))
    have h2 := texts_le fun t ht => h t (List.mem_cons_of_mem s ht)
    rw [List.flatMap_cons, List.length_append, List.length_cons]
    omega
theorem bytes_le {v : Fv} (h : v.right = true) (hi : ∀ n, v = .idx n → n ≤ c64) : v.bytes.length ≤ 721 := by
  cases v with
  | num z =>
    simp only [Fv.right, Bool.and_eq_true, decide_eq_true_eq] at h
    have := numB_le (n := z.toNat) (by omega)
    show (numB z.toNat).length ≤ 721
    omega
  | text s =>
    simp only [Fv.right, decide_eq_true_eq] at h
    have := textB_le h
    show (textB s).length ≤ 721
    omega
  | texts l =>
    simp only [Fv.right, Bool.and_eq_true, decide_eq_true_eq, List.all_eq_true] at h
    have h1 := numB_le (n := l.length) (by omega)
    have h2 := texts_le h.2
    show (textsB l).length ≤ 721
    unfold textsB
    rw [List.length_append]
    omega
  | flag b =>
    have : (flagB b).length ≤ 9 := by rw [flagB]; exact numB_le (by cases b <;> simp)
    show (flagB b).length ≤ 721
    omega
  | idx n =>
    have := numB_le (n := n) (by have := hi n rfl; unfold c64 at this; omega)
    show (numB n).length ≤ 721
    omega
/-- The fields that a command has are right. -/
def FOk (x : CmW) (tags : List (List UInt8)) : Prop := ∀ k v, (x.vals tags)[k]? = some v → hasB x.kind.toNat k = true → v.right = true
section
variable {w : World} {N b k : Nat} {x : CmW} {tags : List (List UInt8)} {sB : List UInt8}
theorem idx_le (h0 : Cm0 w x tags) {v : Fv} (hv : (x.vals tags)[k]? = some v) : ∀ n, v = .idx n → n ≤ c64 := by
  rintro n rfl
  have h1 := h0.small.old
  have h2 := h0.small.ses
  have hm := List.mem_of_getElem? hv
  unfold c64
  simp only [CmW.vals, List.mem_cons, reduceCtorEq, false_or, List.not_mem_nil, or_false, Fv.idx.injEq] at hm
  omega
theorem preB_len (h0 : Cm0 w x tags) (hf : FOk x tags) (hk : x.kind.toNat ≤ 18) : ∀ k, k ≤ 15 → (preB x tags sB k).length ≤ 9 + 721 * k
  | 0, _ => numB_le (by omega)
  | k + 1, h => by
    have h1 := preB_len h0 hf hk k (by omega)
    have hlt : k < (x.vals tags).length := by show k < 15; omega
    unfold preB
    rw [List.length_append, List.getElem?_eq_getElem hlt]
    cases hb : hasB x.kind.toNat k with
    | false => simp; omega
    | true =>
      have h2 := bytes_le (hf k _ (List.getElem?_eq_getElem hlt) hb) (idx_le h0 (List.getElem?_eq_getElem hlt))
      simp only [if_true]
      omega
/-- What a field adds. -/
def fldB (x : CmW) (tags : List (List UInt8)) (sB : List UInt8) (k : Nat) : List UInt8 := match (x.vals tags)[k]? with | some v => v.bytes | none => sB
theorem num_rt {z : Int} (h : (Fv.num z).right = true) : ∃ n : Nat, z = n ∧ n ≤ 65535 := by
  simp only [Fv.right, Bool.and_eq_true, decide_eq_true_eq] at h
  exact ⟨z.toNat, by omega, by omega⟩
theorem num_at {z : Int} {p : Addr} {v : Value} {ys : List UInt8} (hr : (Fv.num z).right = true) (h1 : w.cell? ⟨b, 0, none⟩ = some (.pointer (some p))) (h2 : w.cell? p = some (.int .i64 z)) (hv : Bs w v ys) (hy : ys.length ≤ 1000000) : Calls Try.prog 59 #[v, .pointer (some ⟨b, 0, none⟩)] w (LaysT w (ys ++ (Fv.num z).bytes)) := by
  obtain ⟨n, rfl, hn⟩ := num_rt hr
  exact num_lay n h1 h2 hn hv hy
theorem texts_at {p : Addr} {v : Value} {ys : List UInt8} (h0 : Cm0 w x tags) (hr : (Fv.texts tags).right = true) (h1 : w.cell? ⟨b, 0, none⟩ = some (.pointer (some p))) (h2 : w.cell? p = some (.slice x.tA x.tn x.tc)) (hv : Bs w v ys) (hy : ys.length ≤ 1000000) : Calls Try.prog 71 #[v, .pointer (some ⟨b, 0, none⟩)] w (LaysT w (ys ++ (Fv.texts tags).bytes)) := by
  have hl := bytes_le hr (fun n e => by cases e)
  simp only [Fv.right, Bool.and_eq_true, decide_eq_true_eq] at hr
  exact texts_lay x.tA x.tn x.tc tags h1 h2 h0.row (by have := h0.len; omega) (Nat.le_trans hl (by omega)) hv (by omega)
theorem lay_at {subs : List Sub} {v : Value} {ys : List UInt8} (hB : Bx w N x) (h0 : Cm0 w x tags) (hf : FOk x tags) (hb : w.cell? ⟨b, 0, none⟩ = some (.pointer (some ⟨N, 1 + k, none⟩))) (hk : k < 16) (hh : hasB x.kind.toNat k = true) (hv : Bs w v ys) (hy : ys.length ≤ 900000)
    (hs : k = 15 → ys.length ≤ 500000 ∧ x.sn ≤ 8 ∧ SK cmC 17 w x.sA x.sn (subs.map (·.1)) ∧ ∀ y ∈ subs, LaysS w y.1 (subB y)) :
    Calls Try.prog (fnL k) #[v, .pointer (some ⟨b, 0, none⟩)] w (LaysT w (ys ++ fldB x tags (subsB subs) k)) := by
  match k, hk with
  | 0, _ => exact num_at (z := x.node) (hf 0 _ rfl hh) hb (hB.c_ 1 _ rfl) hv (by omega)
  | 1, _ => exact num_at (z := x.port) (hf 1 _ rfl hh) hb (hB.c_ 2 _ rfl) hv (by omega)
  | 2, _ => exact num_at (z := x.status) (hf 2 _ rfl hh) hb (hB.c_ 3 _ rfl) hv (by omega)
  | 3, _ => exact text_lay x.id hb (hB.c_ 4 _ rfl) (by simpa [Fv.right] using hf 3 _ rfl hh) hv (by omega)
  | 4, _ => exact text_lay x.name hb (hB.c_ 5 _ rfl) (by simpa [Fv.right] using hf 4 _ rfl hh) hv (by omega)
  | 5, _ => exact text_lay x.svc hb (hB.c_ 6 _ rfl) (by simpa [Fv.right] using hf 5 _ rfl hh) hv (by omega)
  | 6, _ => exact text_lay x.note hb (hB.c_ 7 _ rfl) (by simpa [Fv.right] using hf 6 _ rfl hh) hv (by omega)
  | 7, _ => exact text_lay x.key hb (hB.c_ 8 _ rfl) (by simpa [Fv.right] using hf 7 _ rfl hh) hv (by omega)
  | 8, _ => exact text_lay x.val hb (hB.c_ 9 _ rfl) (by simpa [Fv.right] using hf 8 _ rfl hh) hv (by omega)
  | 9, _ => exact text_lay x.src hb (hB.c_ 10 _ rfl) (by simpa [Fv.right] using hf 9 _ rfl hh) hv (by omega)
  | 10, _ => exact text_lay x.dst hb (hB.c_ 11 _ rfl) (by simpa [Fv.right] using hf 10 _ rfl hh) hv (by omega)
  | 11, _ => exact texts_at h0 (hf 11 _ rfl hh) hb (hB.c_ 12 _ rfl) hv (by omega)
  | 12, _ => exact flag_lay x.allow hb (hB.c_ 13 _ rfl) hv (by omega)
  | 13, _ => exact idx_lay x.old hb (hB.c_ 14 _ rfl) h0.small.old hv (by omega)
  | 14, _ => exact idx_lay x.ses hb (hB.c_ 15 _ rfl) h0.small.ses hv (by omega)
  | 15, _ => exact subs_lay b x.sn x.sc _ x.sA subs v ys w hb (hB.c_ 16 _ rfl) (hs rfl).2.2.1 (hs rfl).2.1 (hs rfl).2.2.2 hv (hs rfl).1
  | k + 16, h => exact absurd h (by omega)
end
set_option maxRecDepth 100000 in
set_option maxHeartbeats 4000000 in
theorem lay_gen (x : CmW) (tags : List (List UInt8)) (subs : List Sub) (v : Value) (ys : List UInt8) (w : World) (h0 : Cm0 w x tags) (hf : FOk x tags) (hki : 1 ≤ x.kind ∧ x.kind ≤ 18) (hv : Bs w v ys) (hy : ys.length ≤ 800000)
    (hs : hasB x.kind.toNat 15 = true → ys.length ≤ 400000 ∧ x.sn ≤ 8 ∧ SK cmC 17 w x.sA x.sn (subs.map (·.1)) ∧ ∀ y ∈ subs, LaysS w y.1 (subB y)) :
    Calls Try.prog 20 #[v, cmV x] w (LaysT w (ys ++ cmdB x tags subs)) := by
  have hb0 := (Below.refl _ w).alloc (Nat.le_refl _) (.cells (cmC x).toArray TCm)
  obtain ⟨A0, c0, rfl, hr0, hn0, hnc0, hcm0⟩ := (hv.below hb0).ex
  obtain ⟨KN, hKN⟩ : ∃ KN : Nat, x.kind = KN := ⟨x.kind.toNat, by omega⟩
  have hKN2 : x.kind.toNat = KN := by omega
  have CN := Lib.hid ((Num_any A0 ys.length c0 ys KN (by omega) _ hr0 hn0 hnc0 (by omega)).mono fun e w' h => lays_of h)
  rw [show ys ++ numB KN = ys ++ preB x tags (subsB subs) 0 by unfold preB; rw [hKN2]] at CN
  have CS := Lib.hid (fun W => setOf_any x.kind W)
  obtain ⟨M, hM⟩ : ∃ M, maskN x.kind = M := ⟨_, rfl⟩
  have CB := Lib.hid (fun k hk W => bit_has M k W (by rw [← hM]; exact maskN_lt _) hk)
  have HBIT := Lib.hid (show ∀ k, k < 16 → M.testBit k = hasB x.kind.toNat k from fun k hk => by rw [← hM]; exact maskN_bit _ hk)
  rw [hM] at CS
  have HLEN := Lib.hid (fun k hk => preB_len (sB := subsB subs) h0 hf (by omega) k hk)
  have HBx := Lib.hid (Bx.new w x)
  have H0 := Lib.hid h0
  have HF := Lib.hid hf
  have HS := Lib.hid hs
  have HY := Lib.hid hy
  obtain ⟨R, hR⟩ : ∃ R, ys ++ cmdB x tags subs = R := ⟨_, rfl⟩
  have END := Lib.hid (show ys ++ preB x tags (subsB subs) 16 = R from hR)
  rw [hR]
  have hb1 := hb0
  unfold cmC strV at CN
  have e1 : IntKind.u64.wrap x.kind = x.kind := by unfold IntKind.wrap; simp [IntKind.signed, IntKind.bits]; omega
  have HB0 := Lib.hid hb0
  obtain ⟨KI, hKI⟩ : ∃ KI, x.kind = KI := ⟨_, rfl⟩
  have HKI := Lib.hid hKI
  have hki2 : 0 ≤ x.kind := by omega
  have CN2 : Hid (Calls Try.prog 19 #[.slice A0 ys.length c0, .int .u64 x.kind] _ _) := Lib.hid (by rw [hKN]; exact CN.out)
  clear h0 hf hki hv hy hs hb0 hr0 hn0 hnc0 hcm0 hKN hKN2 hM hR hb1 hKI CN
  unfold cmV strV
  go_enter Try.func20, Try.ntmps20
  obtain ⟨h, hh⟩ : ∃ h, w.heap.size + 1 = h := ⟨_, rfl⟩
  go_wp2_with fail
  refine CN2.out.mono ?_
  rintro e w1 ⟨v1, rfl, hv1, hb1⟩
  have HV1 := Lib.hid hv1
  have HB1 := Lib.hid (HB0.out.trans (hb1.mono (by simp)))
  have HBX1 := Lib.hid (HBx.out.below hb1 (by simp))
  clear hv1 hb1 CN2 e1 hki2
  obtain ⟨H1, hH1⟩ : ∃ H1, w1.heap.size = H1 := ⟨_, rfl⟩
  obtain ⟨acs, hacs⟩ : ∃ acs, (acCs H1).toArray = acs := ⟨_, rfl⟩
  have HIX := Lib.hid (fun k hk w => ac_index H1 k hk w)
  rw [hacs] at HIX
  have CA : Hid (Calls Try.prog 34 #[.pointer (some ⟨w.heap.size, 0, none⟩)] w1 fun e w' => e = .returned (.agg acs) ∧ AcAt w' H1 w.heap.size ∧ w'.heap.size = H1 + 33 ∧ Below w1.heap.size w1 w') := Lib.hid (by
    have := accesses_any w.heap.size w1
    rw [hH1, hacs] at this
    rw [hH1]
    exact this)
  clear hH1 hacs hh
  go_wp2_with fail
  refine CA.out.mono ?_
  rintro e w2 ⟨rfl, hac, hsz, hb⟩
  have HAC := Lib.hid hac
  have HSZ := Lib.hid hsz
  have HV2 := Lib.hid (HV1.out.below hb)
  have HB2 := Lib.hid (HB1.out.trans (hb.mono HB1.out.size))
  have HBX := Lib.hid (HBX1.out.below hb HBX1.out.lt)
  clear hac hsz hb CA HV1 HB1 HBX1 HBx HB0
  go_wp2
  go_loopw [13, 0] (fun i v wr => ∃ k : Nat, k ≤ 16 ∧ i = .int .i64 k ∧ Bs wr v (ys ++ preB x tags (subsB subs) k) ∧ Below w2.heap.size w2 wr) (fun i _ _ => 16 - (intOf i).toNat)
  case atStart => exact ⟨0, Nat.zero_le _, rfl, HV2.out, Below.refl _ _⟩
  case round =>
    obtain ⟨k, hk, rfl, hU, hb⟩ := hrel
    have HU := Lib.hid hU
    have HB := Lib.hid hb
    clear hU hb
    by_cases hlt : k < 16
    · have u1 : (k : Int) < 16 := by omega
      have hix := HIX.out k hlt
      have HBW := Lib.hid (HB2.out.trans (HB.out.mono HB2.out.size))
      have CL : Hid (hasB x.kind.toNat k = true → ∀ v, Bs wr v (ys ++ preB x tags (subsB subs) k) → ∀ W, Below wr.heap.size wr W → Calls Try.prog (fnL k) #[v, .pointer (some ⟨H1 + 1 + 2 * k, 0, none⟩)] W (LaysT W (ys ++ preB x tags (subsB subs) k ++ fldB x tags (subsB subs) k))) := Lib.hid (fun hbit v hv W hW => by
        have hb3 := HB.out.trans (hW.mono HB.out.size)
        have hb4 := HBW.out.trans (hW.mono HBW.out.size)
        have hln : (ys ++ preB x tags (subsB subs) k).length ≤ ys.length + 10900 := by
          rw [List.length_append]
          have := HLEN.out k (by omega)
          omega
        have hy := HY.out
        refine lay_at (HBX.out.below hb3 HBX.out.lt) (H0.out.below hb4) HF.out ((HAC.out.below hb3 (by have := HSZ.out; omega)) k hlt) hlt hbit (hv.below hW) (by omega) (fun e => ?_)
        subst e
        obtain ⟨g1, g2, g3, g4⟩ := HS.out hbit
        exact ⟨by omega, g2, g3.below hb4, fun y hy => (g4 y hy).below hb4⟩)
      have hcl := call_fnL k hlt
      have CBk := Lib.hid (CB.out k hlt)
      have HBk := Lib.hid (HBIT.out k hlt)
      have PRE : Hid (∀ B, hasB x.kind.toNat k = B → preB x tags (subsB subs) (k + 1) = preB x tags (subsB subs) k ++ (if B then fldB x tags (subsB subs) k else [])) := Lib.hid (fun B hB => by subst hB; rfl)
      have q0 : ∀ W, Below wr.heap.size wr W → W.cell? ⟨w.heap.size, 0, none⟩ = some (.int .i64 x.kind) := fun W hW => (HBX.out.below (HB.out.trans (hW.mono HB.out.size)) HBX.out.lt).c0
      unfold acC fnV at hix
      generalize fnE k = e0 at hix
      generalize fnR k = r0 at hix
      generalize fnL k = l0 at hix CL hcl
      generalize fnD k = d0 at hix
      generalize capR k (H1 + 1 + 2 * k) = cr at hix
      generalize H1 + 1 + 2 * k = b at hix CL
      have q1 := q0 _ ((Below.refl _ wr).alloc (Nat.le_refl _) (.cells #[.func (.func e0) #[] #[.pointer (some ⟨b, 0, none⟩)], .func (.func r0) #[] cr, .func (.func l0) #[] #[.pointer (some ⟨b, 0, none⟩)], .func (.func d0) #[] #[.pointer (some ⟨b, 0, none⟩)]] TAc))
      clear q0
      cases hbit : M.testBit k with
      | true =>
        have CL2 := Lib.hid (CL.out (HBk.out.symm.trans hbit) _ HU.out)
        have PRE2 := Lib.hid (PRE.out true (HBk.out.symm.trans hbit))
        rw [hbit] at CBk
        clear hbit CL PRE HBk
        go_wp2_with (first | (go_at_call 33; refine (CS.out _).mono ?_; rintro e wA ⟨rfl, rfl⟩) | (go_at_call 35; refine (CBk.out _).mono ?_; rintro e wA ⟨rfl, rfl⟩))
        refine (CL2.out _ ((Below.refl _ wr).alloc (Nat.le_refl _) _)).mono ?_
        rintro e w3 ⟨v3, rfl, hv3, hb3⟩
        have HV3 := Lib.hid hv3
        have HB3 := Lib.hid (((Below.refl _ wr).alloc (Nat.le_refl _) _).trans (hb3.mono (by simp)))
        clear hv3 hb3
        go_wp2
        go_roundw
        case rel => exact ⟨k + 1, by omega, by go_num, by rw [PRE2.out, ← List.append_assoc]; exact HV3.out, HB.out.trans (HB3.out.mono HB.out.size)⟩
        case measure => simp [intOf]; omega
      | false =>
        have PRE2 := Lib.hid (PRE.out false (HBk.out.symm.trans hbit))
        rw [hbit] at CBk
        clear hbit CL PRE HBk hcl
        go_wp2_with (first | (go_at_call 33; refine (CS.out _).mono ?_; rintro e wA ⟨rfl, rfl⟩) | (go_at_call 35; refine (CBk.out _).mono ?_; rintro e wA ⟨rfl, rfl⟩))
        go_roundw
        case rel => exact ⟨k + 1, by omega, by go_num, by rw [PRE2.out]; simp only [Bool.false_eq_true, if_false, List.append_nil]; exact HU.out.below ((Below.refl _ wr).alloc (Nat.le_refl _) _), HB.out.trans (((Below.refl _ wr).alloc (Nat.le_refl _) _).mono HB.out.size)⟩
        case measure => simp [intOf]; omega
    · obtain rfl : k = 16 := by omega
      have HE := HU.out
      rw [END.out] at HE
      have HE2 := Lib.hid HE
      clear HE
      go_wp2
      go_ret
      exact ⟨_, rfl, HE2.out, HB2.out.trans (HB.out.mono HB2.out.size)⟩
end Go.Proofs.Ytbhhalkpghcflaa
/-
  The program's Right and Put (layer 20).
-/
namespace Go.Proofs.Ytbhhalkpghcflaa
open Go.RowKit
set_option linter.unusedSimpArgs false
set_option linter.unusedVariables false

theorem all_range {n : Nat} {f : Nat → Bool} (h : (List.range n).all f = true) {k : Nat} (hk : k < n) : f k = true := List.all_eq_true.1 h k (List.mem_range.2 hk)
theorem fOk_all {x : CmW} {tags : List (List UInt8)} (h : fieldsOk x.kind.toNat (x.vals tags) = true) : FOk x tags := fun k v hv hb => by
  have hk : k < 15 := (List.getElem?_eq_some_iff.1 hv).1
  have h1 := all_range h hk
  simp only [fOk, hb, if_true, List.getD_eq_getElem?_getD, hv, Option.getD_some] at h1
  exact h1
theorem kind_of {k : Int} (h : kindOk k = true) : 1 ≤ k ∧ k ≤ 18 := by
  unfold kindOk at h
  simpa using h
theorem not15 {k : Int} (h : kindOk k = true) (h18 : k ≠ 18) : hasB k.toNat 15 = false := by
  have hk := kind_of h
  have : ∀ n : Nat, n < 18 → hasB n 15 = false := by decide
  exact this _ (by omega)
theorem preB_any {x : CmW} {tags : List (List UInt8)} {a b : List UInt8} (h : hasB x.kind.toNat 15 = false) : preB x tags a 16 = preB x tags b 16 := by
  have : ∀ k, k ≤ 15 → preB x tags a k = preB x tags b k := fun k hk => by
    induction k with
    | zero => rfl
    | succ k ih =>
      unfold preB
      rw [ih (by omega), List.getElem?_eq_getElem (show k < (x.vals tags).length by show k < 15; omega)]
  unfold preB
  rw [this 15 (by omega), h]
  rfl
theorem sub_lays {w : World} {y : Sub} (h : Cm0 w y.1 y.2) (hok : subOk y = true) : LaysS w y.1 (subB y) := by
  unfold subOk at hok
  simp only [Bool.and_eq_true, Bool.not_eq_true', decide_eq_false_iff_not, decide_eq_true_eq] at hok
  obtain ⟨⟨⟨hk, h18⟩, hf⟩, hsn⟩ := hok
  have h15 := not15 hk h18
  have hki := kind_of hk
  refine ⟨?_, fun w' hb v ys hv hy => ?_⟩
  · have h1 := preB_len (sB := []) h (fOk_all hf) (by omega) 15 (by omega)
    show (preB y.1 y.2 [] 16).length ≤ 11000
    unfold preB
    rw [h15]
    simp
    omega
  · have h1 := lay_gen y.1 y.2 [] v ys w' (h.below hb) (fOk_all hf) hki hv hy (fun e => by rw [h15] at e; cases e)
    rw [show cmdB y.1 y.2 [] = subB y from preB_any h15] at h1
    exact h1
theorem lay_ok {w : World} {x : CmW} {tags : List (List UInt8)} {subs : List Sub} (h : Cm1 w x tags subs) (hok : cmdOk x tags subs = true) {v : Value} {ys : List UInt8} (hv : Bs w v ys) (hy : ys.length ≤ 100000) : Calls Try.prog 20 #[v, cmV x] w (LaysT w (ys ++ cmdB x tags subs)) := by
  unfold cmdOk at hok
  simp only [Bool.and_eq_true] at hok
  obtain ⟨⟨hk, hf⟩, hs⟩ := hok
  refine lay_gen x tags subs v ys w h.top (fOk_all hf) (kind_of hk) hv (by omega) (fun e => ?_)
  rw [e] at hs
  simp only [if_true, Bool.and_eq_true, decide_eq_true_eq, List.all_eq_true] at hs
  exact ⟨by omega, hs.1, h.row, fun y hy => sub_lays (h.each y hy) (hs.2 y hy)⟩
theorem Right_any (x : CmW) (tags : List (List UInt8)) (subs : List Sub) (w : World) (h : Cm1 w x tags subs) : Calls Try.prog 8 #[cmV x] w (YesB (cmdOk x tags subs) w) := by
  have hb0 := (Below.refl _ w).alloc (Nat.le_refl _) (.cells (cmC x).toArray TCm)
  have C := Lib.hid (right_all x tags subs _ (h.below hb0))
  have HIt := Lib.hid (Bx.new w x).item
  have HB := Lib.hid hb0
  obtain ⟨R, hR⟩ : ∃ R, cmdOk x tags subs = R := ⟨_, rfl⟩
  rw [hR] at C ⊢
  clear h hb0 hR
  unfold cmV strV
  unfold cmV cmC strV at C
  go_enter Try.func8, Try.ntmps8
  go_wp2_with (first | (refine wpList_load_mid rfl TCm (.tmp 1) rfl w.heap.size 0 rfl (cmC x) _ HIt.out Try.underlying26 rfl (by kernel_rfl) ?_; unfold cmC strV) | (go_at_call 16; refine C.out.mono ?_; rintro e w6 ⟨rfl, hb6⟩; have HB6 := Lib.hid hb6; clear hb6))
  go_ret
  exact ⟨rfl, HB.out.trans (HB6.out.mono (by simp))⟩
/-- An order as it stands in memory. -/
def orV (cl : Int) (sq : Nat) (x : CmW) : Value := .agg (#[.int .i64 cl, .int .u32 (sq : Int)] ++ (cmC x).toArray)
def orC (cl : Int) (sq : Nat) (x : CmW) : List Value := [.int .i64 cl, .int .u32 (sq : Int)] ++ cmC x
abbrev TOr : TypeId := 31
def ordOk (cl : Int) (x : CmW) (tags : List (List UInt8)) (subs : List Sub) : Bool := cmdOk x tags subs && decide (0 ≤ cl) && decide (cl ≤ 15)
def ordB (cl : Int) (sq : Nat) (x : CmW) (tags : List (List UInt8)) (subs : List Sub) : List UInt8 := numB cl.toNat ++ numB sq ++ cmdB x tags subs
/-- What Put hands back. -/
def PutP (w : World) (ok : Bool) (ys : List UInt8) (e : Ending) (w' : World) : Prop := Below w.heap.size w w' ∧ (ok = false → e = .returned (.tuple #[.slice none 0 0, .int .i64 2])) ∧ (ok = true → ∃ v, e = .returned (.tuple #[v, .int .i64 0]) ∧ Bs w' v ys)
theorem or_box (w : World) (cl : Int) (sq : Nat) (x : CmW) : World.rangeAt (w.alloc (.cells (orC cl sq x).toArray TOr)) w.heap.size 0 (orC cl sq x) := fun j v hv => by
  rw [Nat.zero_add, cell_of_row _ w.heap.size j _ TOr (0, 0) (heap_alloc_new w _)]
  simpa using hv
theorem or_item {w : World} {N : Nat} {cl : Int} {sq : Nat} {x : CmW} (h : World.rangeAt w N 0 (orC cl sq x)) : ItAt cmC w N 2 x := fun j v hv => by
  have := h (2 + j) v (by show (orC cl sq x)[2 + j]? = some v; rw [show 2 + j = j + 2 by omega]; exact hv)
  rwa [Nat.zero_add] at this
theorem range_below {w w' : World} {N B : Nat} {cs : List Value} (h : World.rangeAt w N 0 cs) (hb : Below B w w') (hN : N < B) : World.rangeAt w' N 0 cs := fun j v hv => (hb.cell (p := ⟨N, 0 + j, none⟩) hN).trans (h j v hv)
set_option maxHeartbeats 2000000 in
theorem Put_any (cl : Int) (sq : Nat) (x : CmW) (tags : List (List UInt8)) (subs : List Sub) (w : World) (h : Cm1 w x tags subs) (hcl : -9223372036854775808 ≤ cl ∧ cl ≤ 9223372036854775807) (hsq : sq < 4294967296) :
    Calls Try.prog 11 #[orV cl sq x] w (PutP w (ordOk cl x tags subs) (ordB cl sq x tags subs)) := by
  have hb0 := (Below.refl _ w).alloc (Nat.le_refl _) (.cells (orC cl sq x).toArray TOr)
  have C := Lib.hid (Right_any x tags subs _ (h.below hb0))
  have HOB := Lib.hid (or_box w cl sq x)
  have HIt := Lib.hid (or_item (or_box w cl sq x))
  have HB := Lib.hid hb0
  have H := Lib.hid h
  unfold cmV strV at C
  unfold orC cmC strV at C
  cases hr : cmdOk x tags subs with
  | false =>
    have ho : ordOk cl x tags subs = false := by unfold ordOk; rw [hr]; rfl
    rw [ho]
    rw [hr] at C
    clear h hb0 ho hr
    unfold orV cmC strV
    go_enter Try.func11, Try.ntmps11
    go_wp2_with (first | (refine wpList_load_mid rfl TCm (.tmp 5) rfl w.heap.size 2 rfl (cmC x) _ HIt.out Try.underlying26 rfl (by kernel_rfl) ?_; unfold cmC strV) | (go_at_call 8; refine C.out.mono ?_; rintro e w6 ⟨rfl, hb6⟩; have HB6 := Lib.hid hb6; clear hb6))
    go_ret2
    exact ⟨HB.out.trans (HB6.out.mono (by simp)), fun _ => rfl, fun e => by cases e⟩
  | true =>
    have HOK := Lib.hid hr
    rw [hr] at C
    by_cases hc : 0 ≤ cl ∧ cl ≤ 15
    · have ho : ordOk cl x tags subs = true := by unfold ordOk; rw [hr, decide_eq_true hc.1, decide_eq_true hc.2]; rfl
      rw [ho]
      obtain ⟨CN, hCN⟩ : ∃ CN : Nat, cl = CN := ⟨cl.toNat, by omega⟩
      have hcn : CN ≤ 15 := by omega
      have C1 := Lib.hid (fun W => (Num_any none 0 0 [] CN (by omega) W ⟨rfl, fun h => absurd h (by decide)⟩ (fun _ => rfl) (Nat.le_refl _) (by omega)).mono fun e w' h => lays_of h)
      have C2 : Hid (∀ v W, Bs W v (numB CN) → Calls Try.prog 19 #[v, .int .u64 (sq : Int)] W (LaysT W (numB CN ++ numB sq))) := Lib.hid (fun v W hv => by
        obtain ⟨A0, c0, rfl, hr0, hn0, hnc0, hcm0⟩ := hv.ex
        have := numB_le (n := CN) (by omega)
        exact (Num_any A0 (numB CN).length c0 (numB CN) sq (by omega) W hr0 hn0 hnc0 (by omega)).mono fun e w' h => lays_of h)
      have C3 := Lib.hid (fun v W (hb : Below w.heap.size w W) (hv : Bs W v (numB CN ++ numB sq)) => lay_ok (H.out.below hb) HOK.out hv (by
        have h1 := numB_le (n := CN) (by omega)
        have h2 := numB_le (n := sq) (by omega)
        rw [List.length_append]
        omega))
      have EB := Lib.hid (show ordB cl sq x tags subs = numB CN ++ numB sq ++ cmdB x tags subs by unfold ordB; rw [hCN]; rfl)
      have HCN := Lib.hid hCN
      have e1 : IntKind.u64.wrap cl = cl := by unfold IntKind.wrap; simp [IntKind.signed, IntKind.bits]; omega
      have e2 : IntKind.u64.wrap (sq : Int) = (sq : Int) := by unfold IntKind.wrap; simp [IntKind.signed, IntKind.bits]; omega
      have n1 : ¬ cl < 0 := by omega
      have n2 : ¬ 15 < cl := by omega
      have n3 : 0 ≤ cl := by omega
      clear h hb0 ho hr hCN hcl hsq hc
      unfold cmV strV at C3
      unfold orV cmC strV
      go_enter Try.func11, Try.ntmps11
      go_wp2_with (first | (refine wpList_load_mid rfl TCm (.tmp 5) rfl w.heap.size 2 rfl (cmC x) _ HIt.out Try.underlying26 rfl (by kernel_rfl) ?_; unfold cmC strV) | (go_at_call 8; refine C.out.mono ?_; rintro e w6 ⟨rfl, hb6⟩; have HB6 := Lib.hid (HB.out.trans (hb6.mono (by simp))); have HO6 := Lib.hid (range_below HOB.out hb6 (by simp)); have hc0 : w6.cell? ⟨w.heap.size, 0, none⟩ = some (.int .i64 cl) := HO6.out 0 _ rfl; clear hb6))
      have C1' : Hid (Calls Try.prog 19 #[.slice none 0 0, .int .u64 cl] _ _) := Lib.hid (by rw [HCN.out]; exact C1.out w6)
      refine C1'.out.mono ?_
      rintro e w7 ⟨v7, rfl, hv7, hb7⟩
      have HV7 := Lib.hid hv7
      have HB7 := Lib.hid (HB6.out.trans (hb7.mono HB6.out.size))
      have HO7 := Lib.hid (range_below HO6.out hb7 (World.block_lt_of_cell? _ _ hc0))
      clear hc0 hv7 hb7 C1' C1
      have hc1 : w7.cell? ⟨w.heap.size, 1, none⟩ = some (.int .u32 (sq : Int)) := HO7.out 1 _ rfl
      go_wp2_with fail
      refine (C2.out _ _ HV7.out).mono ?_
      rintro e w8 ⟨v8, rfl, hv8, hb8⟩
      have HV8 := Lib.hid hv8
      have HB8 := Lib.hid (HB7.out.trans (hb8.mono HB7.out.size))
      have HI8 := Lib.hid (or_item (range_below HO7.out hb8 (World.block_lt_of_cell? _ _ hc1)))
      clear hc1 hv8 hb8 C2
      go_wp2_with (refine wpList_load_mid rfl TCm (.tmp 29) rfl w.heap.size 2 rfl (cmC x) _ HI8.out Try.underlying26 rfl (by kernel_rfl) ?_; unfold cmC strV)
      refine (C3.out _ _ HB8.out HV8.out).mono ?_
      rintro e w9 ⟨v9, rfl, hv9, hb9⟩
      have HV9 := Lib.hid hv9
      have HB9 := Lib.hid (HB8.out.trans (hb9.mono HB8.out.size))
      clear hv9 hb9 C3
      go_wp2
      go_ret2
      exact ⟨HB9.out, (fun e => by cases e), fun _ => ⟨_, rfl, by rw [EB.out]; exact HV9.out⟩⟩
    · have ho : ordOk cl x tags subs = false := by
        unfold ordOk
        rw [hr]
        simp
        omega
      rw [ho]
      clear h hb0 ho hr
      unfold orV cmC strV
      by_cases hneg : cl < 0
      · go_enter Try.func11, Try.ntmps11
        go_wp2_with (first | (refine wpList_load_mid rfl TCm (.tmp 5) rfl w.heap.size 2 rfl (cmC x) _ HIt.out Try.underlying26 rfl (by kernel_rfl) ?_; unfold cmC strV) | (go_at_call 8; refine C.out.mono ?_; rintro e w6 ⟨rfl, hb6⟩; have HB6 := Lib.hid hb6; have hc0 : w6.cell? ⟨w.heap.size, 0, none⟩ = some (.int .i64 cl) := range_below HOB.out hb6 (by simp) 0 _ rfl; clear hb6))
        go_ret2
        exact ⟨HB.out.trans (HB6.out.mono (by simp)), fun _ => rfl, fun e => by cases e⟩
      · have hbig : 15 < cl := by omega
        go_enter Try.func11, Try.ntmps11
        go_wp2_with (first | (refine wpList_load_mid rfl TCm (.tmp 5) rfl w.heap.size 2 rfl (cmC x) _ HIt.out Try.underlying26 rfl (by kernel_rfl) ?_; unfold cmC strV) | (go_at_call 8; refine C.out.mono ?_; rintro e w6 ⟨rfl, hb6⟩; have HB6 := Lib.hid hb6; have hc0 : w6.cell? ⟨w.heap.size, 0, none⟩ = some (.int .i64 cl) := range_below HOB.out hb6 (by simp) 0 _ rfl; clear hb6))
        go_ret2
        exact ⟨HB.out.trans (HB6.out.mono (by simp)), fun _ => rfl, fun e => by cases e⟩
end Go.Proofs.Ytbhhalkpghcflaa
