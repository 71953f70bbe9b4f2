/-
  The program's lay, walked (layer 20).
-/
import Derived.Test.YtbhhalkpghcflaaZj23
namespace Go.Proofs.Ytbhhalkpghcflaa
open Go.RowKit
set_option linter.unusedSimpArgs false
set_option linter.unusedVariables false

theorem textB_le {s : List UInt8} (h : s.length ≤ 80) : (textB s).length ≤ 89 := by
  have := numB_le (n := s.length) (by omega)
  unfold textB
  rw [List.length_append]
  omega
theorem texts_le : ∀ {l : List (List UInt8)}, (∀ s ∈ l, s.length ≤ 80) → (l.flatMap textB).length ≤ 89 * l.length
  | [], _ => Nat.le_refl _
  | s :: l, h => by
    have h1 := textB_le (h s (by simp))
    have h2 := texts_le fun t ht => h t (List.mem_cons_of_mem s ht)
    rw [List.flatMap_cons, List.length_append, List.length_cons]
    omega
theorem bytes_le {v : Fv} (h : v.right = true) (hi : ∀ n, v = .idx n → n ≤ c64) : v.bytes.length ≤ 721 := by
  cases v with
  | num z =>
    simp only [Fv.right, Bool.and_eq_true, decide_eq_true_eq] at h
    have := numB_le (n := z.toNat) (by omega)
    show (numB z.toNat).length ≤ 721
    omega
  | text s =>
    simp only [Fv.right, decide_eq_true_eq] at h
    have := textB_le h
    show (textB s).length ≤ 721
    omega
  | texts l =>
    simp only [Fv.right, Bool.and_eq_true, decide_eq_true_eq, List.all_eq_true] at h
    have h1 := numB_le (n := l.length) (by omega)
    have h2 := texts_le h.2
    show (textsB l).length ≤ 721
    unfold textsB
    rw [List.length_append]
    omega
  | flag b =>
    have : (flagB b).length ≤ 9 := by rw [flagB]; exact numB_le (by cases b <;> simp)
    show (flagB b).length ≤ 721
    omega
  | idx n =>
    have := numB_le (n := n) (by have := hi n rfl; unfold c64 at this; omega)
    show (numB n).length ≤ 721
    omega
/-- The fields that a command has are right. -/
def FOk (x : CmW) (tags : List (List UInt8)) : Prop := ∀ k v, (x.vals tags)[k]? = some v → hasB x.kind.toNat k = true → v.right = true
section
variable {w : World} {N b k : Nat} {x : CmW} {tags : List (List UInt8)} {sB : List UInt8}
theorem idx_le (h0 : Cm0 w x tags) {v : Fv} (hv : (x.vals tags)[k]? = some v) : ∀ n, v = .idx n → n ≤ c64 := by
  rintro n rfl
  have h1 := h0.small.old
  have h2 := h0.small.ses
  have hm := List.mem_of_getElem? hv
  unfold c64
  simp only [CmW.vals, List.mem_cons, reduceCtorEq, false_or, List.not_mem_nil, or_false, Fv.idx.injEq] at hm
  omega
theorem preB_len (h0 : Cm0 w x tags) (hf : FOk x tags) (hk : x.kind.toNat ≤ 18) : ∀ k, k ≤ 15 → (preB x tags sB k).length ≤ 9 + 721 * k
  | 0, _ => numB_le (by omega)
  | k + 1, h => by
    have h1 := preB_len h0 hf hk k (by omega)
    have hlt : k < (x.vals tags).length := by show k < 15; omega
    unfold preB
    rw [List.length_append, List.getElem?_eq_getElem hlt]
    cases hb : hasB x.kind.toNat k with
    | false => simp; omega
    | true =>
      have h2 := bytes_le (hf k _ (List.getElem?_eq_getElem hlt) hb) (idx_le h0 (List.getElem?_eq_getElem hlt))
      simp only [if_true]
      omega
/-- What a field adds. -/
def fldB (x : CmW) (tags : List (List UInt8)) (sB : List UInt8) (k : Nat) : List UInt8 := match (x.vals tags)[k]? with | some v => v.bytes | none => sB
theorem num_rt {z : Int} (h : (Fv.num z).right = true) : ∃ n : Nat, z = n ∧ n ≤ 65535 := by
  simp only [Fv.right, Bool.and_eq_true, decide_eq_true_eq] at h
  exact ⟨z.toNat, by omega, by omega⟩
theorem num_at {z : Int} {p : Addr} {v : Value} {ys : List UInt8} (hr : (Fv.num z).right = true) (h1 : w.cell? ⟨b, 0, none⟩ = some (.pointer (some p))) (h2 : w.cell? p = some (.int .i64 z)) (hv : Bs w v ys) (hy : ys.length ≤ 1000000) : Calls Try.prog 59 #[v, .pointer (some ⟨b, 0, none⟩)] w (LaysT w (ys ++ (Fv.num z).bytes)) := by
  obtain ⟨n, rfl, hn⟩ := num_rt hr
  exact num_lay n h1 h2 hn hv hy
theorem texts_at {p : Addr} {v : Value} {ys : List UInt8} (h0 : Cm0 w x tags) (hr : (Fv.texts tags).right = true) (h1 : w.cell? ⟨b, 0, none⟩ = some (.pointer (some p))) (h2 : w.cell? p = some (.slice x.tA x.tn x.tc)) (hv : Bs w v ys) (hy : ys.length ≤ 1000000) : Calls Try.prog 71 #[v, .pointer (some ⟨b, 0, none⟩)] w (LaysT w (ys ++ (Fv.texts tags).bytes)) := by
  have hl := bytes_le hr (fun n e => by cases e)
  simp only [Fv.right, Bool.and_eq_true, decide_eq_true_eq] at hr
  exact texts_lay x.tA x.tn x.tc tags h1 h2 h0.row (by have := h0.len; omega) (Nat.le_trans hl (by omega)) hv (by omega)
theorem lay_at {subs : List Sub} {v : Value} {ys : List UInt8} (hB : Bx w N x) (h0 : Cm0 w x tags) (hf : FOk x tags) (hb : w.cell? ⟨b, 0, none⟩ = some (.pointer (some ⟨N, 1 + k, none⟩))) (hk : k < 16) (hh : hasB x.kind.toNat k = true) (hv : Bs w v ys) (hy : ys.length ≤ 900000)
    (hs : k = 15 → ys.length ≤ 500000 ∧ x.sn ≤ 8 ∧ SK cmC 17 w x.sA x.sn (subs.map (·.1)) ∧ ∀ y ∈ subs, LaysS w y.1 (subB y)) :
    Calls Try.prog (fnL k) #[v, .pointer (some ⟨b, 0, none⟩)] w (LaysT w (ys ++ fldB x tags (subsB subs) k)) := by
  match k, hk with
  | 0, _ => exact num_at (z := x.node) (hf 0 _ rfl hh) hb (hB.c_ 1 _ rfl) hv (by omega)
  | 1, _ => exact num_at (z := x.port) (hf 1 _ rfl hh) hb (hB.c_ 2 _ rfl) hv (by omega)
  | 2, _ => exact num_at (z := x.status) (hf 2 _ rfl hh) hb (hB.c_ 3 _ rfl) hv (by omega)
  | 3, _ => exact text_lay x.id hb (hB.c_ 4 _ rfl) (by simpa [Fv.right] using hf 3 _ rfl hh) hv (by omega)
  | 4, _ => exact text_lay x.name hb (hB.c_ 5 _ rfl) (by simpa [Fv.right] using hf 4 _ rfl hh) hv (by omega)
  | 5, _ => exact text_lay x.svc hb (hB.c_ 6 _ rfl) (by simpa [Fv.right] using hf 5 _ rfl hh) hv (by omega)
  | 6, _ => exact text_lay x.note hb (hB.c_ 7 _ rfl) (by simpa [Fv.right] using hf 6 _ rfl hh) hv (by omega)
  | 7, _ => exact text_lay x.key hb (hB.c_ 8 _ rfl) (by simpa [Fv.right] using hf 7 _ rfl hh) hv (by omega)
  | 8, _ => exact text_lay x.val hb (hB.c_ 9 _ rfl) (by simpa [Fv.right] using hf 8 _ rfl hh) hv (by omega)
  | 9, _ => exact text_lay x.src hb (hB.c_ 10 _ rfl) (by simpa [Fv.right] using hf 9 _ rfl hh) hv (by omega)
  | 10, _ => exact text_lay x.dst hb (hB.c_ 11 _ rfl) (by simpa [Fv.right] using hf 10 _ rfl hh) hv (by omega)
  | 11, _ => exact texts_at h0 (hf 11 _ rfl hh) hb (hB.c_ 12 _ rfl) hv (by omega)
  | 12, _ => exact flag_lay x.allow hb (hB.c_ 13 _ rfl) hv (by omega)
  | 13, _ => exact idx_lay x.old hb (hB.c_ 14 _ rfl) h0.small.old hv (by omega)
  | 14, _ => exact idx_lay x.ses hb (hB.c_ 15 _ rfl) h0.small.ses hv (by omega)
  | 15, _ => exact subs_lay b x.sn x.sc _ x.sA subs v ys w hb (hB.c_ 16 _ rfl) (hs rfl).2.2.1 (hs rfl).2.1 (hs rfl).2.2.2 hv (hs rfl).1
  | k + 16, h => exact absurd h (by omega)
end
set_option maxRecDepth 100000 in
set_option maxHeartbeats 4000000 in
theorem lay_gen (x : CmW) (tags : List (List UInt8)) (subs : List Sub) (v : Value) (ys : List UInt8) (w : World) (h0 : Cm0 w x tags) (hf : FOk x tags) (hki : 1 ≤ x.kind ∧ x.kind ≤ 18) (hv : Bs w v ys) (hy : ys.length ≤ 800000)
    (hs : hasB x.kind.toNat 15 = true → ys.length ≤ 400000 ∧ x.sn ≤ 8 ∧ SK cmC 17 w x.sA x.sn (subs.map (·.1)) ∧ ∀ y ∈ subs, LaysS w y.1 (subB y)) :
    Calls Try.prog 20 #[v, cmV x] w (LaysT w (ys ++ cmdB x tags subs)) := by
  have hb0 := (Below.refl _ w).alloc (Nat.le_refl _) (.cells (cmC x).toArray TCm)
  obtain ⟨A0, c0, rfl, hr0, hn0, hnc0, hcm0⟩ := (hv.below hb0).ex
  obtain ⟨KN, hKN⟩ : ∃ KN : Nat, x.kind = KN := ⟨x.kind.toNat, by omega⟩
  have hKN2 : x.kind.toNat = KN := by omega
  have CN := Lib.hid ((Num_any A0 ys.length c0 ys KN (by omega) _ hr0 hn0 hnc0 (by omega)).mono fun e w' h => lays_of h)
  rw [show ys ++ numB KN = ys ++ preB x tags (subsB subs) 0 by unfold preB; rw [hKN2]] at CN
  have CS := Lib.hid (fun W => setOf_any x.kind W)
  obtain ⟨M, hM⟩ : ∃ M, maskN x.kind = M := ⟨_, rfl⟩
  have CB := Lib.hid (fun k hk W => bit_has M k W (by rw [← hM]; exact maskN_lt _) hk)
  have HBIT := Lib.hid (show ∀ k, k < 16 → M.testBit k = hasB x.kind.toNat k from fun k hk => by rw [← hM]; exact maskN_bit _ hk)
  rw [hM] at CS
  have HLEN := Lib.hid (fun k hk => preB_len (sB := subsB subs) h0 hf (by omega) k hk)
  have HBx := Lib.hid (Bx.new w x)
  have H0 := Lib.hid h0
  have HF := Lib.hid hf
  have HS := Lib.hid hs
  have HY := Lib.hid hy
  obtain ⟨R, hR⟩ : ∃ R, ys ++ cmdB x tags subs = R := ⟨_, rfl⟩
  have END := Lib.hid (show ys ++ preB x tags (subsB subs) 16 = R from hR)
  rw [hR]
  have hb1 := hb0
  unfold cmC strV at CN
  have e1 : IntKind.u64.wrap x.kind = x.kind := by unfold IntKind.wrap; simp [IntKind.signed, IntKind.bits]; omega
  have HB0 := Lib.hid hb0
  obtain ⟨KI, hKI⟩ : ∃ KI, x.kind = KI := ⟨_, rfl⟩
  have HKI := Lib.hid hKI
  have hki2 : 0 ≤ x.kind := by omega
  have CN2 : Hid (Calls Try.prog 19 #[.slice A0 ys.length c0, .int .u64 x.kind] _ _) := Lib.hid (by rw [hKN]; exact CN.out)
  clear h0 hf hki hv hy hs hb0 hr0 hn0 hnc0 hcm0 hKN hKN2 hM hR hb1 hKI CN
  unfold cmV strV
  go_enter Try.func20, Try.ntmps20
  obtain ⟨h, hh⟩ : ∃ h, w.heap.size + 1 = h := ⟨_, rfl⟩
  go_wp2_with fail
  refine CN2.out.mono ?_
  rintro e w1 ⟨v1, rfl, hv1, hb1⟩
  have HV1 := Lib.hid hv1
  have HB1 := Lib.hid (HB0.out.trans (hb1.mono (by simp)))
  have HBX1 := Lib.hid (HBx.out.below hb1 (by simp))
  clear hv1 hb1 CN2 e1 hki2
  obtain ⟨H1, hH1⟩ : ∃ H1, w1.heap.size = H1 := ⟨_, rfl⟩
  obtain ⟨acs, hacs⟩ : ∃ acs, (acCs H1).toArray = acs := ⟨_, rfl⟩
  have HIX := Lib.hid (fun k hk w => ac_index H1 k hk w)
  rw [hacs] at HIX
  have CA : Hid (Calls Try.prog 34 #[.pointer (some ⟨w.heap.size, 0, none⟩)] w1 fun e w' => e = .returned (.agg acs) ∧ AcAt w' H1 w.heap.size ∧ w'.heap.size = H1 + 33 ∧ Below w1.heap.size w1 w') := Lib.hid (by
    have := accesses_any w.heap.size w1
    rw [hH1, hacs] at this
    rw [hH1]
    exact this)
  clear hH1 hacs hh
  go_wp2_with fail
  refine CA.out.mono ?_
  rintro e w2 ⟨rfl, hac, hsz, hb⟩
  have HAC := Lib.hid hac
  have HSZ := Lib.hid hsz
  have HV2 := Lib.hid (HV1.out.below hb)
  have HB2 := Lib.hid (HB1.out.trans (hb.mono HB1.out.size))
  have HBX := Lib.hid (HBX1.out.below hb HBX1.out.lt)
  clear hac hsz hb CA HV1 HB1 HBX1 HBx HB0
  go_wp2
  go_loopw [13, 0] (fun i v wr => ∃ k : Nat, k ≤ 16 ∧ i = .int .i64 k ∧ Bs wr v (ys ++ preB x tags (subsB subs) k) ∧ Below w2.heap.size w2 wr) (fun i _ _ => 16 - (intOf i).toNat)
  case atStart => exact ⟨0, Nat.zero_le _, rfl, HV2.out, Below.refl _ _⟩
  case round =>
    obtain ⟨k, hk, rfl, hU, hb⟩ := hrel
    have HU := Lib.hid hU
    have HB := Lib.hid hb
    clear hU hb
    by_cases hlt : k < 16
    · have u1 : (k : Int) < 16 := by omega
      have hix := HIX.out k hlt
      have HBW := Lib.hid (HB2.out.trans (HB.out.mono HB2.out.size))
      have CL : Hid (hasB x.kind.toNat k = true → ∀ v, Bs wr v (ys ++ preB x tags (subsB subs) k) → ∀ W, Below wr.heap.size wr W → Calls Try.prog (fnL k) #[v, .pointer (some ⟨H1 + 1 + 2 * k, 0, none⟩)] W (LaysT W (ys ++ preB x tags (subsB subs) k ++ fldB x tags (subsB subs) k))) := Lib.hid (fun hbit v hv W hW => by
        have hb3 := HB.out.trans (hW.mono HB.out.size)
        have hb4 := HBW.out.trans (hW.mono HBW.out.size)
        have hln : (ys ++ preB x tags (subsB subs) k).length ≤ ys.length + 10900 := by
          rw [List.length_append]
          have := HLEN.out k (by omega)
          omega
        have hy := HY.out
        refine lay_at (HBX.out.below hb3 HBX.out.lt) (H0.out.below hb4) HF.out ((HAC.out.below hb3 (by have := HSZ.out; omega)) k hlt) hlt hbit (hv.below hW) (by omega) (fun e => ?_)
        subst e
        obtain ⟨g1, g2, g3, g4⟩ := HS.out hbit
        exact ⟨by omega, g2, g3.below hb4, fun y hy => (g4 y hy).below hb4⟩)
      have hcl := call_fnL k hlt
      have CBk := Lib.hid (CB.out k hlt)
      have HBk := Lib.hid (HBIT.out k hlt)
      have PRE : Hid (∀ B, hasB x.kind.toNat k = B → preB x tags (subsB subs) (k + 1) = preB x tags (subsB subs) k ++ (if B then fldB x tags (subsB subs) k else [])) := Lib.hid (fun B hB => by subst hB; rfl)
      have q0 : ∀ W, Below wr.heap.size wr W → W.cell? ⟨w.heap.size, 0, none⟩ = some (.int .i64 x.kind) := fun W hW => (HBX.out.below (HB.out.trans (hW.mono HB.out.size)) HBX.out.lt).c0
      unfold acC fnV at hix
      generalize fnE k = e0 at hix
      generalize fnR k = r0 at hix
      generalize fnL k = l0 at hix CL hcl
      generalize fnD k = d0 at hix
      generalize capR k (H1 + 1 + 2 * k) = cr at hix
      generalize H1 + 1 + 2 * k = b at hix CL
      have q1 := q0 _ ((Below.refl _ wr).alloc (Nat.le_refl _) (.cells #[.func (.func e0) #[] #[.pointer (some ⟨b, 0, none⟩)], .func (.func r0) #[] cr, .func (.func l0) #[] #[.pointer (some ⟨b, 0, none⟩)], .func (.func d0) #[] #[.pointer (some ⟨b, 0, none⟩)]] TAc))
      clear q0
      cases hbit : M.testBit k with
      | true =>
        have CL2 := Lib.hid (CL.out (HBk.out.symm.trans hbit) _ HU.out)
        have PRE2 := Lib.hid (PRE.out true (HBk.out.symm.trans hbit))
        rw [hbit] at CBk
        clear hbit CL PRE HBk
        go_wp2_with (first | (go_at_call 33; refine (CS.out _).mono ?_; rintro e wA ⟨rfl, rfl⟩) | (go_at_call 35; refine (CBk.out _).mono ?_; rintro e wA ⟨rfl, rfl⟩))
        refine (CL2.out _ ((Below.refl _ wr).alloc (Nat.le_refl _) _)).mono ?_
        rintro e w3 ⟨v3, rfl, hv3, hb3⟩
        have HV3 := Lib.hid hv3
        have HB3 := Lib.hid (((Below.refl _ wr).alloc (Nat.le_refl _) _).trans (hb3.mono (by simp)))
        clear hv3 hb3
        go_wp2
        go_roundw
        case rel => exact ⟨k + 1, by omega, by go_num, by rw [PRE2.out, ← List.append_assoc]; exact HV3.out, HB.out.trans (HB3.out.mono HB.out.size)⟩
        case measure => simp [intOf]; omega
      | false =>
        have PRE2 := Lib.hid (PRE.out false (HBk.out.symm.trans hbit))
        rw [hbit] at CBk
        clear hbit CL PRE HBk hcl
        go_wp2_with (first | (go_at_call 33; refine (CS.out _).mono ?_; rintro e wA ⟨rfl, rfl⟩) | (go_at_call 35; refine (CBk.out _).mono ?_; rintro e wA ⟨rfl, rfl⟩))
        go_roundw
        case rel => exact ⟨k + 1, by omega, by go_num, by rw [PRE2.out]; simp only [Bool.false_eq_true, if_false, List.append_nil]; exact HU.out.below ((Below.refl _ wr).alloc (Nat.le_refl _) _), HB.out.trans (((Below.refl _ wr).alloc (Nat.le_refl _) _).mono HB.out.size)⟩
        case measure => simp [intOf]; omega
    · obtain rfl : k = 16 := by omega
      have HE := HU.out
      rw [END.out] at HE
      have HE2 := Lib.hid HE
      clear HE
      go_wp2
      go_ret
      exact ⟨_, rfl, HE2.out, HB2.out.trans (HB.out.mono HB2.out.size)⟩
end Go.Proofs.Ytbhhalkpghcflaa
