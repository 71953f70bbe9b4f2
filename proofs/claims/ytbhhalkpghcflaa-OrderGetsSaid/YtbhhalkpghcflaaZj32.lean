/-
  The document's Bytes, walked (layer 20).
-/
import Derived.Test.YtbhhalkpghcflaaZj20
import Derived.Test.YtbhhalkpghcflaaZj8
import Derived.Test.YtbhhalkpghcflaaZj31
import Derived.Maps.AppendAt
import Derived.LoopTactic
import Derived.Deep.CutRange
import Derived.Deep.DeepCutAuto
namespace Go.Proofs.Ytbhhalkpghcflaa
open Go.RowKit
set_option linter.unusedSimpArgs false
set_option linter.unusedVariables false

/-- What the document lays, in a row of the call's own; what lies in D, and F, that is said of it, stay. -/
structure Dw (w0 : World) (N : Nat) (x : CmW) (D : List Nat) (F : World → Prop) (w : World) (v : Value) (ys : List UInt8) : Prop where
  own : w.ownsRow (w0.heap.size + 1) 5 1 v ys.length (ys.map byteV)
  low : Below w0.heap.size w0 w
  nlt : w0.heap.size < w.heap.size
  bx : Bx w N x
  off : ∀ j ∈ N :: D, v.ownBlock ≠ some j
  lt : ∀ j ∈ D, j < w.heap.size
  st : ∀ w1 w2 : World, (∀ j ∈ D, w2.heap[j]? = w1.heap[j]?) → F w1 → F w2
  f : F w
theorem Dw.below {w0 w w' : World} {N : Nat} {x : CmW} {D : List Nat} {F : World → Prop} {v : Value} {ys : List UInt8} (h : Dw w0 N x D F w v ys) (hb : Below w.heap.size w w') : Dw w0 N x D F w' v ys :=
  ⟨bown_keep h.own hb, h.low.trans (hb.mono h.low.size), Nat.lt_of_lt_of_le h.nlt hb.size, h.bx.below hb h.bx.lt, h.off, fun j hj => Nat.lt_of_lt_of_le (h.lt j hj) hb.size, h.st, h.st w w' (fun j hj => hb.block j (h.lt j hj)) h.f⟩
theorem Dw.app {w0 w w' : World} {N : Nat} {x : CmW} {D : List Nat} {F : World → Prop} {v v' : Value} {ys zs : List UInt8} (h : Dw w0 N x D F w v ys) (ho : w'.ownsRow (w0.heap.size + 1) 5 1 v' (ys.length + zs.length) (ys.map byteV ++ zs.map byteV)) (hg : w.grownBy w' v.ownBlock) (hl : v'.ownBlock = v.ownBlock ∨ v'.ownBlock = some w.heap.size) : Dw w0 N x D F w' v' (ys ++ zs) := by
  have hbl : ∀ j, j < w.heap.size → v.ownBlock ≠ some j → w'.heap[j]? = w.heap[j]? := fun j hj hn => hg.block j hj (fun e => hn e.symm)
  refine ⟨by rw [List.length_append, List.map_append]; exact ho, h.low.grown hg h.low.size (fun j hj => ?_), Nat.lt_of_lt_of_le h.nlt hg.size, ?_, ?_, fun j hj => Nat.lt_of_lt_of_le (h.lt j hj) hg.size, h.st, h.st w w' (fun j hj => hbl j (h.lt j hj) (h.off j (List.mem_cons_of_mem _ hj))) h.f⟩
  · have := (h.own.lt j hj).1
    omega
  · exact (hbl N h.bx.lt (h.off N (by simp))).trans h.bx
  · intro j hj
    rcases hl with e | e
    · rw [e]; exact h.off j hj
    · rw [e]
      intro e2
      have : w.heap.size = j := Option.some.inj e2
      rcases List.mem_cons.1 hj with rfl | hj
      · have := h.bx.lt; omega
      · have := h.lt j hj; omega
/-- What is kept may be told otherwise. -/
theorem Dw.to {w0 w : World} {N : Nat} {x : CmW} {D D' : List Nat} {F F' : World → Prop} {v : Value} {ys : List UInt8} (h : Dw w0 N x D F w v ys) (hoff : ∀ j ∈ D', v.ownBlock ≠ some j) (hlt : ∀ j ∈ D', j < w.heap.size) (hst : ∀ w1 w2 : World, (∀ j ∈ D', w2.heap[j]? = w1.heap[j]?) → F' w1 → F' w2) (hf : F' w) : Dw w0 N x D' F' w v ys :=
  ⟨h.own, h.low, h.nlt, h.bx, fun j hj => by
    rcases List.mem_cons.1 hj with rfl | hj
    · exact h.off _ (by simp)
    · exact hoff j hj, hlt, hst, hf⟩
theorem own_lt {w : World} {base n : Nat} {v : Value} {xs : List Value} (h : w.ownsRow base 5 1 v n xs) {j : Nat} (hj : v.ownBlock = some j) : j < w.heap.size := (h.lt j hj).2
theorem bs_of_own {w : World} {base m : Nat} {v : Value} {ys : List UInt8} (h : w.ownsRow base 5 1 v m (ys.map byteV)) : Bs w v ys := by
  obtain ⟨A, c, h1, h2, h3⟩ := RB.own h
  have hl : ys.length = m := by simpa using h.1
  subst hl
  exact ⟨A, c, h1, h2, h3⟩
theorem lays_adds {w w' : World} {m : Nat} {ys : List UInt8} {e : Ending} (h : Adds w w.heap.size m ys e w') : LaysT w ys e w' := by
  obtain ⟨v, he, h1, hb⟩ := h
  exact ⟨v, he, bs_of_own h1, hb⟩
theorem wpList_append_dw {w : World} {ops : Array Oper} {rest : List Oper} {o : Oper} {a : Act} {Q : Exit → Act → World → Prop} (hgd : o.guard = none) (s x : Operand)
    (ho : o.op = .call { callee := .builtin .append, args := #[s, x], argTypes := #[32, 32] }) (w0 : World) (N : Nat) (xx : CmW) (D : List Nat) (F : World → Prop) (v u : Value) (ys zs : List UInt8) (hs : a.eval s = v) (hx : a.eval x = u) (hv : Dw w0 N xx D F w v ys) (hu : Bs w u zs) (hz : 0 < zs.length) (hl : ys.length + zs.length ≤ 1000000)
    (h : Hid (∀ v' w', Dw w0 N xx D F w' v' (ys ++ zs) → wpList Try.prog ops Q rest (a.put o.dst v') w')) : wpList Try.prog ops Q (o :: rest) a w := by
  obtain ⟨A, c, rfl, hr, h1, h2, h3⟩ := hu.ex
  obtain ⟨i0, hi, hz0, hz1, hz2⟩ := info_parts u8_info
  obtain ⟨b, off, rfl, _, _⟩ := hr.2 hz
  exact wpList_append_own_at w hgd s x 32 ho (w0.heap.size + 1) 5 i0 (.int .u8 0) 1 1 Try.underlying32 hi hz0 hz1 hz2 rfl (by decide) v ys.length (ys.map byteV) hs hv.own ⟨b, off, none⟩ zs.length c (zs.map byteV) hx (by simp) hr.news (by
    intro u hu
    simp only [List.mem_map] at hu
    obtain ⟨y, _, rfl⟩ := hu
    rfl) (by unfold maxLen; omega) (by omega) (by have := hv.nlt; omega) (fun v' w' g1 g2 _ g4 => h.out v' w' (hv.app g1 g2 g4))
theorem rv_at {w1 w2 : World} {B n : Nat} {xs : List Value} (h : RV w1 (some ⟨B, 0, none⟩) n xs) (hk : w2.heap[B]? = w1.heap[B]?) : RV w2 (some ⟨B, 0, none⟩) n xs :=
  ⟨h.1, fun hn => by
    obtain ⟨b, off, e, hb, hc⟩ := h.2 hn
    cases e
    refine ⟨B, 0, rfl, ?_, fun j hj => ?_⟩
    · have := Array.getElem?_eq_getElem hb
      rw [← hk] at this
      exact (Array.getElem?_eq_some_iff.1 this).1
    · have := hc j hj
      unfold World.cell? at this ⊢
      simpa only [hk] using this⟩
theorem bytes_pos (v : Fv) : 0 < v.bytes.length := by
  cases v <;> simp only [Fv.bytes, textB, textsB, flagB, List.length_append, numB_length] <;> omega
/-- A command that the document lays within one. -/
def ByS (w : World) (y : CmW) (r : List UInt8) : Prop := (0 < r.length ∧ r.length ≤ 11000) ∧ ∀ w', Below w.heap.size w w' → Calls Try.prog 22 #[cmV y] w' (LaysT w' r)
theorem rnum_lay (N : Nat) (hN : N < 256 ^ 8) (w : World) : Calls Try.prog 21 #[.int .u64 (N : Int)] w (LaysT w (numB N)) := (rnum_any N hN w).mono fun e w' h => lays_adds h
theorem rtext_lay (s : List UInt8) (hs : s.length ≤ 80) (w : World) : Calls Try.prog 38 #[strV s] w (LaysT w (textB s)) := (rtext_any ⟨s.toArray⟩ w (by show s.length + 9 ≤ _; omega)).mono fun e w' h => lays_adds h
theorem preB_has {x : CmW} {tags : List (List UInt8)} {sB : List UInt8} {k : Nat} {v : Fv} (hv : (x.vals tags)[k]? = some v) (hh : hasB x.kind.toNat k = true) : preB x tags sB (k + 1) = preB x tags sB k ++ v.bytes := by
  rw [preB, hh, hv]
  rfl
theorem preB_not {x : CmW} {tags : List (List UInt8)} {sB : List UInt8} {k : Nat} (hh : hasB x.kind.toNat k = false) : preB x tags sB (k + 1) = preB x tags sB k := by
  rw [preB, hh]
  simp
set_option maxRecDepth 100000 in
set_option maxHeartbeats 4000000 in
theorem rbytes_gen (x : CmW) (tags : List (List UInt8)) (subs : List Sub) (w : World) (h0 : Cm0 w x tags) (hf : FOk x tags) (hki : 1 ≤ x.kind ∧ x.kind ≤ 18)
    (hs : hasB x.kind.toNat 15 = true → x.sn ≤ 8 ∧ SK cmC 17 w x.sA x.sn (subs.map (·.1)) ∧ ∀ y ∈ subs, ByS w y.1 (subB y)) :
    Calls Try.prog 22 #[cmV x] w (LaysT w (cmdB x tags subs)) := by
  have hko : kindOk x.kind = true := by unfold kindOk; rw [decide_eq_true hki.1, decide_eq_true hki.2]; rfl
  obtain ⟨KN, hKN⟩ : ∃ KN : Nat, x.kind = KN := ⟨x.kind.toNat, by omega⟩
  have hKN2 : x.kind.toNat = KN := by omega
  have CN0 := fun W => rnum_any KN (by omega) W
  have CH := Lib.hid (fun W => rhas_any x.kind W h0.small.kind)
  have CT := Lib.hid (fun W => rtexts_any x W)
  obtain ⟨hss, hhs⟩ : ∃ hss, hasS x.kind = hss := ⟨_, rfl⟩
  have hz : hss.size = 16 := by rw [← hhs]; exact hasS_size hko
  have HX := Lib.hid (show ∀ i (hi : i < 16), hss[i]'(by omega) = if hasB x.kind.toNat i then 120 else 46 from fun i hi => by
    subst hhs
    exact hasS_at hko hi _)
  rw [hhs] at CH
  have HLEN := Lib.hid (fun k hk => preB_len (sB := subsB subs) h0 hf (by omega) k hk)
  have HB0 := Lib.hid ((Below.refl _ w).alloc (Nat.le_refl _) (.cells (cmC x).toArray TCm))
  have HBx := Lib.hid (Bx.new w x)
  have H0 := Lib.hid h0
  have HF := Lib.hid hf
  have HS := Lib.hid hs
  have e0 : numB KN = preB x tags (subsB subs) 0 := by unfold preB; rw [hKN2]
  rw [e0, ← hKN] at CN0
  have CN := Lib.hid CN0
  have e1 : IntKind.u64.wrap x.kind = x.kind := by unfold IntKind.wrap; simp [IntKind.signed, IntKind.bits]; omega
  have hki2 : 0 ≤ x.kind := by omega
  clear h0 hf hki hs hko hKN hKN2 hhs e0 CN0
  unfold cmC strV at HB0
  unfold cmV strV at CT
  unfold cmV strV
  go_enter Try.func22, Try.ntmps22
  go_wp2_with fail
  refine (CN.out _).mono ?_
  rintro e w1 ⟨v1, rfl, hv1, hb1⟩
  have HV1 := Lib.hid (⟨bown_base hv1 (by simp), HB0.out.trans (hb1.mono (by simp)), Nat.lt_of_lt_of_le (by simp) hb1.size, HBx.out.below hb1 (by simp), fun j hj => by
    have : j = w.heap.size := by simpa using hj
    subst this
    intro e
    have := (hv1.lt _ e).1
    simp at this
    omega, (fun j hj => by cases hj), (fun _ _ _ h => h), trivial⟩ : Dw w w.heap.size x [] (fun _ => True) w1 v1 (preB x tags (subsB subs) 0))
  have q0 := HV1.out.bx.c0
  clear hv1 hb1 CN e1 hki2 HB0 HBx
  go_wp2_with (go_at_call 17; refine (CH.out _).mono ?_; rintro e w2 ⟨rfl, hb2⟩; have HV2 := Lib.hid (HV1.out.below hb2); have q1 := HV2.out.bx.c1; have q2 := HV2.out.bx.c2; have q3 := HV2.out.bx.c3; clear hb2 q0)
  obtain ⟨w3, hw3⟩ : ∃ w3, w2.alloc (.cells #[.int .i64 x.node, .int .i64 x.port, .int .i64 x.status] 3) = w3 := ⟨_, rfl⟩
  rw [hw3]
  obtain ⟨N2, hN2⟩ : ∃ N2, w2.heap.size = N2 := ⟨_, rfl⟩
  rw [hN2]
  have hrv : RV w3 (some ⟨N2, 0, none⟩) 3 (x.nums.map (.int .i64 ·)) := by rw [← hw3, ← hN2]; exact RV.new w2 _ _
  have hb3 : Below w2.heap.size w2 w3 := by rw [← hw3]; exact (Below.refl _ w2).alloc (Nat.le_refl _) _
  have HV3 := Lib.hid ((HV2.out.below hb3).to (D' := [N2]) (F' := fun w => RV w (some ⟨N2, 0, none⟩) 3 (x.nums.map (.int .i64 ·))) (fun j hj e => by
    have : j = N2 := by simpa using hj
    have := own_lt HV2.out.own e
    omega) (fun j hj => by
    have : j = N2 := by simpa using hj
    rw [← hw3]
    simp
    omega) (fun w1 w2 hk h => rv_at h (hk N2 (by simp))) hrv)
  clear q1 q2 q3 hw3 hN2 hb3 hrv HV2 HV1
  go_loopw [3, 6] (fun v i wr => ∃ k : Nat, k ≤ 3 ∧ i = .int .i64 k ∧ Dw w w.heap.size x [N2] (fun w => RV w (some ⟨N2, 0, none⟩) 3 (x.nums.map (.int .i64 ·))) wr v (preB x tags (subsB subs) k)) (fun _ i _ => 3 - (intOf i).toNat)
  case atStart => exact ⟨0, Nat.zero_le _, rfl, HV3.out⟩
  case round =>
    obtain ⟨k, hk, rfl, hU⟩ := hrel
    have HU := Lib.hid hU
    clear hU
    by_cases hlt : k < 3
    · obtain ⟨b, off, e, hbl, hc⟩ := HU.out.f.at_ hlt
      cases e
      obtain ⟨z, hz'⟩ : ∃ z, x.nums[k]'hlt = z := ⟨_, rfl⟩
      have hc' : wr.cell? ⟨N2, k, none⟩ = some (.int .i64 z) := by
        rw [Nat.zero_add] at hc
        rw [hc, List.getElem_map]
        exact congrArg some (congrArg (Value.int .i64) hz')
      have hxk := HX.out k (by omega)
      have t0 : (k : Int) < (hss.size : Int) := by omega
      have hval : (x.vals tags)[k]? = some (.num z) := by
        rw [← hz']
        match k, hlt with
        | 0, _ => rfl
        | 1, _ => rfl
        | 2, _ => rfl
      have HVAL := Lib.hid hval
      clear hc hz' hval
      have u1 : (k : Int) < 3 := by omega
      have u2 : (0 : Int) ≤ (k : Int) := by omega
      cases hh : hasB x.kind.toNat k with
      | true =>
        obtain ⟨n, hn, hn2⟩ := num_rt (HF.out k _ HVAL.out hh)
        have PRE := Lib.hid (preB_has (sB := subsB subs) HVAL.out hh)
        rw [hn] at PRE
        have hlen := HLEN.out k (by omega)
        have hn9 := numB_le (n := n) (by omega)
        have C2 := Lib.hid (rnum_lay n (by omega) wr)
        rw [hh, if_pos rfl] at hxk
        have e1 : IntKind.u64.wrap (n : Int) = (n : Int) := by unfold IntKind.wrap; simp [IntKind.signed, IntKind.bits]; omega
        have e2 : (0 : Int) ≤ (n : Int) := by omega
        have HPL := Lib.hid (show 0 < (numB n).length ∧ (preB x tags (subsB subs) k).length + (numB n).length ≤ 1000000 from ⟨by rw [numB_length]; omega, by omega⟩)
        subst hn
        clear hh hn2 hlen hn9
        go_wp2_with fail
        refine C2.out.mono ?_
        rintro e w4 ⟨v4, rfl, hv4, hb4⟩
        have HV4 := Lib.hid hv4
        have HU4 := Lib.hid (HU.out.below hb4)
        clear hv4 hb4
        go_wp2_with (at_builtin; refine wpList_append_dw rfl (.tmp 32) (.tmp 38) rfl w w.heap.size x _ _ _ _ (preB x tags (subsB subs) k) (numB n) rfl rfl HU4.out HV4.out HPL.out.1 HPL.out.2 ?_)
        refine Lib.hid ?_
        intro v5 w5 hv5
        have HV5 := Lib.hid hv5
        clear hv5
        go_wp2
        go_roundw
        case rel => exact ⟨k + 1, by omega, by go_num, by rw [PRE.out]; exact HV5.out⟩
        case measure => simp [intOf]; omega
      | false =>
        have PRE := Lib.hid (preB_not (sB := subsB subs) (tags := tags) hh)
        rw [hh, if_neg (by decide)] at hxk
        clear hh
        go_wp2
        go_roundw
        case rel => exact ⟨k + 1, by omega, by go_num, by rw [PRE.out]; exact HU.out⟩
        case measure => simp [intOf]; omega
    · obtain rfl : k = 3 := by omega
      have HIt := Lib.hid HU.out.bx.item
      go_wp2_with (first | (refine wpList_load_mid rfl TCm (.tmp 1) rfl w.heap.size 0 rfl (cmC x) _ HIt.out Try.underlying26 rfl (by kernel_rfl) ?_; unfold cmC strV) | (go_at_call 18; refine (CT.out _).mono ?_; rintro e w4 ⟨⟨B3, rfl, hB3, hrv4⟩, hb4⟩))
      have HV4 := Lib.hid ((HU.out.below hb4).to (D' := [B3]) (F' := fun w => RV w (some ⟨B3, 0, none⟩) 8 (x.texts.map strV)) (fun j hj e => by
        have : j = B3 := by simpa using hj
        have := own_lt HU.out.own e
        omega) (fun j hj => by
        have : j = B3 := by simpa using hj
        subst this
        obtain ⟨b, off, e, hb, _⟩ := hrv4.2 (by decide)
        cases e
        exact hb) (fun w1 w2 hk h => rv_at h (hk B3 (by simp))) hrv4)
      clear hB3 hrv4 hb4 HU HIt CT hk hlt
      go_loopw [3, 8] (fun v i wr => ∃ k : Nat, k ≤ 8 ∧ i = .int .i64 k ∧ Dw w w.heap.size x [B3] (fun w => RV w (some ⟨B3, 0, none⟩) 8 (x.texts.map strV)) wr v (preB x tags (subsB subs) (3 + k))) (fun _ i _ => 8 - (intOf i).toNat)
      case atStart => exact ⟨0, Nat.zero_le _, rfl, HV4.out⟩
      case round =>
        obtain ⟨k, hk, rfl, hU⟩ := hrel
        have HU := Lib.hid hU
        clear hU
        by_cases hlt : k < 8
        · obtain ⟨b, off, e, hbl, hc⟩ := HU.out.f.at_ hlt
          cases e
          obtain ⟨z, hz'⟩ : ∃ z, x.texts[k]'hlt = z := ⟨_, rfl⟩
          have hc' : wr.cell? ⟨B3, k, none⟩ = some (strV z) := by
            rw [Nat.zero_add] at hc
            rw [hc, List.getElem_map]
            exact congrArg some (congrArg strV hz')
          have hxk := HX.out (3 + k) (by omega)
          have ek : IntKind.i64.wrap (3 + (k : Int)) = 3 + (k : Int) := IntWalk.i64_in _ (by omega)
          have ek2 : (3 + (k : Int)).toNat = 3 + k := by omega
          have t0 : 3 + (k : Int) < (hss.size : Int) := by omega
          have t1 : (0 : Int) ≤ 3 + (k : Int) := by omega
          have hval : (x.vals tags)[3 + k]? = some (.text z) := by
            rw [← hz']
            match k, hlt with
            | 0, _ => rfl
            | 1, _ => rfl
            | 2, _ => rfl
            | 3, _ => rfl
            | 4, _ => rfl
            | 5, _ => rfl
            | 6, _ => rfl
            | 7, _ => rfl
          have HVAL := Lib.hid hval
          clear hc hz' hval
          have u1 : (k : Int) < 8 := by omega
          have u2 : (0 : Int) ≤ (k : Int) := by omega
          cases hh : hasB x.kind.toNat (3 + k) with
          | true =>
            have hrt : z.length ≤ 80 := by simpa [Fv.right] using HF.out (3 + k) _ HVAL.out hh
            have PRE := Lib.hid (preB_has (sB := subsB subs) HVAL.out hh)
            have hlen := HLEN.out (3 + k) (by omega)
            have hn9 := textB_le hrt
            have C2 := Lib.hid (rtext_lay z hrt wr)
            rw [hh, if_pos rfl] at hxk
            have HPL := Lib.hid (show 0 < (textB z).length ∧ (preB x tags (subsB subs) (3 + k)).length + (textB z).length ≤ 1000000 from ⟨bytes_pos (.text z), by omega⟩)
            clear hh hlen hn9 hrt
            unfold strV at hc' C2
            go_wp2_with fail
            refine C2.out.mono ?_
            rintro e w5 ⟨v5, rfl, hv5, hb5⟩
            have HV5 := Lib.hid hv5
            have HU5 := Lib.hid (HU.out.below hb5)
            clear hv5 hb5
            go_wp2_with (at_builtin; refine wpList_append_dw rfl (.tmp 51) (.tmp 56) rfl w w.heap.size x _ _ _ _ (preB x tags (subsB subs) (3 + k)) (textB z) rfl rfl HU5.out HV5.out HPL.out.1 HPL.out.2 ?_)
            refine Lib.hid ?_
            intro v6 w6 hv6
            have HV6 := Lib.hid hv6
            clear hv6
            go_wp2
            go_roundw
            case rel => exact ⟨k + 1, by omega, by go_num, by rw [show 3 + (k + 1) = 3 + k + 1 from rfl, PRE.out]; exact HV6.out⟩
            case measure => simp [intOf]; omega
          | false =>
            have PRE := Lib.hid (preB_not (sB := subsB subs) (tags := tags) hh)
            rw [hh, if_neg (by decide)] at hxk
            clear hh
            go_wp2
            go_roundw
            case rel => exact ⟨k + 1, by omega, by go_num, by rw [show 3 + (k + 1) = 3 + k + 1 from rfl, PRE.out]; exact HU.out⟩
            case measure => simp [intOf]; omega
        · obtain rfl : k = 8 := by omega
          have HV7 := Lib.hid (HU.out.to (D' := []) (F' := fun _ => True) (fun j hj => by cases hj) (fun j hj => by cases hj) (fun _ _ _ h => h) trivial)
          clear HU hk hlt
          have g11 := HX.out 11 (by omega)
          obtain ⟨B11, hB11⟩ : ∃ B, hasB x.kind.toNat 11 = B := ⟨_, rfl⟩
          rw [hB11] at g11
          have i11 : 11 < hss.size := by omega
          have t11 : (((hss[11]'i11).toNat : Int) == 120) = B11 := by rw [g11]; cases B11 <;> rfl
          have H11 := Lib.hid hB11
          clear g11 hB11
          go_upto_if 60 with (fail)
          go_cut [3] (fun s3 wx => Dw w w.heap.size x [] (fun _ => True) wx s3 (preB x tags (subsB subs) 12))
          case first =>
            cases B11 with
            | true =>
              have hrt := HF.out 11 (.texts tags) rfl H11.out
              have hlen := HLEN.out 11 (by omega)
              have hn9 := bytes_le hrt (idx_le H0.out (k := 11) rfl)
              have hps := bytes_pos (.texts tags)
              have PRE := Lib.hid (preB_has (sB := subsB subs) (tags := tags) (k := 11) (v := .texts tags) rfl H11.out)
              have qk := HV7.out.bx.c12
              have C2 := Lib.hid ((rlist_str x.tA x.tn x.tc tags _ (H0.out.row.below HV7.out.low) (Nat.le_trans (Nat.add_le_add_right hn9 9) (by decide)) (by have h8 := hrt; simp only [Fv.right, Bool.and_eq_true, decide_eq_true_eq] at h8; have := H0.out.len; omega)).mono fun e w2 h => lays_adds h)
              have HPL := Lib.hid (show 0 < (textsB tags).length ∧ (preB x tags (subsB subs) 11).length + (textsB tags).length ≤ 1000000 from ⟨hps, Nat.le_trans (Nat.add_le_add hlen hn9) (by decide)⟩)
              clear hrt hlen hn9 hps
              go_wp2_with fail
              refine C2.out.mono ?_
              rintro e w5 ⟨v5, rfl, hv5, hb5⟩
              have HV5 := Lib.hid hv5
              have HU5 := Lib.hid (HV7.out.below hb5)
              clear hv5 hb5 qk
              go_wp2_with (at_builtin; refine wpList_append_dw rfl (.tmp 61) (.tmp 64) rfl w w.heap.size x _ _ _ _ (preB x tags (subsB subs) 11) (textsB tags) rfl rfl HU5.out HV5.out HPL.out.1 HPL.out.2 ?_)
              refine Lib.hid ?_
              intro v6 w6 hv6
              have HV6 := Lib.hid hv6
              clear hv6
              go_wp2
              go_meet
              rw [PRE.out]
              exact HV6.out
            | false =>
              have PRE := Lib.hid (preB_not (sB := subsB subs) (tags := tags) H11.out)
              go_wp2
              go_meet
              rw [PRE.out]
              exact HV7.out
          case rest =>
            have HV11 := Lib.hid hcut
            clear hcut
            have g12 := HX.out 12 (by omega)
            obtain ⟨B12, hB12⟩ : ∃ B, hasB x.kind.toNat 12 = B := ⟨_, rfl⟩
            rw [hB12] at g12
            have i12 : 12 < hss.size := by omega
            have t12 : (((hss[12]'i12).toNat : Int) == 120) = B12 := by rw [g12]; cases B12 <;> rfl
            have H12 := Lib.hid hB12
            clear g12 hB12
            go_upto_if 68 with (fail)
            go_cut [3] (fun s3 wx => Dw w w.heap.size x [] (fun _ => True) wx s3 (preB x tags (subsB subs) 13))
            case first =>
              cases B12 with
              | true =>
                have hrt := HF.out 12 (.flag x.allow) rfl H12.out
                have hlen := HLEN.out 12 (by omega)
                have hn9 := bytes_le hrt (idx_le H0.out (k := 12) rfl)
                have hps := bytes_pos (.flag x.allow)
                have PRE := Lib.hid (preB_has (sB := subsB subs) (tags := tags) (k := 12) (v := .flag x.allow) rfl H12.out)
                have qk := HV11.out.bx.c13
                have C2 := Lib.hid (fun (W : World) => (rflag_any x.allow W).mono fun e w2 h => lays_of h)
                have HPL := Lib.hid (show 0 < (flagB x.allow).length ∧ (preB x tags (subsB subs) 12).length + (flagB x.allow).length ≤ 1000000 from ⟨hps, Nat.le_trans (Nat.add_le_add hlen hn9) (by decide)⟩)
                clear hrt hlen hn9 hps
                go_wp2_with fail
                refine (C2.out _).mono ?_
                rintro e w5 ⟨v5, rfl, hv5, hb5⟩
                have HV5 := Lib.hid hv5
                have HU5 := Lib.hid (HV11.out.below hb5)
                clear hv5 hb5 qk
                go_wp2_with (at_builtin; refine wpList_append_dw rfl (.tmp 69) (.tmp 72) rfl w w.heap.size x _ _ _ _ (preB x tags (subsB subs) 12) (flagB x.allow) rfl rfl HU5.out HV5.out HPL.out.1 HPL.out.2 ?_)
                refine Lib.hid ?_
                intro v6 w6 hv6
                have HV6 := Lib.hid hv6
                clear hv6
                go_wp2
                go_meet
                rw [PRE.out]
                exact HV6.out
              | false =>
                have PRE := Lib.hid (preB_not (sB := subsB subs) (tags := tags) H12.out)
                go_wp2
                go_meet
                rw [PRE.out]
                exact HV11.out
            case rest =>
              have HV12 := Lib.hid hcut
              clear hcut
              have g13 := HX.out 13 (by omega)
              obtain ⟨B13, hB13⟩ : ∃ B, hasB x.kind.toNat 13 = B := ⟨_, rfl⟩
              rw [hB13] at g13
              have i13 : 13 < hss.size := by omega
              have t13 : (((hss[13]'i13).toNat : Int) == 120) = B13 := by rw [g13]; cases B13 <;> rfl
              have H13 := Lib.hid hB13
              clear g13 hB13
              go_upto_if 76 with (fail)
              go_cut [3] (fun s3 wx => Dw w w.heap.size x [] (fun _ => True) wx s3 (preB x tags (subsB subs) 14))
              case first =>
                cases B13 with
                | true =>
                  have hrt := HF.out 13 (.idx x.old) rfl H13.out
                  have hlen := HLEN.out 13 (by omega)
                  have hn9 := bytes_le hrt (idx_le H0.out (k := 13) rfl)
                  have hps := bytes_pos (.idx x.old)
                  have PRE := Lib.hid (preB_has (sB := subsB subs) (tags := tags) (k := 13) (v := .idx x.old) rfl H13.out)
                  have qk := HV12.out.bx.c14
                  have C2 := Lib.hid (fun (W : World) => rnum_lay x.old H0.out.small.old W)
                  have HPL := Lib.hid (show 0 < (numB x.old).length ∧ (preB x tags (subsB subs) 13).length + (numB x.old).length ≤ 1000000 from ⟨hps, Nat.le_trans (Nat.add_le_add hlen hn9) (by decide)⟩)
                  clear hrt hlen hn9 hps
                  go_wp2_with fail
                  refine (C2.out _).mono ?_
                  rintro e w5 ⟨v5, rfl, hv5, hb5⟩
                  have HV5 := Lib.hid hv5
                  have HU5 := Lib.hid (HV12.out.below hb5)
                  clear hv5 hb5 qk
                  go_wp2_with (at_builtin; refine wpList_append_dw rfl (.tmp 77) (.tmp 80) rfl w w.heap.size x _ _ _ _ (preB x tags (subsB subs) 13) (numB x.old) rfl rfl HU5.out HV5.out HPL.out.1 HPL.out.2 ?_)
                  refine Lib.hid ?_
                  intro v6 w6 hv6
                  have HV6 := Lib.hid hv6
                  clear hv6
                  go_wp2
                  go_meet
                  rw [PRE.out]
                  exact HV6.out
                | false =>
                  have PRE := Lib.hid (preB_not (sB := subsB subs) (tags := tags) H13.out)
                  go_wp2
                  go_meet
                  rw [PRE.out]
                  exact HV12.out
              case rest =>
                have HV13 := Lib.hid hcut
                clear hcut
                have g14 := HX.out 14 (by omega)
                obtain ⟨B14, hB14⟩ : ∃ B, hasB x.kind.toNat 14 = B := ⟨_, rfl⟩
                rw [hB14] at g14
                have i14 : 14 < hss.size := by omega
                have t14 : (((hss[14]'i14).toNat : Int) == 120) = B14 := by rw [g14]; cases B14 <;> rfl
                have H14 := Lib.hid hB14
                clear g14 hB14
                go_upto_if 84 with (fail)
                go_cut [3] (fun s3 wx => Dw w w.heap.size x [] (fun _ => True) wx s3 (preB x tags (subsB subs) 15))
                case first =>
                  cases B14 with
                  | true =>
                    have hrt := HF.out 14 (.idx x.ses) rfl H14.out
                    have hlen := HLEN.out 14 (by omega)
                    have hn9 := bytes_le hrt (idx_le H0.out (k := 14) rfl)
                    have hps := bytes_pos (.idx x.ses)
                    have PRE := Lib.hid (preB_has (sB := subsB subs) (tags := tags) (k := 14) (v := .idx x.ses) rfl H14.out)
                    have qk := HV13.out.bx.c15
                    have C2 := Lib.hid (fun (W : World) => rnum_lay x.ses H0.out.small.ses W)
                    have HPL := Lib.hid (show 0 < (numB x.ses).length ∧ (preB x tags (subsB subs) 14).length + (numB x.ses).length ≤ 1000000 from ⟨hps, Nat.le_trans (Nat.add_le_add hlen hn9) (by decide)⟩)
                    clear hrt hlen hn9 hps
                    go_wp2_with fail
                    refine (C2.out _).mono ?_
                    rintro e w5 ⟨v5, rfl, hv5, hb5⟩
                    have HV5 := Lib.hid hv5
                    have HU5 := Lib.hid (HV13.out.below hb5)
                    clear hv5 hb5 qk
                    go_wp2_with (at_builtin; refine wpList_append_dw rfl (.tmp 85) (.tmp 88) rfl w w.heap.size x _ _ _ _ (preB x tags (subsB subs) 14) (numB x.ses) rfl rfl HU5.out HV5.out HPL.out.1 HPL.out.2 ?_)
                    refine Lib.hid ?_
                    intro v6 w6 hv6
                    have HV6 := Lib.hid hv6
                    clear hv6
                    go_wp2
                    go_meet
                    rw [PRE.out]
                    exact HV6.out
                  | false =>
                    have PRE := Lib.hid (preB_not (sB := subsB subs) (tags := tags) H14.out)
                    go_wp2
                    go_meet
                    rw [PRE.out]
                    exact HV13.out
                case rest =>
                  have HV14 := Lib.hid hcut
                  clear hcut
                  have g15 := HX.out 15 (by omega)
                  obtain ⟨B15, hB15⟩ : ∃ B, hasB x.kind.toNat 15 = B := ⟨_, rfl⟩
                  rw [hB15] at g15
                  have i15 : 15 < hss.size := by omega
                  have t15 : (((hss[15]'i15).toNat : Int) == 120) = B15 := by rw [g15]; cases B15 <;> rfl
                  have H15 := Lib.hid hB15
                  clear g15 hB15
                  cases B15 with
                  | false =>
                    have PRE := Lib.hid (preB_not (sB := subsB subs) (tags := tags) H15.out)
                    go_wp2
                    go_ret
                    exact ⟨_, rfl, by unfold cmdB; rw [PRE.out]; exact bs_of_own HV14.out.own, HV14.out.low⟩
                  | true =>
                    obtain ⟨hn8, hrow, hev⟩ := HS.out H15.out
                    have hl : subs.length = x.sn := by simpa using hrow.1
                    have HL := Lib.hid hl
                    have PRE := Lib.hid (show preB x tags (subsB subs) 16 = preB x tags (subsB subs) 15 ++ subsTo subs x.sn by
                      rw [subsTo_all (Nat.le_of_eq hl), preB, H15.out]
                      rfl)
                    have hlen := HLEN.out 15 (by omega)
                    have htl : ∀ k, k ≤ x.sn → (subsTo subs k).length ≤ 9 + 11000 * k := fun k hk => by
                      induction k with
                      | zero =>
                        have : (numB subs.length).length ≤ 9 := numB_le (n := subs.length) (by omega)
                        simpa [subsTo] using this
                      | succ k ih =>
                        have h3 := ih (by omega)
                        have h4 := (hev subs[k] (List.getElem_mem _)).1.2
                        rw [subsTo_succ (by omega), List.length_append]
                        omega
                    have HTL := Lib.hid htl
                    have hnn := numB_le (n := x.sn) (by omega)
                    have HPL := Lib.hid (show 0 < (numB x.sn).length ∧ (preB x tags (subsB subs) 15).length + (numB x.sn).length ≤ 1000000 from ⟨by rw [numB_length]; omega, by omega⟩)
                    have HLN := Lib.hid hlen
                    have C2 := Lib.hid (fun W => rnum_lay x.sn (by omega) W)
                    have HEV := Lib.hid hev
                    have HRW := Lib.hid hrow
                    have qk := HV14.out.bx.c16
                    have e1 : IntKind.u64.wrap (x.sn : Int) = (x.sn : Int) := by unfold IntKind.wrap; simp [IntKind.signed, IntKind.bits]; omega
                    have e2 : (0 : Int) ≤ (x.sn : Int) := by omega
                    clear hrow hl hlen htl hnn hev
                    go_wp2_with fail
                    refine (C2.out _).mono ?_
                    rintro e w5 ⟨v5, rfl, hv5, hb5⟩
                    have HV5 := Lib.hid hv5
                    have HU5 := Lib.hid (HV14.out.below hb5)
                    clear hv5 hb5 qk e1
                    go_wp2_with (at_builtin; refine wpList_append_dw rfl (.tmp 93) (.tmp 98) rfl w w.heap.size x _ _ _ _ (preB x tags (subsB subs) 15) (numB x.sn) rfl rfl HU5.out HV5.out HPL.out.1 HPL.out.2 ?_)
                    refine Lib.hid ?_
                    intro v6 w6 hv6
                    have HV6 := Lib.hid hv6
                    have HE0 : Hid (preB x tags (subsB subs) 15 ++ numB x.sn = preB x tags (subsB subs) 15 ++ subsTo subs 0) := Lib.hid (by simp [subsTo, HL.out])
                    clear hv6
                    go_wp2
                    go_loopw [3, 9] (fun v i wr => ∃ k : Nat, k ≤ x.sn ∧ i = .int .i64 k ∧ Dw w w.heap.size x [] (fun _ => True) wr v (preB x tags (subsB subs) 15 ++ subsTo subs k)) (fun _ i _ => x.sn - (intOf i).toNat)
                    case atStart => exact ⟨0, Nat.zero_le _, rfl, by rw [← HE0.out]; exact HV6.out⟩
                    case round =>
                      obtain ⟨k, hk, rfl, hU⟩ := hrel
                      have HU := Lib.hid hU
                      have qk := HU.out.bx.c16
                      clear hU
                      by_cases hlt : k < x.sn
                      · have lt2 : k < subs.length := by rw [HL.out]; exact hlt
                        obtain ⟨p, off, e, hpl, hit⟩ := (HRW.out.below HU.out.low).at_ hlt (by simpa using lt2)
                        obtain ⟨y, hy⟩ : ∃ y, subs[k]'lt2 = y := ⟨_, rfl⟩
                        rw [List.getElem_map, hy] at hit
                        have HIt := Lib.hid hit
                        have hm : y ∈ subs := by rw [← hy]; exact List.getElem_mem _
                        have hbs := HEV.out y hm
                        have C3 := Lib.hid (hbs.2 _ HU.out.low)
                        have htl := HTL.out k hk
                        have hln := HLN.out
                        have HPL := Lib.hid (show 0 < (subB y).length ∧ (preB x tags (subsB subs) 15 ++ subsTo subs k).length + (subB y).length ≤ 1000000 from ⟨hbs.1.1, by have := hbs.1.2; rw [List.length_append]; omega⟩)
                        have HE := Lib.hid (show preB x tags (subsB subs) 15 ++ subsTo subs k ++ subB y = preB x tags (subsB subs) 15 ++ subsTo subs (k + 1) by rw [subsTo_succ lt2, hy, List.append_assoc])
                        rw [e] at qk
                        clear e hit hy hm hpl hbs htl hln
                        unfold cmV strV at C3
                        go_wp2_with (refine wpList_load_mid rfl TCm (.tmp 111) rfl p (off + k * 17) rfl (cmC y.1) _ HIt.out Try.underlying26 rfl (by kernel_rfl) ?_; unfold cmC strV)
                        refine C3.out.mono ?_
                        rintro e w7 ⟨v7, rfl, hv7, hb7⟩
                        have HV7 := Lib.hid hv7
                        have HU7 := Lib.hid (HU.out.below hb7)
                        clear hv7 hb7
                        go_wp2_with (at_builtin; refine wpList_append_dw rfl (.tmp 107) (.tmp 113) rfl w w.heap.size x _ _ _ _ (preB x tags (subsB subs) 15 ++ subsTo subs k) (subB y) rfl rfl HU7.out HV7.out HPL.out.1 HPL.out.2 ?_)
                        refine Lib.hid ?_
                        intro v8 w8 hv8
                        have HV8 := Lib.hid hv8
                        clear hv8
                        go_wp2
                        go_roundw
                        case rel => exact ⟨k + 1, by omega, by go_num, by rw [← HE.out, List.append_assoc]; exact HV8.out⟩
                        case measure => simp [intOf]; omega
                      · obtain rfl : k = x.sn := by omega
                        go_wp2
                        go_ret
                        exact ⟨_, rfl, by unfold cmdB; rw [PRE.out]; exact bs_of_own HU.out.own, HU.out.low⟩
end Go.Proofs.Ytbhhalkpghcflaa
