/-
  Any bytes, and their sum behind them, are sealed; any bytes are just if the document says so: the law sodalitylaw02.SumSealed over the contracts.
-/
import Derived.Test.YtbnlboggclholaaWorks
import Derived.Deep.RegionWith
import Derived.Deep.RegionHeld3
import Derived.Deep.CutRange
import Derived.Deep.DeepCutAuto
import Derived.Laws.IdiomStrings
namespace Go.Proofs.Ytbnlboggclholaa
open Go.RowKit
set_option linter.unusedSimpArgs false

theorem conv_rb {w : World} {A : Option Addr} {n : Nat} {xs : List UInt8} (h : RB w A n xs) (c : Nat) : (convert 22 9 (.slice A n c)).run Try.prog w = .ok (.string ⟨xs.toArray⟩) w := by
  have hl := h.1
  rcases Nat.eq_zero_or_pos n with h0 | hp
  · subst h0
    obtain rfl : xs = [] := List.eq_nil_of_length_eq_zero hl
    rw [run_convert_bytes_string w _ _ _ _ 0 c Try.underlying22 Try.underlying5 Try.underlying9]
    cases A <;> simp [Conv.bytesToString, loadCells]
    all_goals rfl
  · obtain ⟨b, off, rfl, _, hc⟩ := h.2 hp
    subst hl
    refine run_convert_bytes_back w _ _ _ ⟨b, off, none⟩ c xs Try.underlying22 Try.underlying5 Try.underlying9 fun j hj => ?_
    have hplain : (⟨b, off, none⟩ : Addr).add j = ⟨b, off + j, none⟩ := by unfold Addr.add; split <;> simp_all
    rw [hplain]
    exact hc j hj

set_option maxHeartbeats 1000000 in
theorem sealed_walk (C : Con) (A : Option Addr) (n c : Nat) (xs : List UInt8) (w : World) (h : RB w A n xs) (hnil : A = none → c = 0) (hcap : n ≤ c) (hn : n ≤ 140737488351232) :
    Calls Try.prog 5 #[.slice A n c] w fun e w' => e = .returned (.bool true) ∧ Below w.heap.size w w' := by
  obtain ⟨i0, hi, hz0, hz1, hz2⟩ := info_parts u8_info
  have hM : maxLen = 9223372036854775807 := by unfold maxLen; omega
  have HR := Lib.hid h
  have HM := Lib.hid hM
  have HN := Lib.hid hn
  clear h hM hn
  have hown0 := own_made w
  go_enter Try.func5, Try.ntmps5
  go_wp2_with (at_builtin; refine wpList_append_rb rfl (.tmp 4) (.tmp 5) 22 rfl w.heap.size 5 i0 (.int .u8 0) 1 Try.underlying22 hi hz0 hz1 hz2 rfl _ 0 [] rfl hown0 A n c xs rfl hnil (HR.out.alloc _) ?c1 ?c2 ?c3 ?_)
  case c1 => have := HN.out; have := HM.out; omega
  case c2 => have := HN.out; omega
  case c3 => simp
  intro v1 w4 hown1 hg1
  have hb4 := below_made w w4 hg1
  have HB4 := Lib.hid hb4
  have hlt4 := Lib.hid hb4.size
  have HO4 : Hid (w4.ownsRow w.heap.size 5 1 v1 n (xs.map byteV)) := Lib.hid (by simpa using hown1)
  have s4 := C.sum_one A n c xs w4 (HR.out.below HB4.out) (by have := HN.out; have := HM.out; omega)
  obtain ⟨S1, hS1⟩ : ∃ S, (crc xs).toNat = S := ⟨_, rfl⟩
  have HS1 := Lib.hid hS1
  rw [hS1] at s4
  clear hb4 hown1 hg1 hown0 hS1
  go_wp2_with fail
  refine s4.mono ?_
  rintro e w5 ⟨rfl, hb5⟩
  have s5 := C.bytes (crc xs) w5
  rw [HS1.out] at s5
  have HB5 := Lib.hid hb5
  clear hb5 s4
  go_wp2_with fail
  refine s5.mono ?_
  rintro e w6 ⟨A2, c2, rfl, hr6, hn6, _, _, hb6⟩
  have HB46 := Lib.hid (HB5.out.trans (hb6.mono HB5.out.size))
  have hown6 := bown_keep HO4.out HB46.out
  have hlt6 := Lib.hid (Nat.le_trans hlt4.out HB46.out.size)
  have HB6 := Lib.hid (HB4.out.trans (HB46.out.mono HB4.out.size))
  clear s5 hb6 HB5 HO4 HB46 HB4
  simp only [show (sumBytes (crc xs)).length = 4 from rfl] at hr6 ⊢
  go_wp2_with (at_builtin; refine wpList_append_rb rfl (.tmp 6) (.tmp 10) 22 rfl w.heap.size 5 i0 (.int .u8 0) 1 Try.underlying22 hi hz0 hz1 hz2 rfl _ n (xs.map byteV) rfl hown6 A2 4 c2 (sumBytes (crc xs)) rfl hn6 hr6 ?d1 ?d2 ?d3 ?_)
  case d1 => have := HN.out; have := HM.out; omega
  case d2 => have := HN.out; omega
  case d3 => exact hlt6.out
  intro v2 w7 hown7 hg7
  have hb7 := below_more hown6 hlt6.out hg7
  have HB7 := Lib.hid (HB6.out.trans hb7)
  rw [← List.map_append] at hown7
  obtain ⟨A3, c3, rfl, hr7, hn7, hle7, _⟩ := RB.own (xs := sealB xs) hown7
  have HC : Hid (∀ w', Below w7.heap.size w7 w' → (convert 22 9 (.slice A3 (n + 4) c3)).run Try.prog w' = .ok (.string ⟨(sealB xs).toArray⟩) w') := Lib.hid fun w' hb => conv_rb (hr7.below hb) c3
  have HRef : Hid (∀ w', Below w7.heap.size w7 w' → Calls Try.prog 14 #[.slice A n c] w' fun e w'' => ∃ A2 c2, e = .returned (.slice A2 (n + 4) c2) ∧ Below w7.heap.size w7 w'' ∧ (convert 22 9 (.slice A2 (n + 4) c2)).run Try.prog w'' = .ok (.string ⟨(sealB xs).toArray⟩) w'') := Lib.hid fun w' hb =>
    (rsealed_any A n c xs w' (HR.out.below (HB7.out.trans (hb.mono HB7.out.size))) HN.out).mono fun e w'' ⟨A2, c2, he, hr, _, _, _, hb'⟩ => by
      have hl : (sealB xs).length = n + 4 := by rw [sealB, List.length_append, HR.out.1]; rfl
      rw [hl] at he hr
      exact ⟨A2, c2, he, hb.trans (hb'.mono hb.size), conv_rb hr c2⟩
  have HSe : Hid (∀ w', Below w7.heap.size w7 w' → Calls Try.prog 15 #[.slice A3 (n + 4) c3] w' fun e w'' => e = .returned (.bool true) ∧ Below w7.heap.size w7 w'') := Lib.hid fun w' hb =>
    (C.sealed A3 (n + 4) c3 (sealB xs) w' (hr7.below hb) hn7 hle7 (by have := HN.out; omega)).mono fun e w'' ⟨he, hb'⟩ => ⟨by rw [he, sealB_sealed], hb.trans (hb'.mono hb.size)⟩
  clear hown7 hown6 hg7 hb7 hr6 hn6 HB6 hr7 hn7 hle7 hlt6 hlt4
  go_upto_region 2 with fail
  go_cut [22] from 12 to 22 (fun s22 wx => s22 = .bool false ∧ Below w7.heap.size w7 wx)
  case first =>
    have kc := HC.out
    have hb0 : Below w7.heap.size w7 w7.drew := (Below.refl _ _).drew
    have k0 := kc _ hb0
    have k1 : Hid (Below w7.heap.size w7 w7.drew) := Lib.hid hb0
    go_region_with (first | (go_at_call 14; refine (HRef.out _ ?_).mono ?_; (first | assumption | exact k1.out); rintro e w8 ⟨A5, c5, rfl, hb8, hcv⟩) | (go_at_call 15; refine (HSe.out _ ?_).mono ?_; (first | assumption | exact k1.out); rintro e w9 ⟨rfl, hb9⟩))
    all_goals (go_wp2_with fail; go_meet; exact ⟨rfl, hb9⟩)
  case rest =>
    obtain ⟨rfl, hbc⟩ := hcut
    have HBc := Lib.hid (HB7.out.trans (hbc.mono HB7.out.size))
    clear hbc HC HRef HSe
    have hn4 := HN.out
    by_cases hlt : n < 4
    · have s8 := C.sealed A n c xs wc (HR.out.below HBc.out) hnil hcap (by omega)
      rw [sealed_short (by rw [HR.out.1]; exact hlt)] at s8
      clear hnil hcap
      go_wp2_with fail
      refine s8.mono ?_
      rintro e w8 ⟨rfl, hb8⟩
      have HB8 := Lib.hid (HBc.out.trans (hb8.mono HBc.out.size))
      have s9 := works_any C w8
      clear s8 hb8
      go_wp2_with fail
      refine s9.mono ?_
      rintro e w9 ⟨rfl, hb9⟩
      have HB9 := Lib.hid (HB8.out.trans (hb9.mono HB8.out.size))
      clear hb9 s9
      go_wp2
      go_ret
      exact ⟨rfl, HB9.out⟩
    · obtain ⟨b, off, rfl, _, _⟩ := HR.out.2 (by omega)
      obtain ⟨m, rfl⟩ : ∃ m, n = m + 4 := ⟨n - 4, by omega⟩
      obtain ⟨s1, hs1⟩ : ∃ s1 : ByteArray, (⟨(sealB (xs.take m)).toArray⟩ : ByteArray) = s1 := ⟨_, rfl⟩
      obtain ⟨s2, hs2⟩ : ∃ s2 : ByteArray, (⟨xs.toArray⟩ : ByteArray) = s2 := ⟨_, rfl⟩
      obtain ⟨Z, hZ⟩ : ∃ Z, sealedB xs = Z := ⟨_, rfl⟩
      have hss : (s1.toList == s2.toList) = Z := by
        have hl := HR.out.1
        rw [← hs1, ← hs2, ← hZ, ByteArray.toList_mk, ByteArray.toList_mk, sealed_seal (by omega), show xs.length - 4 = m by omega, Bool.eq_iff_iff, beq_iff_eq, decide_eq_true_eq]
      have HK : Hid (∀ w', Below wc.heap.size wc w' → (convert 22 9 (.slice (some ⟨b, off, none⟩) (m + 4) c)).run Try.prog w' = .ok (.string s2) w') := Lib.hid fun w' hb => by rw [← hs2]; exact conv_rb (HR.out.below (HBc.out.trans (hb.mono HBc.out.size))) c
      have HRef : Hid (∀ w', Below wc.heap.size wc w' → Calls Try.prog 14 #[.slice (some ⟨b, off, none⟩) m c] w' fun e w'' => ∃ A2 c2, e = .returned (.slice A2 (m + 4) c2) ∧ Below wc.heap.size wc w'' ∧ (convert 22 9 (.slice A2 (m + 4) c2)).run Try.prog w'' = .ok (.string s1) w'') := Lib.hid fun w' hb =>
        (rsealed_any _ m c (xs.take m) w' ((HR.out.below (HBc.out.trans (hb.mono HBc.out.size))).take (by omega)) (by omega)).mono fun e w'' ⟨A2, c2, he, hr, _, _, _, hb'⟩ => by
          have hl : (sealB (xs.take m)).length = m + 4 := by
            have := HR.out.1
            rw [sealB, List.length_append, List.length_take, this, show (sumBytes _).length = 4 from rfl]; omega
          rw [hl] at he hr
          exact ⟨A2, c2, he, hb.trans (hb'.mono hb.size), by rw [← hs1]; exact conv_rb hr c2⟩
      have HSe : Hid (∀ w', Below wc.heap.size wc w' → Calls Try.prog 15 #[.slice (some ⟨b, off, none⟩) (m + 4) c] w' fun e w'' => e = .returned (.bool Z) ∧ Below wc.heap.size wc w'') := Lib.hid fun w' hb =>
        (C.sealed _ (m + 4) c xs w' (HR.out.below (HBc.out.trans (hb.mono HBc.out.size))) (fun e => by cases e) hcap (by omega)).mono fun e w'' ⟨he, hb'⟩ => ⟨by rw [he, hZ], hb.trans (hb'.mono hb.size)⟩
      have HW : Hid (∀ w', Below wc.heap.size wc w' → Calls Try.prog 11 #[] w' fun e w'' => e = .returned (.bool true) ∧ Below wc.heap.size wc w'') := Lib.hid fun w' hb => (works_any C w').mono fun e w'' ⟨he, hb'⟩ => ⟨he, hb.trans (hb'.mono hb.size)⟩
      clear hs1 hs2 hZ hnil HR
      have g1 : (0 : Int) ≤ (m : Int) := by omega
      have g2 : (m : Int) ≤ (c : Int) := by omega
      have g3 : IntKind.i64.wrap (m : Int) = (m : Int) := IntWalk.i64_in _ (by omega)
      have g4 : m ≤ c := by omega
      have hzz : (Z == Z) = true := by simp
      go_upto_region 6 with fail
      have kc := HK.out
      have hb0 : Below wc.heap.size wc wc.drew := (Below.refl _ _).drew
      have k0 := kc _ hb0
      have k1 : Hid (Below wc.heap.size wc wc.drew) := Lib.hid hb0
      go_region_with (first | (go_at_call 14; refine (HRef.out _ ?_).mono ?_; (first | assumption | exact k1.out); rintro e w8 ⟨A5, c5, rfl, hb8, hcv⟩) | (go_at_call 15; refine (HSe.out _ ?_).mono ?_; (first | assumption | exact k1.out); rintro e w9 ⟨rfl, hb9⟩) | (go_at_call 11; refine (HW.out _ ?_).mono ?_; (first | assumption | exact k1.out); rintro e w10 ⟨rfl, hb10⟩))
      all_goals (go_wp2_with fail)
      all_goals (try simp only [Act.put])
      all_goals (go_ret; exact ⟨rfl, HBc.out.trans (hb10.mono HBc.out.size)⟩)
end Go.Proofs.Ytbnlboggclholaa
