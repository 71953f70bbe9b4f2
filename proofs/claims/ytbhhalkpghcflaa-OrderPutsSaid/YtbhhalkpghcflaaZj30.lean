/-
  How a field is laid by its access (layer 20).
-/
import Derived.Test.YtbhhalkpghcflaaZj25
import Derived.Test.YtbhhalkpghcflaaZj29
namespace Go.Proofs.Ytbhhalkpghcflaa
open Go.RowKit
set_option linter.unusedSimpArgs false
set_option linter.unusedVariables false

/-- The slice of bytes that stands there. -/
structure Bs (w : World) (v : Value) (ys : List UInt8) : Prop where
  ex : ∃ A c, v = .slice A ys.length c ∧ RB w A ys.length ys ∧ (A = none → c = 0) ∧ ys.length ≤ c ∧ c ≤ maxLen
theorem Bs.below {w w' : World} {v : Value} {ys : List UInt8} (h : Bs w v ys) (hb : Below w.heap.size w w') : Bs w' v ys := by
  obtain ⟨A, c, h1, h2, h3⟩ := h.ex
  exact ⟨A, c, h1, h2.below hb, h3⟩
/-- A call that hands such a slice back. -/
def LaysT (w : World) (ys : List UInt8) (e : Ending) (w' : World) : Prop := ∃ v, e = .returned v ∧ Bs w' v ys ∧ Below w.heap.size w w'
theorem lays_of {w w' : World} {ys : List UInt8} {e : Ending} (h : BGives w ys e w') : LaysT w ys e w' := by
  obtain ⟨A, c, h1, h2, h3, h4, h5, h6⟩ := h
  exact ⟨_, h1, ⟨A, c, rfl, h2, h3, h4, h5⟩, h6⟩
section
variable {b : Nat} {p : Addr} {w : World} {v : Value} {ys : List UInt8}
theorem num_lay (z : Nat) (h1 : w.cell? ⟨b, 0, none⟩ = some (.pointer (some p))) (h2 : w.cell? p = some (.int .i64 (z : Int))) (hz : z ≤ 65535) (hv : Bs w v ys) (hy : ys.length ≤ 1000000) : Calls Try.prog 59 #[v, .pointer (some ⟨b, 0, none⟩)] w (LaysT w (ys ++ numB z)) := by
  obtain ⟨A, c, rfl, hr, hn, hnc, hcm⟩ := hv.ex
  have C := Lib.hid ((Num_any A ys.length c ys z (by omega) w hr hn hnc (by omega)).mono fun e w' h => lays_of h)
  obtain ⟨R, hR⟩ : ∃ R, ys ++ numB z = R := ⟨_, rfl⟩
  rw [hR] at C ⊢
  clear hr hn hnc hcm hv hR
  have e1 : IntKind.u64.wrap (z : Int) = (z : Int) := by unfold IntKind.wrap; simp [IntKind.signed, IntKind.bits]; omega
  have e2 : (0 : Int) ≤ (z : Int) := by omega
  go_enter Try.func59, Try.ntmps59
  go_wp2_with (go_at_call 19; refine C.out.mono ?_; rintro e w1 ⟨v2, rfl, hv2, hb⟩; have HB := Lib.hid hb; have HV := Lib.hid hv2; clear hb hv2)
  go_ret
  exact ⟨_, rfl, HV.out, HB.out⟩
theorem text_lay (s : List UInt8) (h1 : w.cell? ⟨b, 0, none⟩ = some (.pointer (some p))) (h2 : w.cell? p = some (strV s)) (hz : s.length ≤ 80) (hv : Bs w v ys) (hy : ys.length ≤ 1000000) : Calls Try.prog 64 #[v, .pointer (some ⟨b, 0, none⟩)] w (LaysT w (ys ++ textB s)) := by
  obtain ⟨A, c, rfl, hr, hn, hnc, hcm⟩ := hv.ex
  have C := Lib.hid ((Text_any A ys.length c ys s w hr hn hnc (by omega)).mono fun e w' h => lays_of h)
  obtain ⟨R, hR⟩ : ∃ R, ys ++ textB s = R := ⟨_, rfl⟩
  rw [hR] at C ⊢
  clear hr hn hnc hcm hv hR
  unfold strV at h2
  go_enter Try.func64, Try.ntmps64
  go_wp2_with (go_at_call 65; refine C.out.mono ?_; rintro e w1 ⟨v2, rfl, hv2, hb⟩; have HB := Lib.hid hb; have HV := Lib.hid hv2; clear hb hv2)
  go_ret
  exact ⟨_, rfl, HV.out, HB.out⟩
theorem texts_lay (B : Option Addr) (k d : Nat) (l : List (List UInt8)) (h1 : w.cell? ⟨b, 0, none⟩ = some (.pointer (some p))) (h2 : w.cell? p = some (.slice B k d)) (hl : RV w B k (l.map strV)) (hk : k ≤ 8) (hz : (textsB l).length ≤ 1000) (hv : Bs w v ys) (hy : ys.length ≤ 1000000) : Calls Try.prog 71 #[v, .pointer (some ⟨b, 0, none⟩)] w (LaysT w (ys ++ textsB l)) := by
  obtain ⟨A, c, rfl, hr, hn, hnc, hcm⟩ := hv.ex
  have C := Lib.hid ((Texts_any A ys.length c ys B k d l w hr hn hnc hl (by omega) (by omega)).mono fun e w' h => lays_of h)
  obtain ⟨R, hR⟩ : ∃ R, ys ++ textsB l = R := ⟨_, rfl⟩
  rw [hR] at C ⊢
  clear hl hz
  clear hr hn hnc hcm hv hR
  go_enter Try.func71, Try.ntmps71
  go_wp2_with (go_at_call 72; refine C.out.mono ?_; rintro e w1 ⟨v2, rfl, hv2, hb⟩; have HB := Lib.hid hb; have HV := Lib.hid hv2; clear hb hv2)
  go_ret
  exact ⟨_, rfl, HV.out, HB.out⟩
theorem flag_lay (z : Bool) (h1 : w.cell? ⟨b, 0, none⟩ = some (.pointer (some p))) (h2 : w.cell? p = some (.bool z))  (hv : Bs w v ys) (hy : ys.length ≤ 1000000) : Calls Try.prog 77 #[v, .pointer (some ⟨b, 0, none⟩)] w (LaysT w (ys ++ flagB z)) := by
  obtain ⟨A, c, rfl, hr, hn, hnc, hcm⟩ := hv.ex
  have C := Lib.hid ((Flag_any A ys.length c ys z w hr hn hnc (by omega)).mono fun e w' h => lays_of h)
  obtain ⟨R, hR⟩ : ∃ R, ys ++ flagB z = R := ⟨_, rfl⟩
  rw [hR] at C ⊢
  clear hr hn hnc hcm hv hR
  go_enter Try.func77, Try.ntmps77
  go_wp2_with (go_at_call 78; refine C.out.mono ?_; rintro e w1 ⟨v2, rfl, hv2, hb⟩; have HB := Lib.hid hb; have HV := Lib.hid hv2; clear hb hv2)
  go_ret
  exact ⟨_, rfl, HV.out, HB.out⟩
theorem idx_lay (z : Nat) (h1 : w.cell? ⟨b, 0, none⟩ = some (.pointer (some p))) (h2 : w.cell? p = some (u64V z)) (hz : z < 18446744073709551616) (hv : Bs w v ys) (hy : ys.length ≤ 1000000) : Calls Try.prog 83 #[v, .pointer (some ⟨b, 0, none⟩)] w (LaysT w (ys ++ numB z)) := by
  obtain ⟨A, c, rfl, hr, hn, hnc, hcm⟩ := hv.ex
  have C := Lib.hid ((Num_any A ys.length c ys z (by omega) w hr hn hnc (by omega)).mono fun e w' h => lays_of h)
  obtain ⟨R, hR⟩ : ∃ R, ys ++ numB z = R := ⟨_, rfl⟩
  rw [hR] at C ⊢
  clear hr hn hnc hcm hv hR
  unfold u64V at h2
  go_enter Try.func83, Try.ntmps83
  go_wp2_with (go_at_call 19; refine C.out.mono ?_; rintro e w1 ⟨v2, rfl, hv2, hb⟩; have HB := Lib.hid hb; have HV := Lib.hid hv2; clear hb hv2)
  go_ret
  exact ⟨_, rfl, HV.out, HB.out⟩
end
end Go.Proofs.Ytbhhalkpghcflaa
