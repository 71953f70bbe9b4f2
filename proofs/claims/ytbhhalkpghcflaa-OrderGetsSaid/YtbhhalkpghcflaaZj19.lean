/-
  How a field is laid by its access (layer 20).
-/
import Derived.Test.YtbhhalkpghcflaaZj14
import Derived.Test.YtbhhalkpghcflaaZj18
import Derived.Deep.WholeRow
namespace Go.Proofs.Ytbhhalkpghcflaa
open Go.RowKit
set_option linter.unusedSimpArgs false
set_option linter.unusedVariables false

/-- The slice of bytes that stands there. -/
structure Bs (w : World) (v : Value) (ys : List UInt8) : Prop where
  ex : ∃ A c, v = .slice A ys.length c ∧ RB w A ys.length ys ∧ (A = none → c = 0) ∧ ys.length ≤ c ∧ c ≤ maxLen
theorem Bs.below {w w' : World} {v : Value} {ys : List UInt8} (h : Bs w v ys) (hb : Below w.heap.size w w') : Bs w' v ys := by
  obtain ⟨A, c, h1, h2, h3⟩ := h.ex
  exact ⟨A, c, h1, h2.below hb, h3⟩
/-- A call that hands such a slice back. -/
def LaysT (w : World) (ys : List UInt8) (e : Ending) (w' : World) : Prop := ∃ v, e = .returned v ∧ Bs w' v ys ∧ Below w.heap.size w w'
theorem lays_of {w w' : World} {ys : List UInt8} {e : Ending} (h : BGives w ys e w') : LaysT w ys e w' := by
  obtain ⟨A, c, h1, h2, h3, h4, h5, h6⟩ := h
  exact ⟨_, h1, ⟨A, c, rfl, h2, h3, h4, h5⟩, h6⟩
section
variable {b : Nat} {p : Addr} {w : World} {v : Value} {ys : List UInt8}
theorem num_lay (z : Nat) (h1 : w.cell? ⟨b, 0, none⟩ = some (.pointer (some p))) (h2 : w.cell? p = some (.int .i64 (z : Int))) (hz : z ≤ 65535) (hv : Bs w v ys) (hy : ys.length ≤ 1000000) : Calls Try.prog 59 #[v, .pointer (some ⟨b, 0, none⟩)] w (LaysT w (ys ++ numB z)) := by
  obtain ⟨A, c, rfl, hr, hn, hnc, hcm⟩ := hv.ex
  have C := Lib.hid ((Num_any A ys.length c ys z (by omega) w hr hn hnc (by omega)).mono fun e w' h => lays_of h)
  obtain ⟨R, hR⟩ : ∃ R, ys ++ numB z = R := ⟨_, rfl⟩
  rw [hR] at C ⊢
  clear hr hn hnc hcm hv hR
  have e1 : IntKind.u64.wrap (z : Int) = (z : Int) := by unfold IntKind.wrap; simp [IntKind.signed, IntKind.bits]; omega
  have e2 : (0 : Int) ≤ (z : Int) := by omega
  go_enter Try.func59, Try.ntmps59
  go_wp2_with (go_at_call 19; refine C.out.mono ?_; rintro e w1 ⟨v2, rfl, hv2, hb⟩; have HB := Lib.hid hb; have HV := Lib.hid hv2; clear hb hv2)
  go_ret
  exact ⟨_, rfl, HV.out, HB.out⟩
theorem text_lay (s : List UInt8) (h1 : w.cell? ⟨b, 0, none⟩ = some (.pointer (some p))) (h2 : w.cell? p = some (strV s)) (hz : s.length ≤ 80) (hv : Bs w v ys) (hy : ys.length ≤ 1000000) : Calls Try.prog 64 #[v, .pointer (some ⟨b, 0, none⟩)] w (LaysT w (ys ++ textB s)) := by
  obtain ⟨A, c, rfl, hr, hn, hnc, hcm⟩ := hv.ex
  have C := Lib.hid ((Text_any A ys.length c ys s w hr hn hnc (by omega)).mono fun e w' h => lays_of h)
  obtain ⟨R, hR⟩ : ∃ R, ys ++ textB s = R := ⟨_, rfl⟩
  rw [hR] at C ⊢
  clear hr hn hnc hcm hv hR
  unfold strV at h2
  go_enter Try.func64, Try.ntmps64
  go_wp2_with (go_at_call 65; refine C.out.mono ?_; rintro e w1 ⟨v2, rfl, hv2, hb⟩; have HB := Lib.hid hb; have HV := Lib.hid hv2; clear hb hv2)
  go_ret
  exact ⟨_, rfl, HV.out, HB.out⟩
theorem texts_lay (B : Option Addr) (k d : Nat) (l : List (List UInt8)) (h1 : w.cell? ⟨b, 0, none⟩ = some (.pointer (some p))) (h2 : w.cell? p = some (.slice B k d)) (hl : RV w B k (l.map strV)) (hk : k ≤ 8) (hz : (textsB l).length ≤ 1000) (hv : Bs w v ys) (hy : ys.length ≤ 1000000) : Calls Try.prog 71 #[v, .pointer (some ⟨b, 0, none⟩)] w (LaysT w (ys ++ textsB l)) := by
  obtain ⟨A, c, rfl, hr, hn, hnc, hcm⟩ := hv.ex
  have C := Lib.hid ((Texts_any A ys.length c ys B k d l w hr hn hnc hl (by omega) (by omega)).mono fun e w' h => lays_of h)
  obtain ⟨R, hR⟩ : ∃ R, ys ++ textsB l = R := ⟨_, rfl⟩
  rw [hR] at C ⊢
  clear hl hz
  clear hr hn hnc hcm hv hR
  go_enter Try.func71, Try.ntmps71
  go_wp2_with (go_at_call 72; refine C.out.mono ?_; rintro e w1 ⟨v2, rfl, hv2, hb⟩; have HB := Lib.hid hb; have HV := Lib.hid hv2; clear hb hv2)
  go_ret
  exact ⟨_, rfl, HV.out, HB.out⟩
theorem flag_lay (z : Bool) (h1 : w.cell? ⟨b, 0, none⟩ = some (.pointer (some p))) (h2 : w.cell? p = some (.bool z))  (hv : Bs w v ys) (hy : ys.length ≤ 1000000) : Calls Try.prog 77 #[v, .pointer (some ⟨b, 0, none⟩)] w (LaysT w (ys ++ flagB z)) := by
  obtain ⟨A, c, rfl, hr, hn, hnc, hcm⟩ := hv.ex
  have C := Lib.hid ((Flag_any A ys.length c ys z w hr hn hnc (by omega)).mono fun e w' h => lays_of h)
  obtain ⟨R, hR⟩ : ∃ R, ys ++ flagB z = R := ⟨_, rfl⟩
  rw [hR] at C ⊢
  clear hr hn hnc hcm hv hR
  go_enter Try.func77, Try.ntmps77
  go_wp2_with (go_at_call 78; refine C.out.mono ?_; rintro e w1 ⟨v2, rfl, hv2, hb⟩; have HB := Lib.hid hb; have HV := Lib.hid hv2; clear hb hv2)
  go_ret
  exact ⟨_, rfl, HV.out, HB.out⟩
theorem idx_lay (z : Nat) (h1 : w.cell? ⟨b, 0, none⟩ = some (.pointer (some p))) (h2 : w.cell? p = some (u64V z)) (hz : z < 18446744073709551616) (hv : Bs w v ys) (hy : ys.length ≤ 1000000) : Calls Try.prog 83 #[v, .pointer (some ⟨b, 0, none⟩)] w (LaysT w (ys ++ numB z)) := by
  obtain ⟨A, c, rfl, hr, hn, hnc, hcm⟩ := hv.ex
  have C := Lib.hid ((Num_any A ys.length c ys z (by omega) w hr hn hnc (by omega)).mono fun e w' h => lays_of h)
  obtain ⟨R, hR⟩ : ∃ R, ys ++ numB z = R := ⟨_, rfl⟩
  rw [hR] at C ⊢
  clear hr hn hnc hcm hv hR
  unfold u64V at h2
  go_enter Try.func83, Try.ntmps83
  go_wp2_with (go_at_call 19; refine C.out.mono ?_; rintro e w1 ⟨v2, rfl, hv2, hb⟩; have HB := Lib.hid hb; have HV := Lib.hid hv2; clear hb hv2)
  go_ret
  exact ⟨_, rfl, HV.out, HB.out⟩
end
end Go.Proofs.Ytbhhalkpghcflaa
/-
  How the commands within one are laid (layer 20).
-/
namespace Go.Proofs.Ytbhhalkpghcflaa
open Go.RowKit
set_option linter.unusedSimpArgs false
set_option linter.unusedVariables false

def Fv.bytes : Fv → List UInt8
  | .num z => numB z.toNat
  | .text s => textB s
  | .texts l => textsB l
  | .flag b => flagB b
  | .idx n => numB n
/-- What is laid of a command up to a field; sB: its commands. -/
def preB (x : CmW) (tags : List (List UInt8)) (sB : List UInt8) : Nat → List UInt8
  | 0 => numB x.kind.toNat
  | k + 1 => preB x tags sB k ++ (if hasB x.kind.toNat k then (match (x.vals tags)[k]? with | some v => v.bytes | none => sB) else [])
def subB (y : Sub) : List UInt8 := preB y.1 y.2 [] 16
def subsB (l : List Sub) : List UInt8 := numB l.length ++ l.flatMap subB
def cmdB (x : CmW) (tags : List (List UInt8)) (subs : List Sub) : List UInt8 := preB x tags (subsB subs) 16
/-- A command that is laid within one. -/
def LaysS (w : World) (y : CmW) (r : List UInt8) : Prop := r.length ≤ 11000 ∧ ∀ w', Below w.heap.size w w' → ∀ v ys, Bs w' v ys → ys.length ≤ 800000 → Calls Try.prog 20 #[v, cmV y] w' (LaysT w' (ys ++ r))
theorem LaysS.below {w w' : World} {y : CmW} {r : List UInt8} (h : LaysS w y r) (hb : Below w.heap.size w w') : LaysS w' y r := ⟨h.1, fun w2 h2 => h.2 w2 (hb.trans (h2.mono hb.size))⟩
theorem cm_info : (Try.prog.info? TCm).map (·.size) = some 17 := by kernel_rfl
def subsTo (l : List Sub) (k : Nat) : List UInt8 := numB l.length ++ (l.take k).flatMap subB
theorem subsTo_succ {l : List Sub} {k : Nat} (h : k < l.length) : subsTo l (k + 1) = subsTo l k ++ subB l[k] := by
  unfold subsTo
  rw [List.take_succ_eq_append_getElem h, List.flatMap_append, List.append_assoc]
  simp
theorem subsTo_all {l : List Sub} {k : Nat} (h : l.length ≤ k) : subsTo l k = subsB l := by unfold subsTo subsB; rw [List.take_of_length_le h]
set_option maxHeartbeats 2000000 in
theorem subs_lay (b n c : Nat) (p : Addr) (A : Option Addr) (l : List Sub) (v : Value) (ys : List UInt8) (w : World) (h1 : w.cell? ⟨b, 0, none⟩ = some (.pointer (some p))) (h2 : w.cell? p = some (.slice A n c)) (hr : SK cmC 17 w A n (l.map (·.1))) (hn : n ≤ 8) (ha : ∀ y ∈ l, LaysS w y.1 (subB y)) (hv : Bs w v ys) (hy : ys.length ≤ 500000) :
    Calls Try.prog 89 #[v, .pointer (some ⟨b, 0, none⟩)] w (LaysT w (ys ++ subsB l)) := by
  have hl : l.length = n := by simpa using hr.1
  have hlen : ∀ k, k ≤ n → (subsTo l k).length ≤ 9 + 11000 * k := fun k hk => by
    induction k with
    | zero =>
      have : (numB l.length).length ≤ 9 := numB_le (n := l.length) (by omega)
      simpa [subsTo] using this
    | succ k ih =>
      have h3 := ih (by omega)
      have h4 := (ha l[k] (List.getElem_mem _)).1
      rw [subsTo_succ (by omega), List.length_append]
      omega
  obtain ⟨A0, c0, rfl, hr0, hn0, hnc0, hcm0⟩ := hv.ex
  have C := Lib.hid ((Num_any A0 ys.length c0 ys l.length (by omega) w hr0 hn0 hnc0 (by omega)).mono fun e w' h => lays_of h)
  rw [show ys ++ numB l.length = ys ++ subsTo l 0 by simp [subsTo], hl] at C
  have HR := Lib.hid hr
  have HL := Lib.hid hl
  have HA := Lib.hid ha
  have HLEN := Lib.hid hlen
  have HBP := Lib.hid (World.block_lt_of_cell? _ _ h1)
  have HBQ := Lib.hid (World.block_lt_of_cell? _ _ h2)
  obtain ⟨R, hR⟩ : ∃ R, ys ++ subsB l = R := ⟨_, rfl⟩
  have END := Lib.hid (show ys ++ subsTo l n = R by rw [← hR, subsTo_all (Nat.le_of_eq hl)])
  rw [hR]
  clear hr hl ha hlen hr0 hn0 hnc0 hcm0 hv hR
  have e1 : IntKind.u64.wrap (n : Int) = (n : Int) := by unfold IntKind.wrap; simp [IntKind.signed, IntKind.bits]; omega
  have e2 : (0 : Int) ≤ (n : Int) := by omega
  go_enter Try.func89, Try.ntmps89
  go_wp2_with (go_at_call 19; refine C.out.mono ?_; rintro e w1 ⟨v2, rfl, hv2, hb⟩; have HB := Lib.hid hb; have HV := Lib.hid hv2; have h3 : w1.cell? ⟨b, 0, none⟩ = some (.pointer (some p)) := (hb.cell HBP.out).trans h1; have h4 : w1.cell? p = some (.slice A n c) := (hb.cell HBQ.out).trans h2; clear hb hv2)
  clear C e1
  go_loopw [17, 0] (fun i v wr => ∃ k : Nat, k ≤ n ∧ i = .int .i64 k ∧ Bs wr v (ys ++ subsTo l k) ∧ Below w1.heap.size w1 wr) (fun i _ _ => n - (intOf i).toNat)
  case atStart => exact ⟨0, Nat.zero_le _, rfl, HV.out, Below.refl _ _⟩
  case round =>
    obtain ⟨k, hk, rfl, hU, hb⟩ := hrel
    have HU := Lib.hid hU
    have HBR := Lib.hid hb
    have HBW := Lib.hid (HB.out.trans (hb.mono HB.out.size))
    clear hU hb
    by_cases hlt : k < n
    · have lt2 : k < l.length := by rw [HL.out]; exact hlt
      obtain ⟨q, off, e, hpl, hit⟩ := (HR.out.below HBW.out).at_ hlt (by simpa using lt2)
      obtain ⟨y, hs⟩ : ∃ y, l[k]'lt2 = y := ⟨_, rfl⟩
      rw [List.getElem_map, hs] at hit
      have HIt := Lib.hid hit
      have HS := Lib.hid hs
      have hm : y ∈ l := by rw [← hs]; exact List.getElem_mem _
      have hb2 : Below wr.heap.size wr (wr.alloc (.cells (cmC y.1).toArray TCm)) := (Below.refl _ _).alloc (Nat.le_refl _) _
      have C2 := Lib.hid (((HA.out y hm).below HBW.out).2 _ hb2 _ (ys ++ subsTo l k) (HU.out.below hb2) (by have := HLEN.out k hk; rw [List.length_append]; omega))
      have HBx := Lib.hid (Bx.new wr y.1).item
      have e7 : ys ++ subsTo l k ++ subB y = ys ++ subsTo l (k + 1) := by rw [subsTo_succ lt2, hs, List.append_assoc]
      rw [e7] at C2
      subst e
      clear hs hm hit hpl hb2 e7
      unfold cmV cmC strV at C2
      go_wp2_with (first | (refine wpList_load_mid rfl TCm (.tmp 19) rfl q (off + k * 17) rfl (cmC y.1) _ HIt.out Try.underlying26 rfl (by kernel_rfl) ?_; unfold cmC strV) | (refine wpList_store_row rfl TCm (.tmp 5) (.tmp 20) rfl wr.heap.size #[.int .i64 y.1.kind, .int .i64 y.1.node, .int .i64 y.1.port, .int .i64 y.1.status, .string ⟨y.1.id.toArray⟩, .string ⟨y.1.name.toArray⟩, .string ⟨y.1.svc.toArray⟩, .string ⟨y.1.note.toArray⟩, .string ⟨y.1.key.toArray⟩, .string ⟨y.1.val.toArray⟩, .string ⟨y.1.src.toArray⟩, .string ⟨y.1.dst.toArray⟩, .slice y.1.tA y.1.tn y.1.tc, .bool y.1.allow, .int .u64 (y.1.old : Int), .int .u64 (y.1.ses : Int), .slice y.1.sA y.1.sn y.1.sc] rfl rfl TCm #[.int .i64 0, .int .i64 0, .int .i64 0, .int .i64 0, .string ⟨#[]⟩, .string ⟨#[]⟩, .string ⟨#[]⟩, .string ⟨#[]⟩, .string ⟨#[]⟩, .string ⟨#[]⟩, .string ⟨#[]⟩, .string ⟨#[]⟩, .slice none 0 0, .bool false, .int .u64 0, .int .u64 0, .slice none 0 0] (heap_alloc_new wr _) cm_info rfl rfl ?_; rw [World.setRow_alloc_new]) | (refine wpList_load_mid rfl TCm (.tmp 5) rfl wr.heap.size 0 rfl (cmC y.1) _ HBx.out Try.underlying26 rfl (by kernel_rfl) ?_; unfold cmC strV) | (go_at_call 20; refine C2.out.mono ?_; rintro e w3 ⟨v3, rfl, hv3, hb3⟩; have HB3 := Lib.hid hb3; have HV3 := Lib.hid hv3; clear hb3 hv3))
      go_roundw
      case rel => exact ⟨k + 1, by omega, by go_num, HV3.out, HBR.out.trans ((((Below.refl _ wr).alloc (Nat.le_refl _) _).trans (HB3.out.mono (by simp))).mono HBR.out.size)⟩
      case measure => simp [intOf]; omega
    · obtain rfl : k = n := by omega
      have HE := HU.out
      rw [END.out] at HE
      have HE2 := Lib.hid HE
      clear HE
      go_wp2
      go_ret
      exact ⟨_, rfl, HE2.out, HBW.out⟩
end Go.Proofs.Ytbhhalkpghcflaa
