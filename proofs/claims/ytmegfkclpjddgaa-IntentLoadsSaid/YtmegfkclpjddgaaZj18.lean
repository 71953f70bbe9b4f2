/-
  The document's Rank, Choose, walked (layer 17).
-/
import Derived.Test.YtmegfkclpjddgaaZj11
import Derived.Test.YtmegfkclpjddgaaZj17
namespace Go.Proofs.Ytmegfkclpjddgaa
open Go.RowKit
set_option linter.unusedSimpArgs false
set_option linter.unusedVariables false

theorem rrank_any (x : Ir) (w : World) : Calls Try.prog 22 #[irV x] w fun e w' => e = .returned (.int .i64 (x.rank : Int)) ∧ Below w.heap.size w w' := by
  unfold irV Ir.rank rankI starB
  cases h1 : (x.dst.toList == [42]) <;> cases h2 : (x.src.toList == [42])
  all_goals
    go_enter Try.func22, Try.ntmps22
    go_wp2
    go_ret
    exact ⟨rfl, below1 _ _ _⟩
/-- What is known when the places below k have been looked at for rank r, all for greater ones. -/
def Sought (l : List Ir) (s d : ByteArray) (r : Int) (k : Nat) : Prop := ∀ j, ∀ h : j < l.length, l[j].app s d = true → (l[j].rank : Int) ≤ r ∧ (j < k → (l[j].rank : Int) < r)
theorem Sought.start (l : List Ir) (s d : ByteArray) : Sought l s d 3 0 := fun j h _ => ⟨by have := rank_le l[j]; omega, fun z => by omega⟩
theorem Sought.next {l : List Ir} {s d : ByteArray} {r : Int} {k : Nat} (h : Sought l s d r k) (hk : k < l.length) (hn : l[k].app s d = true → (l[k].rank : Int) ≠ r) : Sought l s d r (k + 1) := fun j hj ha => by
  have h1 := h j hj ha
  refine ⟨h1.1, fun z => ?_⟩
  by_cases hjk : j < k
  · exact h1.2 hjk
  · obtain rfl : j = k := by omega
    have := hn ha
    omega
theorem Sought.down {l : List Ir} {s d : ByteArray} {r : Int} (h : Sought l s d r l.length) : Sought l s d (r - 1) 0 := fun j hj ha => by
  have h1 := (h j hj ha).2 hj
  exact ⟨by omega, fun z => by omega⟩
theorem Sought.yes {l : List Ir} {s d : ByteArray} {r : Int} {k : Nat} (h : Sought l s d r k) (hk : k < l.length) (ha : l[k].app s d = true) (hr : (l[k].rank : Int) = r) : Chosen l s d (some k) :=
  ⟨hk, ha, fun j hj hja => by have := (h j hj hja).1; omega, fun j hj hja => by have := (h j (by omega) hja).2 hj; omega⟩
theorem Sought.none {l : List Ir} {s d : ByteArray} (h : Sought l s d (-1) 0) : Chosen l s d none := fun j hj => by
  cases ha : l[j].app s d with
  | false => rfl
  | true => have := (h j hj ha).1; omega
/-- What Choose tells. -/
def ChPost (w : World) (l : List Ir) (s d : ByteArray) (def_ : Bool) (e : Ending) (w' : World) : Prop :=
  ∃ o, Chosen l s d o ∧ e = .returned (.tuple #[.bool (match o with | none => def_ | some k => (l.map (·.allow)).getD k false), .int .i64 (match o with | none => -1 | some k => (k : Int))]) ∧ Below w.heap.size w w'
theorem ChPost.no {w w' : World} {l : List Ir} {s d : ByteArray} {b : Bool} (h : Chosen l s d none) (hb : Below w.heap.size w w') : ChPost w l s d b (.returned (.tuple #[.bool b, .int .i64 (-1)])) w' := ⟨none, h, rfl, hb⟩
theorem ChPost.yes {w w' : World} {l : List Ir} {s d : ByteArray} {b : Bool} {k : Nat} {x : Ir} (h : Chosen l s d (some k)) (hx : l[k]? = some x) (hb : Below w.heap.size w w') : ChPost w l s d b (.returned (.tuple #[.bool x.allow, .int .i64 (k : Int)])) w' :=
  ⟨some k, h, by simp [List.getD, hx], hb⟩
set_option maxHeartbeats 4000000 in
theorem rchoose_any (A : Option Addr) (n c : Nat) (l : List Ir) (s d : ByteArray) (b : Bool) (w : World) (hS : SK irC 5 w A n l) (hn : n ≤ maxLen) (hs : s.size ≤ maxLen) (hd : d.size ≤ maxLen) :
    Calls Try.prog 20 #[.slice A n c, .string s, .string d, .bool b] w (ChPost w l s d b) := by
  unfold maxLen at hn
  have hn' : (n : Int) ≤ 9223372036854775807 := by omega
  have HMs := Lib.hid (fun (p : ByteArray) (W : World) => rmatch_any p s W hs)
  have HMd := Lib.hid (fun (p : ByteArray) (W : World) => rmatch_any p d W hd)
  have HS := Lib.hid hS
  have HL := Lib.hid hS.1
  clear hS hs hd
  go_enter Try.func20, Try.ntmps20
  go_wp2
  go_loopw [10, 11] (fun rv _ wr => ∃ r : Int, -1 ≤ r ∧ r ≤ 3 ∧ rv = .int .i64 r ∧ Hid (Sought l s d r 0) ∧ Hid (Below w.heap.size w wr)) (fun rv _ _ => (intOf rv + 1).toNat)
  case atStart => exact ⟨3, by omega, by omega, rfl, Lib.hid (Sought.start l s d), Lib.hid (Below.refl _ _)⟩
  case round =>
    obtain ⟨r, hr1, hr2, rfl, hsg, hb⟩ := hrel
    obtain ⟨wo, rfl⟩ : ∃ wo : World, wo = wr := ⟨_, rfl⟩
    by_cases hr0 : 0 ≤ r
    · go_wp2
      go_loopw [11] (fun kv wr => ∃ k : Nat, k ≤ n ∧ kv = .int .i64 (k : Int) ∧ Hid (Sought l s d r k) ∧ Hid (Below w.heap.size w wr)) (fun kv _ => n - (intOf kv).toNat)
      case atStart => exact ⟨0, Nat.zero_le _, rfl, hsg, hb⟩
      case round =>
        obtain ⟨k, hk, rfl, hsk, hbk⟩ := hrel
        by_cases hlt : k < n
        · have hkl : k < l.length := by rw [HL.out]; exact hlt
          obtain ⟨bb, off, rfl, hbl, hit⟩ := (HS.out.below hbk.out).at_ hlt hkl
          obtain ⟨x, hx⟩ : ∃ x, l[k] = x := ⟨_, rfl⟩
          have hx? : l[k]? = some x := by rw [List.getElem?_eq_getElem hkl, hx]
          rw [hx] at hit
          obtain ⟨e0, e1, e2, e3, e4⟩ := ir_cells hit
          have HRk := Lib.hid (fun W => rrank_any x W)
          have HX := Lib.hid hx?
          have HKn := Lib.hid (fun (h : x.app s d = true → (x.rank : Int) ≠ r) => hsk.out.next hkl (by rw [hx]; exact h))
          have HKy := Lib.hid (fun (h1 : x.app s d = true) (h2 : (x.rank : Int) = r) => hsk.out.yes hkl (by rw [hx]; exact h1) (by rw [hx]; exact h2))
          unfold irV at HRk
          clear hit hx hx? hkl hsk
          by_cases hrr : (x.rank : Int) = r
          · have zr : ((x.rank : Int) == r) = true := by rw [beq_iff_eq]; exact hrr
            have HR := Lib.hid hrr
            clear hrr
            go_wp2_with fail
            refine (HRk.out wr).mono ?_
            rintro e w2 ⟨rfl, hb2⟩
            have hbk2 : Hid (Below w.heap.size w w2) := Lib.hid (hbk.out.trans (hb2.mono hbk.out.size))
            have f0 := (hb2.cell (p := ⟨bb, off + k * 5, none⟩) hbl).trans e0
            have f1 := (hb2.cell (p := ⟨bb, off + k * 5 + 1, none⟩) hbl).trans e1
            have f2 := (hb2.cell (p := ⟨bb, off + k * 5 + 2, none⟩) hbl).trans e2
            clear hb2 e0 e1 e2 e3 e4
            cases hm1 : matchB x.src.data.toList s.data.toList with
            | false =>
              have HM1 := Lib.hid (HMs.out x.src)
              rw [hm1] at HM1
              have HN := Lib.hid (HKn.out (fun z => by unfold Ir.app at z; rw [hm1] at z; cases z))
              clear hm1 HKn HKy
              go_wp2_with fail
              refine (HM1.out w2).mono ?_
              rintro e w3 ⟨rfl, rfl⟩
              go_wp2
              go_roundw
              case rel => exact ⟨k + 1, by omega, by go_num, HN, hbk2⟩
              case measure => simp [intOf]; omega
            | true =>
              have HM1 := Lib.hid (HMs.out x.src)
              rw [hm1] at HM1
              go_wp2_with fail
              refine (HM1.out w2).mono ?_
              rintro e w3 ⟨rfl, rfl⟩
              cases hm2 : matchB x.dst.data.toList d.data.toList with
              | false =>
                have HM2 := Lib.hid (HMd.out x.dst)
                rw [hm2] at HM2
                have HN := Lib.hid (HKn.out (fun z => by unfold Ir.app at z; rw [hm2, Bool.and_false] at z; cases z))
                clear hm1 hm2 HKn HKy
                go_wp2_with fail
                refine (HM2.out w2).mono ?_
                rintro e w4 ⟨rfl, rfl⟩
                go_wp2
                go_roundw
                case rel => exact ⟨k + 1, by omega, by go_num, HN, hbk2⟩
                case measure => simp [intOf]; omega
              | true =>
                have HM2 := Lib.hid (HMd.out x.dst)
                rw [hm2] at HM2
                have HY := Lib.hid (HKy.out (by unfold Ir.app; rw [hm1, hm2]; rfl) HR.out)
                clear hm1 hm2 HKn HKy
                go_wp2_with fail
                refine (HM2.out w2).mono ?_
                rintro e w4 ⟨rfl, rfl⟩
                go_wp2
                go_ret2
                exact .yes HY.out HX.out hbk2.out
          · have zr : ((x.rank : Int) == r) = false := by rw [beq_eq_false_iff_ne]; exact hrr
            have HN := Lib.hid (HKn.out (fun _ => hrr))
            clear hrr HKn HKy
            go_wp2_with fail
            refine (HRk.out wr).mono ?_
            rintro e w2 ⟨rfl, hb2⟩
            have hbk2 : Hid (Below w.heap.size w w2) := Lib.hid (hbk.out.trans (hb2.mono hbk.out.size))
            clear hb2 e0 e1 e2 e3 e4
            go_wp2
            go_roundw
            case rel => exact ⟨k + 1, by omega, by go_num, HN, hbk2⟩
            case measure => simp [intOf]; omega
        · have HD : Hid (Sought l s d (r - 1) 0) := Lib.hid (by
            have h := hsk.out
            obtain rfl : k = l.length := by rw [HL.out]; omega
            exact h.down)
          clear hsk
          go_wp2
          go_roundw
          case rel => exact ⟨r - 1, by omega, by omega, by go_num, HD, hbk⟩
          case measure => simp [intOf]; omega
    · have HC := Lib.hid (by
        have h := hsg.out
        obtain rfl : r = -1 := by omega
        exact h.none : Chosen l s d none)
      go_wp2
      go_ret2
      exact .no HC.out hb.out
end Go.Proofs.Ytmegfkclpjddgaa
