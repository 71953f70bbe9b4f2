/-
  The best of those that apply, told one after another, in plain words (layer 17). Nothing of any program stands here.
-/
import Derived.Test.YtmegfkclpjddgaaZj5
import Derived.Test.YtmegfkclpjddgaaZj32
import Derived.Test.YtmegfkclpjddgaaZj17
import Derived.Test.YtmegfkclpjddgaaZj8
import Derived.Shelf.Abstract
import Derived.Shelf.RegionOpen
import Derived.OwnWalkIn
import Derived.TacticsInMore
import Derived.LoopNIn
import Derived.LoopIn
namespace Go.Proofs.Ytmegfkclpjddgaa
open Go Go.RowKit
set_option linter.unusedSimpArgs false
set_option linter.unusedVariables false

/-- Those of the first j that apply, with their places. -/
def tellI (l : List Ir) (s d : ByteArray) : Nat → List (Nat × Ir)
  | 0 => []
  | j + 1 => tellI l s d j ++ (match l[j]? with | some x => if x.app s d then [(j, x)] else [] | none => [])
theorem tell_yes {l : List Ir} {s d : ByteArray} {j : Nat} {x : Ir} (hx : l[j]? = some x) (ha : x.app s d = true) : tellI l s d (j + 1) = tellI l s d j ++ [(j, x)] := by
  rw [tellI, hx]
  simp [ha]
theorem tell_no {l : List Ir} {s d : ByteArray} {j : Nat} {x : Ir} (hx : l[j]? = some x) (ha : x.app s d = false) : tellI l s d (j + 1) = tellI l s d j := by
  rw [tellI, hx]
  simp [ha]
theorem tell_length (l : List Ir) (s d : ByteArray) : ∀ j, (tellI l s d j).length ≤ j
  | 0 => Nat.le_refl _
  | j + 1 => by
    have := tell_length l s d j
    rw [tellI]
    split
    · split <;> simp <;> omega
    · simp; omega
/-- What is chosen when one more is told. -/
def betI (o : Option (Nat × Ir)) (x : Nat × Ir) : Option (Nat × Ir) := match o with | none => some x | some y => if y.2.rank < x.2.rank then some x else some y
def bestI (pre : List (Nat × Ir)) : Option (Nat × Ir) := pre.foldl betI none
theorem best_snoc (pre : List (Nat × Ir)) (x : Nat × Ir) : bestI (pre ++ [x]) = betI (bestI pre) x := by
  unfold bestI
  rw [List.foldl_append]
  rfl
/-- The best of the first j. -/
def BestUp (l : List Ir) (s d : ByteArray) (j : Nat) : Option (Nat × Ir) → Prop
  | none => ∀ i, i < j → ∀ h : i < l.length, l[i].app s d = false
  | some (k, x) => k < j ∧ l[k]? = some x ∧ x.app s d = true ∧ (∀ i, i < j → ∀ h : i < l.length, l[i].app s d = true → l[i].rank ≤ x.rank) ∧ ∀ i, i < k → ∀ h : i < l.length, l[i].app s d = true → l[i].rank < x.rank
theorem best_up (l : List Ir) (s d : ByteArray) : ∀ j, j ≤ l.length → BestUp l s d j (bestI (tellI l s d j))
  | 0, _ => fun i hi => absurd hi (Nat.not_lt_zero i)
  | j + 1, hj => by
    have ih := best_up l s d j (by omega)
    have hjl : j < l.length := hj
    have hx : l[j]? = some l[j] := List.getElem?_eq_getElem hjl
    cases ha : l[j].app s d with
    | false =>
      rw [tell_no hx ha]
      cases hb : bestI (tellI l s d j) with
      | none =>
        rw [hb] at ih
        intro i hi h
        by_cases e : i < j
        · exact ih i e h
        · obtain rfl : i = j := by omega
          exact ha
      | some p =>
        obtain ⟨k, x⟩ := p
        rw [hb] at ih
        obtain ⟨h1, h2, h3, h4, h5⟩ := ih
        refine ⟨by omega, h2, h3, fun i hi h hia => ?_, h5⟩
        by_cases e : i < j
        · exact h4 i e h hia
        · obtain rfl : i = j := by omega
          rw [ha] at hia; cases hia
    | true =>
      rw [tell_yes hx ha, best_snoc]
      cases hb : bestI (tellI l s d j) with
      | none =>
        rw [hb] at ih
        refine ⟨by omega, hx, ha, fun i hi h hia => ?_, fun i hi h hia => ?_⟩
        · by_cases e : i < j
          · rw [ih i e h] at hia; cases hia
          · obtain rfl : i = j := by omega
            exact Nat.le_refl _
        · rw [ih i hi h] at hia; cases hia
      | some p =>
        obtain ⟨k, x⟩ := p
        rw [hb] at ih
        obtain ⟨h1, h2, h3, h4, h5⟩ := ih
        unfold betI
        simp only
        by_cases hr : x.rank < l[j].rank
        · rw [if_pos hr]
          refine ⟨by omega, hx, ha, fun i hi h hia => ?_, fun i hi h hia => ?_⟩
          · by_cases e : i < j
            · have := h4 i e h hia; omega
            · obtain rfl : i = j := by omega
              exact Nat.le_refl _
          · have := h4 i hi h hia; omega
        · rw [if_neg hr]
          refine ⟨by omega, h2, h3, fun i hi h hia => ?_, h5⟩
          by_cases e : i < j
          · exact h4 i e h hia
          · obtain rfl : i = j := by omega
            omega
theorem best_chosen (l : List Ir) (s d : ByteArray) : Chosen l s d ((bestI (tellI l s d l.length)).map (·.1)) := by
  have h := best_up l s d l.length (Nat.le_refl _)
  cases hb : bestI (tellI l s d l.length) with
  | none =>
    rw [hb] at h
    exact fun j hj => h j hj hj
  | some p =>
    obtain ⟨k, x⟩ := p
    rw [hb] at h
    obtain ⟨h1, h2, h3, h4, h5⟩ := h
    have hk : l[k] = x := by rw [List.getElem?_eq_getElem h1] at h2; exact Option.some.inj h2
    subst hk
    exact ⟨h1, h3, fun j hj ha => h4 j hj hj ha, fun j hj ha => h5 j hj (Nat.lt_trans hj h1) ha⟩
theorem best_at {l : List Ir} {s d : ByteArray} {j k : Nat} {x : Ir} (hj : j ≤ l.length) (h : bestI (tellI l s d j) = some (k, x)) : k < j ∧ l[k]? = some x := by
  have := best_up l s d j hj
  rw [h] at this
  exact ⟨this.1, this.2.1⟩
/-- What is said: the decision and the place. -/
def saidB (b : Bool) : Option (Nat × Ir) → Bool
  | none => b
  | some p => p.2.allow
def saidK : Option (Nat × Ir) → Int
  | none => -1
  | some p => (p.1 : Int)
end Go.Proofs.Ytmegfkclpjddgaa
/-
  applying: what an iterator yields of the intentions that apply, walked (layer 17).
-/
namespace Go.Proofs.Ytmegfkclpjddgaa
open Go.RowKit Go.Shelf Go.Rel
set_option linter.unusedSimpArgs false
set_option linter.unusedVariables false
attribute [local go_sem] Oper.semAt_some

/-- What is told of one. -/
def apEncs (p : Nat × Ir) : Array Value := #[.int .i64 (p.1 : Int), irV p.2]
/-- One comes next. -/
def nextA (l : List Ir) (s d : ByteArray) (pre : List (Nat × Ir)) (p : Nat × Ir) (_ : World) : Prop := pre = tellI l s d p.1 ∧ l[p.1]? = some p.2 ∧ p.2.app s d = true
theorem SK.kpI {D : Nat → Prop} {W W' : World} {A : Option Addr} {l : List Ir} (h : SK irC 5 W A l.length l) (hD : ∀ k, RowsB A l.length k → ¬ D k) (hk : KpD D W W') : SK irC 5 W' A l.length l :=
  ⟨h.1, fun hn => by
    obtain ⟨b, off, e, hlt, hc⟩ := h.2 hn
    obtain ⟨o, ho, hoc⟩ := cells_of_cell (hc 0 hn 0 _ rfl)
    have h1 := hk.2 b o (hD b ⟨off, e, hn⟩) ho hoc
    exact ⟨b, off, e, Nat.lt_of_lt_of_le hlt hk.1, fun j hj => (hc j hj).of_block (h1.trans ho.symm)⟩⟩
theorem applying_any (A : Option Addr) (n c : Nat) (s d : ByteArray) (w : World) : Calls Try.prog 46 #[.slice A n c, .string s, .string d] w fun e w' => e = .returned (.func (.func 70) #[] #[.pointer (some ⟨w.heap.size, 0, none⟩), .pointer (some ⟨w.heap.size + 1, 0, none⟩), .pointer (some ⟨w.heap.size + 2, 0, none⟩)]) ∧ w' = ((w.alloc (.cells #[.slice A n c] 32)).alloc (.cells #[.string s] 9)).alloc (.cells #[.string d] 9) := by
  go_enter Try.func46, Try.ntmps46
  go_wp2
  go_ret
  exact ⟨rfl, rfl⟩
set_option maxHeartbeats 4000000 in
set_option maxRecDepth 100000 in
theorem apply_tells (D : Nat → Prop) (k : Nat) (hk : 1 ≤ k) (Y c : Nat) (A : Option Addr) (l : List Ir) (s d : ByteArray) (w : World) (hl : l.length ≤ maxLen) (hs : s.size ≤ maxLen) (hd : d.size ≤ maxLen) (hD : ∀ k, RowsB A l.length k → ¬ D k) (hD1 : ¬ D (Y + 1)) (hD2 : ¬ D (Y + 2))
    (h0 : w.heap[Y]? = some (.cells #[.slice A l.length c] 32 (0, 0))) (h1 : w.heap[Y + 1]? = some (.cells #[.string s] 9 (0, 0))) (h2 : w.heap[Y + 2]? = some (.cells #[.string d] 9 (0, 0))) (hR : SK irC 5 w A l.length l) :
    SeqP Fence.wide k Try.prog 70 #[.pointer (some ⟨Y, 0, none⟩), .pointer (some ⟨Y + 1, 0, none⟩), .pointer (some ⟨Y + 2, 0, none⟩)] apEncs (nextA l s d) (KpD D) (fun xs => xs = tellI l s d l.length) (fun pre => ∃ j, pre = tellI l s d j) l.length w := fun lp J Jx W hW hJ hJx hY h00 => by
  have cb := cellsN ((hW.block _ (block_lt h0)).trans h0) 0 _ rfl
  have HK1 := Lib.hid ((hW.block _ (block_lt h1)).trans h1)
  have HK2 := Lib.hid ((hW.block _ (block_lt h2)).trans h2)
  have HR := Lib.hid (hR.below hW)
  have HDD := Lib.hid hD
  have HD1 := Lib.hid hD1
  have HD2 := Lib.hid hD2
  have HY := Lib.hid hY
  have HJ := Lib.hid hJ
  have HH0 := Lib.hid h00
  have HMs := Lib.hid (fun (p : ByteArray) (W : World) => match_any p s W hs)
  have HMd := Lib.hid (fun (p : ByteArray) (W : World) => match_any p d W hd)
  obtain ⟨L, hL⟩ : ∃ L, l.length = L := ⟨_, rfl⟩
  rw [hL] at cb hl
  unfold maxLen at hl
  have hl2 : (L : Int) ≤ 9223372036854775807 := by omega
  have HL := Lib.hid hL
  clear h0 h1 h2 hR hD hD1 hD2 hW hJ hJx hY h00 hL hs hd hl
  refine callsIn_of_wp Try.func70 rfl trivial ?_ rfl
  simp only [Try.ntmps70, List.size_toArray, List.length_cons, List.length_nil, Nat.reduceAdd, Nat.reduceSub, Array.replicate_succ, Array.replicate_zero, List.push_toArray, List.append_toArray, List.nil_append, List.cons_append]
  gi_wp2
  clear cb
  gi_loopw [9] (fun s9 wr => ∃ j : Nat, j ≤ L ∧ s9 = .int .i64 (j : Int) ∧ Hid (J (tellI l s d j) wr) ∧ Hid (KpD D W wr)) (fun s9 _ => L - (intOf s9).toNat)
  case atStart => exact ⟨0, Nat.zero_le _, rfl, HH0, Lib.hid ⟨Nat.le_refl _, fun _ _ _ h _ => h⟩⟩
  case round =>
    obtain ⟨j, hj, rfl, hJs, hkp⟩ := hrel
    by_cases hlt : j < L
    · have hjl : j < l.length := by rw [HL.out]; exact hlt
      have hr := HR.out.kpI HDD.out hkp.out
      obtain ⟨b, off, rfl, hbl, hit⟩ := hr.at_ hjl hjl
      obtain ⟨x, hx⟩ : ∃ x, l[j] = x := ⟨_, rfl⟩
      have hx? : l[j]? = some x := by rw [List.getElem?_eq_getElem hjl, hx]
      rw [hx] at hit
      obtain ⟨e0, e1, e2, e3, e4⟩ := ir_cells hit
      have hb3 := below1 wr #[.string x.src, .string x.dst, .bool x.allow, .int .u64 (x.made : Int), .int .u64 (x.ix : Int)] TIn
      have hn := heap_alloc_new wr (.cells #[.string x.src, .string x.dst, .bool x.allow, .int .u64 (x.made : Int), .int .u64 (x.ix : Int)] TIn)
      obtain ⟨W3, hW3⟩ : ∃ W3, wr.alloc (.cells #[.string x.src, .string x.dst, .bool x.allow, .int .u64 (x.made : Int), .int .u64 (x.ix : Int)] TIn) = W3 := ⟨_, rfl⟩
      have hJ3 : J (tellI l s d j) W3 := by rw [← hW3]; exact HJ.out.alloc _ hJs.out
      rw [hW3] at hb3 hn
      obtain ⟨d0, d1, d2, d3, d4⟩ := ir_blk hn
      have hK3 : KpD D W W3 := kpD_t hkp.out (kpD_of hb3)
      have g1 : W3.cell? ⟨Y + 1, 0, none⟩ = some (.string s) := cellsN (hK3.2 _ _ HD1.out HK1.out rfl) 0 _ rfl
      have g2 : W3.cell? ⟨Y + 2, 0, none⟩ = some (.string d) := cellsN (hK3.2 _ _ HD2.out HK2.out rfl) 0 _ rfl
      have HK3 := Lib.hid hK3
      have HM1 := Lib.hid (HMs.out x.src W3)
      have HM2 := Lib.hid (HMd.out x.dst W3)
      obtain ⟨m1, hm1⟩ : ∃ m1, matchB x.src.data.toList s.data.toList = m1 := ⟨_, rfl⟩
      obtain ⟨m2, hm2⟩ : ∃ m2, matchB x.dst.data.toList d.data.toList = m2 := ⟨_, rfl⟩
      have happ : x.app s d = (m1 && m2) := by unfold Ir.app; rw [hm1, hm2]
      rw [hm1] at HM1
      rw [hm2] at HM2
      have HNo : Hid ((m1 && m2) = false → J (tellI l s d (j + 1)) W3) := Lib.hid fun z => by
        rw [tell_no hx? (happ.trans z)]
        exact hJ3
      have HYd := Lib.hid (fun (z : (m1 && m2) = true) => HY.out (tellI l s d j) (j, x) W3 hJ3 ⟨rfl, hx?, happ.trans z⟩ (by have := tell_length l s d j; omega))
      have HSt := Lib.hid (fun (z : (m1 && m2) = true) => tell_yes hx? (happ.trans z))
      clear hb3 hn hJ3 hit hx hr hx? hm1 hm2 happ hK3
      cases m1 with
      | false =>
        have HJ4 := Lib.hid (HNo.out rfl)
        clear HNo HYd HSt
        gi_wp2_with fail
        refine ⟨trivial, (callsIn_wide.2 HM1.out).mono ?_⟩
        rintro e w' ⟨rfl, rfl⟩
        gi_wp2
        refine ⟨trivial, ?_⟩
        gi_wp2
        refine ⟨(fun _ h => by cases h), ?_⟩
        gi_wp2
        go_roundw
        case rel => exact ⟨j + 1, by omega, by go_num, HJ4, HK3⟩
        case measure => simp [intOf]; omega
      | true =>
        cases m2 with
        | false =>
          have HJ4 := Lib.hid (HNo.out rfl)
          clear HNo HYd HSt
          gi_wp2_with fail
          refine ⟨trivial, (callsIn_wide.2 HM1.out).mono ?_⟩
          rintro e w' ⟨rfl, rfl⟩
          gi_wp2_with fail
          refine ⟨trivial, (callsIn_wide.2 HM2.out).mono ?_⟩
          rintro e w' ⟨rfl, rfl⟩
          gi_wp2
          refine ⟨(fun _ h => by cases h), ?_⟩
          gi_wp2
          go_roundw
          case rel => exact ⟨j + 1, by omega, by go_num, HJ4, HK3⟩
          case measure => simp [intOf]; omega
        | true =>
          obtain ⟨fn, tmps, assign, body, hy, hRd⟩ := HYd.out rfl
          simp only [apEncs, irV] at hy
          have HRd := Lib.hid hRd
          have hst := HSt.out rfl
          have HStt := Lib.hid hst
          clear HNo HYd HSt hRd hst
          gi_wp2_with fail
          refine ⟨trivial, (callsIn_wide.2 HM1.out).mono ?_⟩
          rintro e w' ⟨rfl, rfl⟩
          gi_wp2_with fail
          refine ⟨trivial, (callsIn_wide.2 HM2.out).mono ?_⟩
          rintro e w' ⟨rfl, rfl⟩
          gi_wp2
          refine HRd.out.mono ?_
          rintro e W4 ⟨hkf, (⟨rfl, hJ4, hk4⟩ | ⟨rfl, hJx4⟩)⟩
          · rw [← HStt.out] at hJ4
            have HJ4 := Lib.hid hJ4
            have HK4 : Hid (KpD D W W4) := Lib.hid (kpD_t HK3.out hk4)
            clear hJ4 hk4 hy hkf d0 d1 d2 d3 d4 hW3
            gi_wp2
            go_roundw
            case rel => exact ⟨j + 1, by omega, by go_num, HJ4, HK4⟩
            case measure => simp [intOf]; omega
          · have HJx4 := Lib.hid hJx4
            clear hJx4 hy hkf d0 d1 d2 d3 d4 hW3
            gi_wp2
            refine bodyPost_ret (results_none rfl _ _ _) rfl ?_
            exact ⟨⟨_, rfl⟩, .inr ⟨tellI l s d j ++ [(j, x)], ⟨j + 1, HStt.out.symm⟩, HJx4.out⟩⟩
    · obtain rfl : j = l.length := by rw [HL.out]; omega
      gi_wp2
      refine bodyPost_end (results_none rfl _ _ _) rfl ?_
      exact ⟨⟨_, rfl⟩, .inl ⟨tellI l s d l.length, rfl, hJs.out⟩⟩
end Go.Proofs.Ytmegfkclpjddgaa
