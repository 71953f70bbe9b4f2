/-
  The walks of the document's plain Without, With and Sorted (layer 1).
-/
import Derived.Test.YtcnfjimncifbgaaDoorWalkK
namespace Go.Proofs.YtcnfjimncifbgaaDoor
open Go.RowKit Go.ChangeShapes Go.WideShapes Go.ChangeAt
set_option linter.unusedSimpArgs false

/-! ### Without -/
set_option maxHeartbeats 1000000 in
theorem rwithout_any (A : Option Addr) (n c : Nat) (xs : List ByteArray) (s : ByteArray) (w : World) (h : RS w A n xs) (hn : n ≤ 1000) :
    Calls Tryd.prog 28 #[.slice A n c, .string s] w fun e w' => Gives w (withoutB xs s) e w' := by
  obtain ⟨i0, hi, hz0, hz1, hz2⟩ := info_parts str_info
  have hl := h.1
  go_enter Tryd.func28, Tryd.ntmps28
  go_wp2
  go_loopw [5, 6] (fun v i wr => ∃ k : Nat, k ≤ n ∧ i = .int .i64 k ∧ Keeps w (fun x => x.toList != s.toList) xs k v wr) (fun _ i _ => n - (intOf i).toNat)
  case atStart => exact ⟨0, Nat.zero_le _, rfl, Keeps.start _ _ _⟩
  case round =>
    obtain ⟨k, hk, rfl, hh⟩ := hrel
    by_cases hlt : k < n
    · have q : k < xs.length := by omega
      obtain ⟨b, off, rfl, hb1, hc⟩ := (h.below hh.2).2 (by omega)
      have hcell := hc k q
      cases hf : (xs[k].toList != s.toList) with
      | false =>
        have HS := Lib.hid (hh.miss q hf)
        have t1 : (xs[k].toList == s.toList) = true := by rw [bne, Bool.not_eq_false'] at hf; exact hf
        clear hc hh h
        go_wp2
        go_roundw
        case rel => exact ⟨k + 1, by omega, by go_num, HS.out⟩
        case measure => simp [intOf]; omega
      | true =>
        have hown := hh.1
        have HH := Lib.hid hh
        have HF := Lib.hid hf
        have t1 : (xs[k].toList == s.toList) = false := by rw [bne, Bool.not_eq_true'] at hf; exact hf
        have HK := Kept.le (fun x => x.toList != s.toList) xs k
        have HZ := hh.2.size
        clear hc hh h
        go_wp2_with (at_builtin; refine wpList_append_own _ rfl _ _ 25 rfl w.heap.size 9 i0 (.string ⟨#[]⟩) 1 16 Tryd.underlying25 hi hz0 hz1 hz2 rfl (by decide) _ _ _ rfl (hown.alloc _) ⟨_, 0, none⟩ 1 1 [.string xs[k]] rfl rfl ?c1 ?c2 ?c3 ?c4 ?c5 ?_)
        case c1 =>
          intro j u hj
          match j, hj with
          | 0, hj => simp at hj; subst hj; simp [Addr.add]
        case c2 => intro u hu; simp at hu; subst hu; rfl
        case c3 => unfold maxLen; omega
        case c4 => omega
        case c5 => simp; omega
        · intro v' w1 hown' hgrow _
          have R := Lib.hid (HH.out.hit q HF.out hown' hgrow)
          clear hown' hgrow hown
          go_wp2
          go_roundw
          case rel => exact ⟨k + 1, by omega, by go_num, R.out⟩
          case measure => simp [intOf]; omega
    · obtain rfl : k = n := by omega
      obtain ⟨A1, d1, hv, hR⟩ := (hh.own' h.size_le).gives
      clear hh h
      simp only [Ending.returned.injEq] at hv
      subst hv
      go_wp2
      go_ret
      exact ⟨A1, d1, rfl, hR⟩



/-! ### With -/
theorem drop_get {l : List ByteArray} {k : Nat} (hk : k < l.length) : l.drop k = l[k] :: l.drop (k + 1) := List.drop_eq_getElem_cons hk
theorem rWith_laid (s x : ByteArray) (r : List ByteArray) : rWith s true (x :: r) = x :: rWith s true r := by rw [rWith, if_neg (by simp), Bool.true_or]
theorem rWith_here (s x : ByteArray) (r : List ByteArray) (h : (x.toList == s.toList) = true) : rWith s false (x :: r) = x :: rWith s true r := by rw [rWith, h, if_neg (by simp), Bool.or_true]
theorem rWith_gap (s x : ByteArray) (r : List ByteArray) (h : (x.toList == s.toList) = false) (hl : ltS s x = true) : rWith s false (x :: r) = s :: x :: rWith s true r := by rw [rWith, h, if_pos (by simp [hl])]
theorem rWith_low (s x : ByteArray) (r : List ByteArray) (h : (x.toList == s.toList) = false) (hl : ltS s x = false) : rWith s false (x :: r) = x :: rWith s false r := by rw [rWith, h, if_neg (by simp [hl]), Bool.or_false]

set_option maxHeartbeats 2000000 in
theorem rwith_any (A : Option Addr) (n c : Nat) (xs : List ByteArray) (s : ByteArray) (w : World) (h : RS w A n xs) (hn : n ≤ 1000) :
    Calls Tryd.prog 26 #[.slice A n c, .string s] w fun e w' => Gives w (rWith s false xs) e w' := by
  obtain ⟨i0, hi, hz0, hz1, hz2⟩ := info_parts str_info
  have hl := h.1
  go_enter Tryd.func26, Tryd.ntmps26
  go_wp2
  go_loopw [5, 6, 7] (fun v lb i wr => ∃ (k : Nat) (laid : Bool) (P : List ByteArray), k ≤ n ∧ i = .int .i64 k ∧ lb = .bool laid ∧ Own w w.heap.size v P wr ∧ P ++ rWith s laid (xs.drop k) = rWith s false xs ∧ P.length ≤ 2 * k) (fun _ _ i _ => n - (intOf i).toNat)
  case atStart => exact ⟨0, false, [], Nat.zero_le _, rfl, rfl, ⟨World.ownsRow_nil _ _ _ _, Below.refl _ _, Nat.le_refl _⟩, by simp, by simp⟩
  case round =>
    obtain ⟨k, laid, P, hk, rfl, rfl, ho, heq, hPl⟩ := hrel
    have HO := Lib.hid ho
    have HE := Lib.hid heq
    have hszw := ho.2.1.size
    by_cases hlt : k < n
    · have q : k < xs.length := by omega
      obtain ⟨b, off, rfl, hbw, hc0⟩ := h.2 (by omega)
      have hcell := (ho.2.1.cell (p := ⟨b, off + k, none⟩) hbw).trans (hc0 k q)
      clear ho heq hc0
      cases laid with
      | true =>
        cases t1 : (xs[k].toList == s.toList) with
        | true =>
          have HE2 : Hid ((P ++ [xs[k]]) ++ rWith s true (xs.drop (k + 1)) = rWith s false xs) := Lib.hid (by rw [← HE.out, drop_get q, rWith_laid s xs[k] _]; simp)
          clear h HE
          go_wp2_with (at_builtin; refine wpList_append_own _ rfl (.tmp 34) (.tmp 39) 25 rfl w.heap.size 9 i0 (.string ⟨#[]⟩) 1 16 Tryd.underlying25 hi hz0 hz1 hz2 rfl (by decide) u5 (P).length ((P).map Value.string) rfl (HO.out.1.alloc _) ⟨_, 0, none⟩ 1 1 [.string xs[k]] rfl rfl ?c1 ?c2 ?c3 ?c4 ?c5 ?_)
          case c1 =>
            intro j u hj
            match j, hj with
            | 0, hj => simp at hj; subst hj; simp [Addr.add]
          case c2 => intro u hu; simp at hu; subst hu; rfl
          case c3 => unfold maxLen; omega
          case c4 => omega
          case c5 => have := HO.out.2.1.size; simp; omega
          intro v2 w2 hown2 hg2 _
          have HO2 := Lib.hid (own_one HO.out hown2 hg2)
          clear hown2 hg2
          go_wp2
          go_roundw
          case rel => exact ⟨k + 1, true, P ++ [xs[k]], by omega, by go_num, rfl, HO2.out, HE2.out, by simp; omega⟩
          case measure => simp [intOf]; omega
        | false =>
          have HE2 : Hid ((P ++ [xs[k]]) ++ rWith s true (xs.drop (k + 1)) = rWith s false xs) := Lib.hid (by rw [← HE.out, drop_get q, rWith_laid s xs[k] _]; simp)
          clear h HE
          go_wp2_with (at_builtin; refine wpList_append_own _ rfl (.tmp 34) (.tmp 39) 25 rfl w.heap.size 9 i0 (.string ⟨#[]⟩) 1 16 Tryd.underlying25 hi hz0 hz1 hz2 rfl (by decide) u5 (P).length ((P).map Value.string) rfl (HO.out.1.alloc _) ⟨_, 0, none⟩ 1 1 [.string xs[k]] rfl rfl ?c1 ?c2 ?c3 ?c4 ?c5 ?_)
          case c1 =>
            intro j u hj
            match j, hj with
            | 0, hj => simp at hj; subst hj; simp [Addr.add]
          case c2 => intro u hu; simp at hu; subst hu; rfl
          case c3 => unfold maxLen; omega
          case c4 => omega
          case c5 => have := HO.out.2.1.size; simp; omega
          intro v2 w2 hown2 hg2 _
          have HO2 := Lib.hid (own_one HO.out hown2 hg2)
          clear hown2 hg2
          go_wp2
          go_roundw
          case rel => exact ⟨k + 1, true, P ++ [xs[k]], by omega, by go_num, rfl, HO2.out, HE2.out, by simp; omega⟩
          case measure => simp [intOf]; omega
      | false =>
        cases t1 : (xs[k].toList == s.toList) with
        | true =>
          have HE2 : Hid ((P ++ [xs[k]]) ++ rWith s true (xs.drop (k + 1)) = rWith s false xs) := Lib.hid (by rw [← HE.out, drop_get q, rWith_here s xs[k] _ t1]; simp)
          clear h HE
          go_wp2_with (at_builtin; refine wpList_append_own _ rfl (.tmp 34) (.tmp 39) 25 rfl w.heap.size 9 i0 (.string ⟨#[]⟩) 1 16 Tryd.underlying25 hi hz0 hz1 hz2 rfl (by decide) u5 (P).length ((P).map Value.string) rfl (HO.out.1.alloc _) ⟨_, 0, none⟩ 1 1 [.string xs[k]] rfl rfl ?c1 ?c2 ?c3 ?c4 ?c5 ?_)
          case c1 =>
            intro j u hj
            match j, hj with
            | 0, hj => simp at hj; subst hj; simp [Addr.add]
          case c2 => intro u hu; simp at hu; subst hu; rfl
          case c3 => unfold maxLen; omega
          case c4 => omega
          case c5 => have := HO.out.2.1.size; simp; omega
          intro v2 w2 hown2 hg2 _
          have HO2 := Lib.hid (own_one HO.out hown2 hg2)
          clear hown2 hg2
          go_wp2
          go_roundw
          case rel => exact ⟨k + 1, true, P ++ [xs[k]], by omega, by go_num, rfl, HO2.out, HE2.out, by simp; omega⟩
          case measure => simp [intOf]; omega
        | false =>
          cases t2 : ltS s xs[k] with
          | false =>
            have t3 : Op.bytesLess xs[k].toList s.toList = true := by
              have hne := other_list.1 t1
              show ltS xs[k] s = true
              rw [← Bool.not_eq_false]
              intro e
              exact hne (ltS_tri e t2)
            have HE2 : Hid ((P ++ [xs[k]]) ++ rWith s false (xs.drop (k + 1)) = rWith s false xs) := Lib.hid (by rw [← HE.out, drop_get q, rWith_low s xs[k] _ t1 t2]; simp)
            clear h HE t2
            go_wp2_with (at_builtin; refine wpList_append_own _ rfl (.tmp 34) (.tmp 39) 25 rfl w.heap.size 9 i0 (.string ⟨#[]⟩) 1 16 Tryd.underlying25 hi hz0 hz1 hz2 rfl (by decide) u5 (P).length ((P).map Value.string) rfl (HO.out.1.alloc _) ⟨_, 0, none⟩ 1 1 [.string xs[k]] rfl rfl ?c1 ?c2 ?c3 ?c4 ?c5 ?_)
            case c1 =>
              intro j u hj
              match j, hj with
              | 0, hj => simp at hj; subst hj; simp [Addr.add]
            case c2 => intro u hu; simp at hu; subst hu; rfl
            case c3 => unfold maxLen; omega
            case c4 => omega
            case c5 => have := HO.out.2.1.size; simp; omega
            intro v2 w2 hown2 hg2 _
            have HO2 := Lib.hid (own_one HO.out hown2 hg2)
            clear hown2 hg2
            go_wp2
            go_roundw
            case rel => exact ⟨k + 1, false, P ++ [xs[k]], by omega, by go_num, rfl, HO2.out, HE2.out, by simp; omega⟩
            case measure => simp [intOf]; omega
          | true =>
            have t3 : Op.bytesLess xs[k].toList s.toList = false := ltS_asymm t2
            have HE2 : Hid (((P ++ [s]) ++ [xs[k]]) ++ rWith s true (xs.drop (k + 1)) = rWith s false xs) := Lib.hid (by rw [← HE.out, drop_get q, rWith_gap s xs[k] _ t1 t2]; simp)
            clear h HE t2
            go_wp2_with (at_builtin; refine wpList_append_own _ rfl (.tmp 30) (.tmp 32) 25 rfl w.heap.size 9 i0 (.string ⟨#[]⟩) 1 16 Tryd.underlying25 hi hz0 hz1 hz2 rfl (by decide) u5 (P).length ((P).map Value.string) rfl (HO.out.1.alloc _) ⟨_, 0, none⟩ 1 1 [.string s] rfl rfl ?c1 ?c2 ?c3 ?c4 ?c5 ?_)
            case c1 =>
              intro j u hj
              match j, hj with
              | 0, hj => simp at hj; subst hj; simp [Addr.add]
            case c2 => intro u hu; simp at hu; subst hu; rfl
            case c3 => unfold maxLen; omega
            case c4 => omega
            case c5 => have := HO.out.2.1.size; simp; omega
            intro v2 w2 hown2 hg2 _
            have ho2 := own_one HO.out hown2 hg2
            have hcell2 : w2.cell? ⟨b, off + k, none⟩ = some (.string xs[k]) := hg2.cell ((World.cell?_alloc_past _ _ _ (cell_lt (a := ⟨b, off + k, none⟩) hcell)).trans hcell) (fun e => by have := (HO.out.1.lt b e.symm).1; have : b < w.heap.size := hbw; omega)
            obtain ⟨P2, hP2⟩ : ∃ P2, P ++ [s] = P2 := ⟨_, rfl⟩
            have hPl2 : P2.length ≤ 2 * k + 1 := by rw [← hP2]; simp; omega
            rw [hP2] at ho2
            have HE3 : Hid ((P2 ++ [xs[k]]) ++ rWith s true (xs.drop (k + 1)) = rWith s false xs) := Lib.hid (by rw [← hP2]; exact HE2.out)
            have HO2 := Lib.hid ho2
            clear hown2 hg2 hP2 HE2 HO ho2 hcell
            go_wp2_with (at_builtin; refine wpList_append_own _ rfl (.tmp 34) (.tmp 39) 25 rfl w.heap.size 9 i0 (.string ⟨#[]⟩) 1 16 Tryd.underlying25 hi hz0 hz1 hz2 rfl (by decide) v2 (P2).length ((P2).map Value.string) rfl (HO2.out.1.alloc _) ⟨_, 0, none⟩ 1 1 [.string xs[k]] rfl rfl ?d1 ?d2 ?d3 ?d4 ?d5 ?_)
            case d1 =>
              intro j u hj
              match j, hj with
              | 0, hj => simp at hj; subst hj; simp [Addr.add]
            case d2 => intro u hu; simp at hu; subst hu; rfl
            case d3 => unfold maxLen; omega
            case d4 => omega
            case d5 => have := HO2.out.2.1.size; simp; omega
            intro v3 w3 hown3 hg3 _
            have HO3 := Lib.hid (own_one HO2.out hown3 hg3)
            clear hown3 hg3
            go_wp2
            go_roundw
            case rel => exact ⟨k + 1, true, P2 ++ [xs[k]], by omega, by go_num, rfl, HO3.out, HE3.out, by simp; omega⟩
            case measure => simp [intOf]; omega
    · obtain rfl : k = n := by omega
      have hd : xs.drop k = [] := List.drop_eq_nil_of_le (by omega)
      cases laid with
      | true =>
        have HW : Hid (rWith s false xs = P) := Lib.hid (by rw [← heq, hd]; simp [rWith])
        obtain ⟨A1, d1, hv, hR⟩ := ho.gives
        simp only [Ending.returned.injEq] at hv
        subst hv
        clear ho heq h hd HE HO
        go_wp2
        go_ret
        rw [HW.out]
        exact ⟨A1, d1, rfl, hR⟩
      | false =>
        have HW : Hid (rWith s false xs = P ++ [s]) := Lib.hid (by rw [← heq, hd]; simp [rWith])
        clear ho heq h hd HE
        go_wp2_with (at_builtin; refine wpList_append_own _ rfl (.tmp 43) (.tmp 45) 25 rfl w.heap.size 9 i0 (.string ⟨#[]⟩) 1 16 Tryd.underlying25 hi hz0 hz1 hz2 rfl (by decide) u5 (P).length ((P).map Value.string) rfl (HO.out.1.alloc _) ⟨_, 0, none⟩ 1 1 [.string s] rfl rfl ?c1 ?c2 ?c3 ?c4 ?c5 ?_)
        case c1 =>
          intro j u hj
          match j, hj with
          | 0, hj => simp at hj; subst hj; simp [Addr.add]
        case c2 => intro u hu; simp at hu; subst hu; rfl
        case c3 => unfold maxLen; omega
        case c4 => omega
        case c5 => have := HO.out.2.1.size; simp; omega
        intro v2 w2 hown2 hg2 _
        obtain ⟨A1, d1, hv, hR⟩ := (own_one HO.out hown2 hg2).gives
        simp only [Ending.returned.injEq] at hv
        subst hv
        clear hown2 hg2
        go_wp2
        go_ret
        rw [HW.out]
        exact ⟨A1, d1, rfl, hR⟩
end Go.Proofs.YtcnfjimncifbgaaDoor
