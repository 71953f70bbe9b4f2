/-
  each: the sessions, yielded one after another, walked (layer 18).
-/
import Derived.Test.YtnobpbbedclbkaaZj29
import Derived.Shelf.Abstract
import Derived.Shelf.RegionOpen
import Derived.OwnWalkIn
import Derived.TacticsInMore
import Derived.LoopNIn
import Derived.LoopIn
namespace Go.Proofs.Ytnobpbbedclbkaa
open Go.RowKit Go.Shelf Go.Rel
attribute [local go_sem] Oper.semAt_some
set_option linter.unusedSimpArgs false
set_option linter.unusedVariables false

/-- The session that a row tells. -/
abbrev snR (x : Rw Int) : Sn := snOf (fun v : Int => v) x
def snEncs (x : Rw Int) : Array Value := #[snV (snR x)]
/-- A function over a box that holds rows of the call's own. -/
structure EachIs (w w' : World) (v : Value) (l : List (Rw Int)) (X : Nat) (A : Option Addr) (c : Nat) : Prop where
  val : v = .func (.func 43) #[] #[.pointer (some ⟨X, 0, none⟩)]
  box : w'.heap[X]? = some (.cells #[.slice A l.length c] 78 (0, 0))
  row : SK Sx.trC 4 w' A l.length l
  new : w.heap.size ≤ X
  own : ∀ b off, A = some ⟨b, off, none⟩ → w.heap.size ≤ b
  below : Below w.heap.size w w'
section
variable {S : Nat → Prop} {w : World} {B Bt : Nat} {t : Sm}
theorem each_any (h : SAt S w B Bt t) : Calls Try.prog 32 #[.pointer (some ⟨B, 0, none⟩)] w fun e w' => ∃ v l X A c, e = .returned v ∧ EachIs w w' v l X A c ∧ l.map snR = t.l := by
  obtain ⟨_, k, T, h0, h1⟩ := h
  have hrl := h0.rows
  have HT := Lib.hid (table_is k)
  have HL := Lib.hid (Sx.list_any h1)
  have HRl := Lib.hid hrl
  clear k h0 h1 hrl
  go_enter Try.func32, Try.ntmps32
  go_wp2_with fail
  refine HT.out.mono ?_
  rintro e w' ⟨rfl, rfl⟩
  go_wp2_with fail
  refine HL.out.mono ?_
  rintro e w1 ⟨A, c, rfl, h1, h2, h3, h4, h5⟩
  have HE : Hid (EachIs w (w1.alloc (.cells #[.slice A T.l.length c] 78)) (.func (.func 43) #[] #[.pointer (some ⟨w1.heap.size, 0, none⟩)]) T.l w1.heap.size A c) := Lib.hid ⟨rfl, heap_alloc_new w1 _, h1.below (below1 _ _ _), h5.size, h4, h5.trans ((below1 _ _ _).mono h5.size)⟩
  obtain ⟨L, hL⟩ : ∃ L, T.l.length = L := ⟨_, rfl⟩
  rw [hL] at HE ⊢
  clear h1 h2 h3 h4 h5 HL hL
  go_wp2
  go_ret
  exact ⟨_, T.l, _, A, c, rfl, HE.out, HRl.out⟩
theorem each_no {p : Option Addr} (h : NoS w p) : Calls Try.prog 32 #[.pointer p] w fun e w' => ∃ v l X A c, e = .returned v ∧ EachIs w w' v l X A c ∧ l.map snR = [] := by
  have hrl : ([] : List (Rw Int)).map snR = [] := rfl
  have HT := Lib.hid (table_no h)
  have HL := Lib.hid (Sx.list_no (w := w) (p := none) ⟨.inl rfl⟩)
  have HRl := Lib.hid hrl
  clear h hrl
  go_enter Try.func32, Try.ntmps32
  go_wp2_with fail
  refine HT.out.mono ?_
  rintro e w' ⟨rfl, rfl⟩
  go_wp2_with fail
  refine HL.out.mono ?_
  rintro e w1 ⟨A, c, rfl, h1, h2, h3, h4, h5⟩
  have HE : Hid (EachIs w (w1.alloc (.cells #[.slice A ([] : List (Rw Int)).length c] 78)) (.func (.func 43) #[] #[.pointer (some ⟨w1.heap.size, 0, none⟩)]) ([] : List (Rw Int)) w1.heap.size A c) := Lib.hid ⟨rfl, heap_alloc_new w1 _, h1.below (below1 _ _ _), h5.size, h4, h5.trans ((below1 _ _ _).mono h5.size)⟩
  obtain ⟨L, hL⟩ : ∃ L, ([] : List (Rw Int)).length = L := ⟨_, rfl⟩
  rw [hL] at HE ⊢
  clear h1 h2 h3 h4 h5 HL hL
  go_wp2
  go_ret
  exact ⟨_, ([] : List (Rw Int)), _, A, c, rfl, HE.out, HRl.out⟩
end
theorem grownBy_below {w w' : World} (h : Below w.heap.size w w') : w.grownBy w' none := ⟨h.1, h.2, h.3, h.4, fun k hk _ => h.5 k hk⟩
set_option maxHeartbeats 4000000 in
set_option maxRecDepth 100000 in
theorem each_tells (D : Nat → Prop) (k : Nat) (hk : 1 ≤ k) (Bx c : Nat) (A : Option Addr) (l : List (Rw Int)) (w : World) (hl : l.length ≤ 1000) (hD : ∀ k, RowsB A l.length k → ¬ D k) (hBx : w.heap[Bx]? = some (.cells #[.slice A l.length c] 78 (0, 0))) (hR : SK Sx.trC 4 w A l.length l) :
    SeqP Fence.wide k Try.prog 43 #[.pointer (some ⟨Bx, 0, none⟩)] snEncs (nextIs l) (KpD D) (fun xs => xs = l) (fun pre => ∃ j, pre = l.take j) l.length w := fun lp J Jx W hW hJ hJx hY h0 => by
  have cb := cellsN ((hW.block _ (block_lt hBx)).trans hBx) 0 _ rfl
  have HR := Lib.hid (hR.below hW)
  have HDD := Lib.hid hD
  have HY := Lib.hid hY
  have HJ := Lib.hid hJ
  have HH0 := Lib.hid h0
  obtain ⟨L, hL⟩ : ∃ L, l.length = L := ⟨_, rfl⟩
  rw [hL] at cb hl
  have HL := Lib.hid hL
  clear hBx hR hD hW hJ hJx hY h0 hL
  refine callsIn_of_wp Try.func43 rfl trivial ?_ rfl
  simp only [Try.ntmps43, List.size_toArray, List.length_cons, List.length_nil, Nat.reduceAdd, Nat.reduceSub, Array.replicate_succ, Array.replicate_zero, List.push_toArray, List.append_toArray, List.nil_append, List.cons_append]
  gi_wp2
  clear cb
  gi_loopw [7] (fun s7 wr => ∃ j : Nat, j ≤ L ∧ s7 = .int .i64 (j : Int) ∧ Hid (J (l.take j) wr) ∧ Hid (KpD D W wr)) (fun s7 _ => L - (intOf s7).toNat)
  case atStart => exact ⟨0, Nat.zero_le _, rfl, HH0, Lib.hid ⟨Nat.le_refl _, fun _ _ _ h _ => h⟩⟩
  case round =>
    obtain ⟨j, hj, rfl, hJs, hkp⟩ := hrel
    by_cases hlt : j < L
    · have hjl : j < l.length := by rw [HL.out]; exact hlt
      have hr := HR.out.kpD (fun r => by rw [Sx.trC_len]; decide) HDD.out hkp.out
      obtain ⟨b, off, rfl, hbl, hit⟩ := hr.at_ hjl hjl
      have hst : l.take (j + 1) = l.take j ++ [l[j]] := List.take_succ_eq_append_getElem hjl
      obtain ⟨x, hx⟩ : ∃ x, l[j] = x := ⟨_, rfl⟩
      rw [hx] at hit hst
      obtain ⟨e0, e1, e2, e3⟩ := Sx.tr_cells hit
      have hb3 := below1 wr #[.string x.key, .int .i64 x.val, .int .u64 (x.made : Int), .int .u64 (x.ix : Int)] 65
      have hn := heap_alloc_new wr (.cells #[.string x.key, .int .i64 x.val, .int .u64 (x.made : Int), .int .u64 (x.ix : Int)] 65)
      obtain ⟨W3, hW3⟩ : ∃ W3, wr.alloc (.cells #[.string x.key, .int .i64 x.val, .int .u64 (x.made : Int), .int .u64 (x.ix : Int)] 65) = W3 := ⟨_, rfl⟩
      have hJ3 : J (l.take j) W3 := by rw [← hW3]; exact HJ.out.alloc _ hJs.out
      rw [hW3] at hb3 hn
      obtain ⟨d0, d1, d2, d3⟩ := Sx.blk hn
      have HK3 : Hid (KpD D W W3) := Lib.hid (kpD_t hkp.out (kpD_of hb3))
      have HSs := Lib.hid (session_any x W3)
      unfold Sx.trV at HSs
      have HJ3 := Lib.hid hJ3
      have HNx : Hid (∀ W', nextIs l (l.take j) x W') := Lib.hid fun _ => ⟨j, hjl, rfl, hx⟩
      have HLt : Hid ((l.take j).length < l.length) := Lib.hid (by rw [List.length_take]; omega)
      have HSt := Lib.hid hst
      clear hb3 hn hJ3 hst hit hx hr
      gi_wp2_with fail
      refine ⟨trivial, (callsIn_wide.2 HSs.out).mono ?_⟩
      rintro e W5 ⟨rfl, hb5⟩
      have hJ5 : J (l.take j) W5 := HJ.out _ _ _ none HJ3.out (grownBy_below hb5) (fun _ e => by cases e)
      obtain ⟨fn, tmps, assign, body, hy, hRd⟩ := HY.out (l.take j) x W5 hJ5 (HNx.out W5) HLt.out
      simp only [snEncs, snV, snOf] at hy
      have HRd := Lib.hid hRd
      have HK5 : Hid (KpD D W W5) := Lib.hid (kpD_t HK3.out (kpD_of hb5))
      simp only [snV, snOf]
      clear hb5 hJ5 hRd HSs
      gi_wp2
      refine HRd.out.mono ?_
      rintro e W4 ⟨hkf, (⟨rfl, hJ4, hk4⟩ | ⟨rfl, hJx4⟩)⟩
      · rw [← HSt.out] at hJ4
        have HJ4 := Lib.hid hJ4
        have HK4 : Hid (KpD D W W4) := Lib.hid (kpD_t HK5.out hk4)
        clear hJ4 hk4 hy hkf d0 d1 d2 d3 hW3
        gi_wp2
        go_roundw
        case rel => exact ⟨j + 1, by omega, by go_num, HJ4, HK4⟩
        case measure => simp [intOf]; omega
      · have HJx4 := Lib.hid hJx4
        clear hJx4 hy hkf d0 d1 d2 d3 hW3
        gi_wp2
        refine bodyPost_ret (results_none rfl _ _ _) rfl ?_
        exact ⟨⟨_, rfl⟩, .inr ⟨l.take j ++ [x], ⟨j + 1, HSt.out.symm⟩, HJx4.out⟩⟩
    · have he : l.take j = l := List.take_of_length_le (by rw [HL.out]; omega)
      rw [he] at hJs
      clear he
      gi_wp2
      refine bodyPost_end (results_none rfl _ _ _) rfl ?_
      exact ⟨⟨_, rfl⟩, .inl ⟨l, rfl, hJs.out⟩⟩
end Go.Proofs.Ytnobpbbedclbkaa
