/-
  The first check that does not hold: fault, walked (layer 16).
-/
import Derived.Test.YtohnkagabpefdaaDoorZj30
import Derived.Shelf.Abstract
namespace Go.Proofs.YtohnkagabpefdaaDoor
open Go.RowKit Go.Shelf
set_option linter.unusedSimpArgs false
set_option linter.unusedVariables false

/-- The first error of the first entry of which a check does not hold. -/
def faultE (cs : List Ck) (es : List En) : Nat := (es.findSome? fun e => firstE (saidOf cs e)).getD 0
theorem ck_cells {w : World} {b o : Nat} {c : Ck} (h : ItAt ckC w b o c) : w.cell? ⟨b, o, none⟩ = some c.fv ∧ w.cell? ⟨b, o + 1, none⟩ = some (.int .i64 (c.err : Int)) := ⟨h 0 _ rfl, h 1 _ rfl⟩
theorem said_none {cs : List Ck} {e : En} (h : ∀ c ∈ cs, c.p e = true) : firstE (saidOf cs e) = none := by
  unfold firstE saidOf
  rw [List.find?_eq_none.2]
  · rfl
  · intro x hx
    obtain ⟨c, hc, rfl⟩ := List.mem_map.1 hx
    simp [h c hc]
theorem said_some {cs : List Ck} {e : En} {j : Nat} (hj : j < cs.length) (h : ∀ c ∈ cs.take j, c.p e = true) (hn : cs[j].p e = false) : firstE (saidOf cs e) = some cs[j].err := by
  have e1 : cs = cs.take j ++ cs[j] :: cs.drop (j + 1) := by simp
  unfold firstE saidOf
  obtain ⟨c, hc⟩ : ∃ c, cs[j] = c := ⟨_, rfl⟩
  rw [hc] at e1 hn ⊢
  rw [e1, List.map_append, List.find?_append, List.find?_eq_none.2, List.map_cons, List.find?_cons_of_pos (by simpa using hn)]
  · simp
  · intro x hx
    obtain ⟨c, hc, rfl⟩ := List.mem_map.1 hx
    simp [h c hc]
theorem fault_none {cs : List Ck} {es : List En} (h : ∀ e ∈ es, firstE (saidOf cs e) = none) : faultE cs es = 0 := by
  unfold faultE
  rw [List.findSome?_eq_none_iff.2 h]
  rfl
theorem fault_some {cs : List Ck} {es : List En} {k : Nat} (hk : k < es.length) (h : ∀ e ∈ es.take k, firstE (saidOf cs e) = none) {x : Nat} (hx : firstE (saidOf cs es[k]) = some x) : faultE cs es = x := by
  have e1 : es = es.take k ++ es[k] :: es.drop (k + 1) := by simp
  unfold faultE
  obtain ⟨e, he⟩ : ∃ e, es[k] = e := ⟨_, rfl⟩
  rw [he] at e1 hx
  rw [e1, List.findSome?_append, List.findSome?_eq_none_iff.2 h, List.findSome?_cons, hx]
  rfl
theorem take_all {α : Type} {p : α → Prop} {l : List α} {k : Nat} (hk : k < l.length) (h : ∀ x ∈ l.take k, p x) (hx : p l[k]) : ∀ x ∈ l.take (k + 1), p x := by
  intro x hm
  rw [List.take_succ_eq_append_getElem hk, List.mem_append, List.mem_singleton] at hm
  rcases hm with hm | rfl
  · exact h x hm
  · exact hx
set_option maxHeartbeats 4000000 in
theorem fault_any (cs : List Ck) (es : List En) (A A2 : Option Addr) (c c2 : Nat) (w : World) (hc : SK ckC 2 w A cs.length cs) (he : SK enC 6 w A2 es.length es) (hcl : cs.length ≤ 100) (hel : es.length ≤ maxLen) (hk : ∀ e ∈ es, CkOk w cs e) :
    Calls Tryd.prog 21 #[.slice A cs.length c, .slice A2 es.length c2] w fun e w' => e = .returned (.int .i64 (faultE cs es : Int)) ∧ Below w.heap.size w w' := by
  obtain ⟨n, hn⟩ : ∃ n, cs.length = n := ⟨_, rfl⟩
  obtain ⟨m, hm⟩ : ∃ m, es.length = m := ⟨_, rfl⟩
  have HC := Lib.hid hc
  have HE := Lib.hid he
  have HK := Lib.hid hk
  have HN := Lib.hid hn
  have HM := Lib.hid hm
  rw [hn] at hcl ⊢
  rw [hm] at hel ⊢
  unfold maxLen at hel
  obtain ⟨r, hr⟩ : ∃ r, faultE cs es = r := ⟨_, rfl⟩
  rw [hr]
  have HR := Lib.hid hr
  have HZ : Hid ((∀ e ∈ es, firstE (saidOf cs e) = none) → r = 0) := Lib.hid fun h => hr ▸ fault_none h
  clear hc he hk hn hm hr
  go_enter Tryd.func21, Tryd.ntmps21
  go_wp2
  go_step3
  go_wp2
  go_step3
  go_wp2
  go_loopg [5, 12] m (fun q e5 i wr => ∃ k : Nat, k + q = m ∧ i = .int .i64 k ∧ e5 = .int .i64 0 ∧ Hid (∀ e ∈ es.take k, firstE (saidOf cs e) = none) ∧ Below w.heap.size w wr)
  case atStart => exact ⟨0, by omega, rfl, rfl, Lib.hid (by simp), Below.refl _ _⟩
  case round =>
    obtain ⟨k, hkq, rfl, rfl, hdone, hbx⟩ := hrel
    cases gk with
    | zero =>
      obtain rfl : k = m := by omega
      have HD : Hid (r = 0) := Lib.hid (HZ.out fun e he => hdone.out e (by rw [List.take_of_length_le (by rw [HM.out]; exact Nat.le_refl _)]; exact he))
      have HB := Lib.hid hbx
      clear hdone hbx hkq
      go_wp2
      try rw [Exit.noGoto_ret]
      go_ret
      exact ⟨by rw [HD.out]; rfl, HB.out⟩
    | succ q =>
      have hkm : k < m := by omega
      have hkl : k < es.length := by rw [HM.out]; exact hkm
      obtain ⟨b, off, rfl, hb, hit⟩ := (HE.out.below hbx).at_ hkl hkl
      obtain ⟨e0, he0⟩ : ∃ e0, es[k] = e0 := ⟨_, rfl⟩
      rw [he0] at hit
      have HKe : Hid (CkOk w cs e0) := Lib.hid (he0 ▸ HK.out _ (List.getElem_mem hkl))
      have HS : Hid (∀ x, firstE (saidOf cs e0) = some x → r = x) := Lib.hid fun x hx => HR.out.symm.trans (fault_some hkl hdone.out (by rw [he0]; exact hx))
      have HNx : Hid (firstE (saidOf cs e0) = none → ∀ e ∈ es.take (k + 1), firstE (saidOf cs e) = none) := Lib.hid fun h => take_all hkl hdone.out (by rw [he0]; exact h)
      obtain ⟨q0, q1, q2, q3, q4, q5⟩ := Kt.tr_cells hit
      obtain ⟨wf, hWf⟩ : ∃ wf, wr.alloc (.cells #[.string e0.key, .string e0.val.v, .int .u64 (e0.val.ses : Int), .int .u64 (e0.val.lck : Int), .int .u64 (e0.made : Int), .int .u64 (e0.ix : Int)] TEn) = wf := ⟨_, rfl⟩
      have hbf : Below w.heap.size w wf := by rw [← hWf]; exact hbx.alloc hbx.size _
      obtain ⟨bx, hbx0⟩ : ∃ bx, wr.heap.size = bx := ⟨_, rfl⟩
      have HKb : Hid (wf.heap[bx]? = some (.cells #[.string e0.key, .string e0.val.v, .int .u64 (e0.val.ses : Int), .int .u64 (e0.val.lck : Int), .int .u64 (e0.made : Int), .int .u64 (e0.ix : Int)] TEn (0, 0))) := Lib.hid (by rw [← hWf, ← hbx0]; exact heap_alloc_new wr _)
      have HBF := Lib.hid hbf
      have HWf := Lib.hid hWf
      have HBx := Lib.hid hbx0
      have HHK := Lib.hid hkq
      clear hdone hit he0 hbx hbf hWf hbx0 hkq
      go_wp2
      rw [HWf.out, HBx.out]
      clear q0 q1 q2 q3 q4 q5
      go_loopg [5, 18] n (fun q e5 i wq => ∃ j : Nat, j + q = n ∧ i = .int .i64 j ∧ e5 = .int .i64 0 ∧ Hid (∀ c ∈ cs.take j, c.p e0 = true) ∧ Below wf.heap.size wf wq)
      case atStart => exact ⟨0, by omega, rfl, rfl, Lib.hid (by simp), Below.refl _ _⟩
      case round =>
        obtain ⟨j, hjq, rfl, rfl, hup, hbq⟩ := hrel
        obtain ⟨wq, rfl⟩ : ∃ wq : World, wq = wr := ⟨_, rfl⟩
        have HBw : Hid (Below w.heap.size w wq) := Lib.hid (HBF.out.trans (hbq.mono HBF.out.size))
        cases gk with
        | zero =>
          obtain rfl : j = n := by omega
          have HD := Lib.hid (HNx.out (said_none fun c hc => hup.out c (by rw [List.take_of_length_le (by rw [HN.out]; exact Nat.le_refl _)]; exact hc)))
          clear hbq hup hjq
          go_wp2
          go_roundg q
          case rel => exact ⟨k + 1, by have := HHK.out; omega, by go_num, rfl, HD, HBw.out⟩
          case measure => omega
        | succ p =>
          have hjn : j < n := by omega
          have hjl : j < cs.length := by rw [HN.out]; exact hjn
          obtain ⟨bc, offc, rfl, hbc, hitc⟩ := (HC.out.below HBw.out).at_ hjl hjl
          obtain ⟨ck, hck⟩ : ∃ ck, cs[j] = ck := ⟨_, rfl⟩
          rw [hck] at hitc
          obtain ⟨hdo, _, _, _⟩ := HKe.out ck (hck ▸ List.getElem_mem hjl)
          obtain ⟨g, lb, hfv, eg, hcall⟩ := hdo
          obtain ⟨r0, r1⟩ := ck_cells hitc
          rw [hfv] at r0
          have HYes : Hid (ck.p e0 = true → ∀ c ∈ cs.take (j + 1), c.p e0 = true) := Lib.hid fun h => take_all hjl hup.out (by rw [hck]; exact h)
          have HNo : Hid (ck.p e0 = false → r = ck.err) := Lib.hid fun h => HS.out _ (by rw [said_some hjl hup.out (by rw [hck]; exact h), hck])
          obtain ⟨pv, hpv⟩ : ∃ pv, ck.p e0 = pv := ⟨_, rfl⟩
          obtain ⟨er, her⟩ : ∃ er, ck.err = er := ⟨_, rfl⟩
          rw [hpv] at HYes HNo hcall
          rw [her] at HNo r1
          have kb := (hbq.block bx (block_lt HKb.out)).trans HKb.out
          obtain ⟨W1, hW1⟩ : ∃ W1, wq.alloc (.cells #[.func (.func g) #[] lb, .int .i64 (er : Int)] TCk) = W1 := ⟨_, rfl⟩
          have hb11 : Below wq.heap.size wq W1 := by rw [← hW1]; exact below1 _ _ _
          obtain ⟨by_, hby⟩ : ∃ by_, wq.heap.size = by_ := ⟨_, rfl⟩
          have HKy : Hid (W1.heap[by_]? = some (.cells #[.func (.func g) #[] lb, .int .i64 (er : Int)] TCk (0, 0))) := Lib.hid (by rw [← hW1, ← hby]; exact heap_alloc_new wq _)
          have kb1 := (hb11.block bx (block_lt kb)).trans kb
          obtain ⟨q0, q1, q2, q3, q4, q5⟩ := Kt.blk kb
          have hbxl := block_lt kb
          have HKb1 := Lib.hid kb1
          have HBw1 : Hid (Below w.heap.size w W1) := Lib.hid (HBw.out.trans (hb11.mono HBw.out.size))
          have HBq1 : Hid (Below wf.heap.size wf W1) := Lib.hid (hbq.trans (hb11.mono hbq.size))
          have HCall := Lib.hid (hcall W1 HBw1.out)
          have HW1 := Lib.hid hW1
          have HBy := Lib.hid hby
          have HJq := Lib.hid hjq
          unfold enV Kt.trV at HCall
          clear hcall hitc hck hfv hup hpv her kb kb1 hb11 hW1 hby hbq hjq
          go_wp2_with fail
          rw [HW1.out]
          refine HCall.out.mono ?_
          rintro e w2 ⟨rfl, hb2⟩
          rw [HBy.out]
          have HB2 := Lib.hid (HBw1.out.trans (hb2.mono HBw1.out.size))
          have HQ2 := Lib.hid (HBq1.out.trans (hb2.mono HBq1.out.size))
          have s1 := cellsN ((hb2.block by_ (block_lt HKy.out)).trans HKy.out) 1 _ rfl
          clear hb2 q0 q1 q2 q3 q4 q5 r0 r1 HCall HW1 HBy
          cases pv with
          | true =>
            have HY := Lib.hid (HYes.out rfl)
            clear s1
            go_wp2
            go_roundg p
            case rel => exact ⟨j + 1, by have := HJq.out; omega, by go_num, rfl, HY, HQ2.out⟩
            case measure => omega
          | false =>
            have HNr := Lib.hid (HNo.out rfl)
            go_wp2
            try rw [Exit.noGoto_ret]
            go_ret
            exact ⟨by rw [HNr.out]; rfl, HB2.out⟩
end Go.Proofs.YtohnkagabpefdaaDoor
