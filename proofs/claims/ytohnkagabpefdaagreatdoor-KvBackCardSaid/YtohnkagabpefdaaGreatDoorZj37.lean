/-
  Same of entries that are the same, walked (layer 16).
-/
import Derived.Test.YtohnkagabpefdaaGreatDoorZj21
import Derived.Test.YtohnkagabpefdaaGreatDoorZj34
import Derived.Test.YtohnkagabpefdaaGreatDoorZj36
namespace Go.Proofs.YtohnkagabpefdaaGreatDoor
open Go.RowKit
set_option linter.unusedSimpArgs false
set_option linter.unusedVariables false

set_option maxHeartbeats 2000000 in
theorem rsame_any (A : Option Addr) (n c : Nat) (l : List En) (A2 : Option Addr) (c2 : Nat) (w : World) (hS : SK enC 6 w A n l) (hS2 : SK enC 6 w A2 n l) (hn : n ≤ maxLen) :
    Calls Tryz.prog 13 #[.slice A n c, .slice A2 n c2] w fun e w' => e = .returned (.bool true) ∧ Below w.heap.size w w' := by
  unfold maxLen at hn
  have hm : n ≤ 9223372036854775807 := by omega
  have HL := Lib.hid hS.1
  have HS := Lib.hid hS
  have HS2 := Lib.hid hS2
  have zz2 : (n != n) = false := by simp
  clear hS hS2 hn
  go_enter Tryz.func13, Tryz.ntmps13
  go_wp2
  go_loopw [5] (fun i wr => ∃ k : Nat, k ≤ n ∧ i = .int .i64 (k : Int) ∧ Hid (Below w.heap.size w wr)) (fun i _ => n - (intOf i).toNat)
  case atStart => exact ⟨0, Nat.zero_le _, rfl, Lib.hid (Below.refl _ _)⟩
  case round =>
    obtain ⟨k, hk, rfl, hb⟩ := hrel
    by_cases hlt : k < n
    · have hkl : k < l.length := by have := HL.out; omega
      obtain ⟨b, off, rfl, hbl, hit⟩ := (HS.out.below hb.out).at_ hlt hkl
      obtain ⟨b2, off2, rfl, hbl2, hit2⟩ := (HS2.out.below hb.out).at_ hlt hkl
      obtain ⟨x, hx⟩ : ∃ x, l[k] = x := ⟨_, rfl⟩
      rw [hx] at hit hit2
      obtain ⟨c0, c1, c2, c3, c4, c5⟩ := Kt.tr_cells hit
      obtain ⟨d0, d1, d2, d3, d4, d5⟩ := Kt.tr_cells hit2
      have q1 : (k : Int) < (n : Int) := by omega
      have q0 : (0 : Int) ≤ (k : Int) := by omega
      clear hx hit hit2
      have ug := en_guard
      have ue := en_eq x x
      rw [(eqE_iff x x).2 rfl] at ue
      unfold enV Kt.trV at ue
      go_wp2
      go_quiet (fail)
      go_wp2
      go_roundw
      case rel => exact ⟨k + 1, by omega, by go_num, Lib.hid (below_drewN hb.out nq)⟩
      case measure => simp [intOf]; omega
    · go_wp2
      go_ret
      exact ⟨rfl, hb.out⟩
end Go.Proofs.YtohnkagabpefdaaGreatDoor
/-
  The document's store: Free, walked; Same of what is the same (layer 16).
-/
namespace Go.Proofs.YtohnkagabpefdaaGreatDoor
open Go.RowKit
set_option linter.unusedSimpArgs false
set_option linter.unusedVariables false

set_option maxHeartbeats 4000000 in
theorem krfree_any {S : Nat → Prop} {B : Nat} {t : Tb Kp} (s i : Nat) (w : World) (h : KrAt S w B t) (hk : KvOk t) (hi : i < 18446744073709551616) :
    Calls Tryz.prog 31 #[.pointer (some ⟨B, 0, none⟩), .int .u64 (s : Int), .int .u64 (i : Int)] w fun e w' => ∃ A c, e = .returned (.slice A (heldBy t s).length c) ∧ SK kyC 1 w' A (heldBy t s).length (heldBy t s) ∧ (∀ b off, A = some ⟨b, off, none⟩ → w.heap.size ≤ b ∧ b < w'.heap.size) ∧ ∃ S', KrAt S' w' B (kFree t s i) ∧ (∀ k, S' k → (S k ∨ w.heap.size ≤ k) ∧ k < w'.heap.size) ∧ (∀ b off, A = some ⟨b, off, none⟩ → ¬ S' b) ∧ But (· = B) w w' := by
  obtain ⟨ks, hks⟩ : ∃ ks, heldBy t s = ks := ⟨_, rfl⟩
  have HFr : kFree t s i = ks.foldl (unheld i) t := by unfold kFree; rw [hks]
  have HAll : Hid (∀ q ∈ ks, isO t q = true) := Lib.hid fun q hq => by
    rw [← hks, heldBy_eq] at hq
    obtain ⟨x, hx, rfl⟩ := heldL_mem hq
    obtain ⟨j, hj, rfl⟩ := List.getElem_of_mem hx
    unfold isO
    rw [getR_at hk.ok.rise hj]
    rfl
  rw [HFr, hks]
  have HKs := Lib.hid hks
  clear HFr hks
  obtain ⟨hok, A, c, h⟩ := h
  have h64 : t.l.length ≤ 64 := Nat.le_trans hok.len hok.most.2
  have HOk := Lib.hid hk
  have HIx := Lib.hid hi
  obtain ⟨X, hX⟩ : ∃ X, w.heap.size = X := ⟨_, rfl⟩
  have H : Hid (KrIs (fun k => S k ∧ k < X) w B A c t) := Lib.hid (h.narrow fun k hk hs => ⟨hs, hX ▸ hk⟩)
  have hBX : B < X := hX ▸ h.lt
  have HX := Lib.hid hX
  obtain ⟨L, hL⟩ : ∃ L, t.l.length = L := ⟨_, rfl⟩
  rw [hL] at h64
  have HL := Lib.hid hL
  have hm : L ≤ 9223372036854775807 := by omega
  rw [hX]
  clear hok h hk hi hX hL
  go_enter Tryz.func31, Tryz.ntmps31
  go_wp2
  go_loopw [7, 8] (fun vv iv wr => ∃ k : Nat, k ≤ L ∧ iv = .int .i64 (k : Int) ∧ Hid (kyRow wr X vv (heldL (t.l.take k) s)) ∧ Hid (Below X w wr)) (fun _ iv _ => L - (intOf iv).toNat)
  case atStart => exact ⟨0, Nat.zero_le _, rfl, Lib.hid (rowK.nil _ _), Lib.hid (HX.out ▸ Below.refl _ _)⟩
  case round =>
    obtain ⟨k, hk, rfl, hrow, hb⟩ := hrel
    have ht := H.out.below (by rw [HX.out]; exact hb.out)
    have c1 : wr.cell? ⟨B, 1, none⟩ = some (.slice A L c) := by have := ht.c1; rw [HL.out] at this; exact this
    by_cases hlt : k < L
    · have hkl : k < t.l.length := by rw [HL.out]; exact hlt
      obtain ⟨b, off, rfl, hbl, hit⟩ := ht.row.at_ hkl hkl
      have hs := heldL_step hkl s
      obtain ⟨y, hy⟩ : ∃ y, t.l[k] = y := ⟨_, rfl⟩
      rw [hy] at hit hs
      obtain ⟨e0, e1, e2, e3, e4, e5⟩ := Kt.tr_cells hit
      obtain ⟨a, ha⟩ : ∃ a, (s != 0) = a := ⟨_, rfl⟩
      obtain ⟨d, hd⟩ : ∃ d, (y.val.ses == s) = d := ⟨_, rfl⟩
      have q1 : ((s : Int) != 0) = a := by rw [nat_bne0, ha]
      have q2 : ((y.val.ses : Int) == (s : Int)) = d := by rw [nat_beq, hd]
      rw [ha, hd] at hs
      have HS := Lib.hid hs
      have hle : (heldL (t.l.take k) s).length ≤ 1000 := by
        have := heldL_length (t.l.take k) s
        rw [List.length_take] at this
        omega
      clear hs hy hit ht ha hd
      cases a with
      | false =>
        have HR := Lib.hid (show kyRow wr X u7 (heldL (t.l.take (k + 1)) s) by rw [HS.out, if_neg (by simp), List.append_nil]; exact hrow.out)
        go_wp2
        go_roundw
        case rel => exact ⟨k + 1, by omega, by go_num, HR, hb⟩
        case measure => simp [intOf]; omega
      | true =>
        cases d with
        | false =>
          have HR := Lib.hid (show kyRow wr X u7 (heldL (t.l.take (k + 1)) s) by rw [HS.out, if_neg (by simp), List.append_nil]; exact hrow.out)
          go_wp2
          go_roundw
          case rel => exact ⟨k + 1, by omega, by go_num, HR, hb⟩
          case measure => simp [intOf]; omega
        | true =>
          go_wp2_with (at_builtin; refine wpList_append_ky rfl (.tmp 35) (.tmp 44) rfl X _ _ rfl ?qa wr.heap.size y.key rfl ?qb hle ?qc ?_)
          case qa => exact hrow.out.below (below1 _ _ _)
          case qb => exact ItAt.of_new (enc := kyC) y.key _ rfl _
          case qc => have := hb.out.size; have := HX.out; simp; omega
          refine Lib.hid ?_
          intro v' w' hown hgr _
          have HB' : Hid (Below X w w') := Lib.hid ((hb.out.alloc (by have := hb.out.size; have := HX.out; omega) _).grown hgr (by have := hb.out.size; have := HX.out; simp; omega) fun _ e => (hrow.out.from _ e).1)
          rw [show heldL (t.l.take k) s ++ [y.key] = heldL (t.l.take (k + 1)) s by rw [HS.out]; simp] at hown
          have HR := Lib.hid hown
          clear hown hgr
          go_wp2
          go_roundw
          case rel => exact ⟨k + 1, by omega, by go_num, HR, HB'⟩
          case measure => simp [intOf]; omega
    · have hke : heldL (t.l.take k) s = heldBy t s := by rw [List.take_of_length_le (by rw [HL.out]; omega)]; rfl
      rw [hke] at hrow
      rw [HKs.out] at hrow
      obtain ⟨A2, c2, rfl, hSK, hnc, hmc, hge⟩ := SK.of_row kyC_len hrow.out
      obtain ⟨n, hn⟩ : ∃ n, ks.length = n := ⟨_, rfl⟩
      rw [hn] at hSK hnc
      have hn1 : n ≤ 9223372036854775807 := by unfold maxLen at hmc; omega
      have HN := Lib.hid hn
      have HSK := Lib.hid hSK
      have HGe := Lib.hid hge
      have HOw : Hid (∀ b off, A2 = some ⟨b, off, none⟩ → b < wr.heap.size) := Lib.hid fun b off e => (hrow.out.from b (by rw [e]; rfl)).2
      have H0 : Hid (KrAt (fun k => (S k ∧ k < X) ∨ wr.heap.size ≤ k) wr B (([] : List ByteArray).foldl (unheld i) t)) := Lib.hid ⟨HOk.out.ok, A, c, ht.narrow fun k _ z => .inl z⟩
      obtain ⟨wm, hwm⟩ : ∃ wm, wr = wm := ⟨_, rfl⟩
      rw [hwm] at H0 HSK HOw hb c1 ⊢
      have hXm : X ≤ wm.heap.size := by have := hb.out.size; have := HX.out; omega
      rw [hn]
      clear hke hSK hnc hmc hge hrow ht hn hwm
      go_wp2
      clear c1
      go_loopw [9] (fun iv wq => ∃ j : Nat, j ≤ n ∧ iv = .int .i64 (j : Int) ∧ Hid (KrAt (fun k => (S k ∧ k < X) ∨ wm.heap.size ≤ k) wq B ((ks.take j).foldl (unheld i) t)) ∧ Hid (But (· = B) wm wq)) (fun iv _ => n - (intOf iv).toNat)
      case atStart => exact ⟨0, Nat.zero_le _, rfl, H0, Lib.hid (But.refl _ _)⟩
      case round =>
        obtain ⟨wq, rfl⟩ : ∃ wq : World, wq = wr := ⟨_, rfl⟩
        obtain ⟨j, hj, rfl, hkr, hbm⟩ := hrel
        by_cases hlt2 : j < n
        · have hjl : j < ks.length := by rw [HN.out]; exact hlt2
          obtain ⟨b, off, rfl, hbl, hit⟩ := (HSK.out.but hbm.out fun b off e _ z => by have := HGe.out b off e; omega).at_ hlt2 hjl
          have hst : ks.take (j + 1) = ks.take j ++ [ks[j]] := List.take_succ_eq_append_getElem hjl
          obtain ⟨g1, g2, _⟩ := unheld_all HIx.out (ks.take j) HOk.out fun q hq => HAll.out q (List.mem_of_mem_take hq)
          have hiq := (g2 ks[j]).trans (HAll.out _ (List.getElem_mem hjl))
          obtain ⟨q, hq⟩ : ∃ q, ks[j] = q := ⟨_, rfl⟩
          rw [hq] at hit hst hiq
          have e0 : wq.cell? ⟨b, off + j, none⟩ = some (.string q) := by have := hit 0 _ rfl; simpa using this
          obtain ⟨T, hT⟩ : ∃ T, (ks.take j).foldl (unheld i) t = T := ⟨_, rfl⟩
          have hT' : (ks.take (j + 1)).foldl (unheld i) t = unheld i T q := by rw [hst, List.foldl_append, hT]; rfl
          rw [hT] at hkr g1 hiq
          obtain ⟨u1, _, _, u4, _, u6⟩ := unheld_one g1 HIx.out hiq
          obtain ⟨_, A3, c3, hkr2⟩ := hkr.out
          have HG := Lib.hid (hkr2.entO q)
          obtain ⟨gr, hgr⟩ : ∃ gr, entO T q = gr := ⟨_, rfl⟩
          have hun : unheld i T q = T.put q { gr.val with ses := 0 } i := by unfold unheld; rw [hgr]
          rw [hgr] at HG u6
          have hqs : q.size ≤ maxLen := by
            unfold isO at hiq
            obtain ⟨x, hx⟩ := Option.isSome_iff_exists.1 hiq
            obtain ⟨hm, hxk⟩ := getR_mem hx
            exact hxk ▸ g1.ok.key x hm
          have hpk : putK T gr.key { gr.val with ses := 0 } i = (0, unheld i T q) := by
            unfold putK
            rw [u6, u4, hun]
            rfl
          unfold enV Kt.trV at HG
          have HKr := Lib.hid (And.intro g1.ok hkr2)
          have HPk := Lib.hid hpk
          have HT' := Lib.hid hT'
          have HQs := Lib.hid hqs
          have HU6 := Lib.hid u6
          clear hst g1 g2 hiq hq hit hT hT' u1 u4 u6 hkr2 hgr hun hqs hpk hkr
          go_wp2_with fail
          refine HG.out.mono ?_
          rintro e w1 ⟨rfl, hb1⟩
          obtain ⟨W5, hW5⟩ : ∃ W5, w1.alloc (.cells #[.string gr.key, .string gr.val.v, .int .u64 0, .int .u64 (gr.val.lck : Int), .int .u64 (gr.made : Int), .int .u64 (gr.ix : Int)] TEn) = W5 := ⟨_, rfl⟩
          have hb5 : Below wq.heap.size wq W5 := by rw [← hW5]; exact hb1.alloc hb1.size _
          have HC := Lib.hid (krput_any ⟨gr.key, { gr.val with ses := 0 }, gr.made, gr.ix⟩ i W5 ⟨HKr.out.1, A3, c3, HKr.out.2.below hb5⟩ HIx.out (by show gr.key.size ≤ maxLen; rw [HU6.out]; exact HQs.out))
          rw [show putK T (⟨gr.key, { gr.val with ses := 0 }, gr.made, gr.ix⟩ : En).key (⟨gr.key, { gr.val with ses := 0 }, gr.made, gr.ix⟩ : En).val i = (0, unheld i T q) from HPk.out] at HC
          unfold enV Kt.trV at HC
          have HW5 := Lib.hid hW5
          have HB5 := Lib.hid hb5
          clear hW5 hb5 hb1 HG e0
          go_wp2_with fail
          rw [HW5.out]
          refine HC.out.mono ?_
          rintro e w6 ⟨rfl, hk6, hb6⟩
          have hszm := hbm.out.size
          have hk7 : KrAt (fun k => (S k ∧ k < X) ∨ wm.heap.size ≤ k) w6 B ((ks.take (j + 1)).foldl (unheld i) t) := by
            rw [HT'.out]
            obtain ⟨a1, a2, a3, a4⟩ := hk6
            exact ⟨a1, a2, a3, a4.narrow fun k _ z => by
              have := HB5.out.size
              rcases z with z | z
              · exact z
              · exact .inr (by omega)⟩
          have HK7 := Lib.hid hk7
          have HB7 : Hid (But (· = B) wm w6) := Lib.hid (hbm.out.trans ((But.of_below HB5.out).trans hb6))
          clear hk6 hb6 hk7 HC HW5 hszm
          go_wp2
          go_roundw
          case rel => exact ⟨j + 1, by omega, by go_num, HK7, HB7⟩
          case measure => simp [intOf]; omega
        · have hje : ks.take j = ks := List.take_of_length_le (by rw [HN.out]; omega)
          rw [hje] at hkr
          have HS2 := Lib.hid (HSK.out.but hbm.out fun b off e _ z => by have := HGe.out b off e; omega)
          clear hje
          go_wp2
          go_ret
          refine ⟨A2, c2, ?_⟩
          rw [HN.out]
          have hsz := hbm.out.size
          refine ⟨rfl, HS2.out, fun b off e => ⟨by have := HGe.out b off e; have := HX.out; omega, by have := HOw.out b off e; omega⟩, fun k => ((S k ∧ k < X) ∨ wm.heap.size ≤ k) ∧ k < wq.heap.size, ?_, fun k z => ⟨?_, z.2⟩, fun b off e z => ?_, (But.of_below (HX.out ▸ hb.out)).trans hbm.out⟩
          · obtain ⟨a1, a2, a3, a4⟩ := hkr.out
            exact ⟨a1, a2, a3, a4.narrow fun k hk z => ⟨z, hk⟩⟩
          · rcases z.1 with z | z
            · exact .inl z.1
            · exact .inr (by omega)
          · have h1 := HGe.out b off e
            have h2 := HOw.out b off e
            rcases z.1 with z | z
            · omega
            · omega
set_option maxHeartbeats 2000000 in
theorem rsameK_any (A : Option Addr) (n c : Nat) (l : List ByteArray) (A2 : Option Addr) (c2 : Nat) (w : World) (hS : SK kyC 1 w A n l) (hS2 : SK kyC 1 w A2 n l) (hn : n ≤ maxLen) :
    Calls Tryz.prog 29 #[.slice A n c, .slice A2 n c2] w fun e w' => e = .returned (.bool true) ∧ Below w.heap.size w w' := by
  unfold maxLen at hn
  have hm : n ≤ 9223372036854775807 := by omega
  have HL := Lib.hid hS.1
  have HS := Lib.hid hS
  have HS2 := Lib.hid hS2
  have zz2 : (n != n) = false := by simp
  clear hS hS2 hn
  go_enter Tryz.func29, Tryz.ntmps29
  go_wp2
  go_loopw [5] (fun i wr => ∃ k : Nat, k ≤ n ∧ i = .int .i64 (k : Int) ∧ Hid (Below w.heap.size w wr)) (fun i _ => n - (intOf i).toNat)
  case atStart => exact ⟨0, Nat.zero_le _, rfl, Lib.hid (Below.refl _ _)⟩
  case round =>
    obtain ⟨k, hk, rfl, hb⟩ := hrel
    by_cases hlt : k < n
    · have hkl : k < l.length := by have := HL.out; omega
      obtain ⟨b, off, rfl, hbl, hit⟩ := (HS.out.below hb.out).at_ hlt hkl
      obtain ⟨b2, off2, rfl, hbl2, hit2⟩ := (HS2.out.below hb.out).at_ hlt hkl
      obtain ⟨x, hx⟩ : ∃ x, l[k] = x := ⟨_, rfl⟩
      rw [hx] at hit hit2
      have c0 : wr.cell? ⟨b, off + k, none⟩ = some (.string x) := by have := hit 0 _ rfl; simpa using this
      have d0 : wr.cell? ⟨b2, off2 + k, none⟩ = some (.string x) := by have := hit2 0 _ rfl; simpa using this
      have q1 : (k : Int) < (n : Int) := by omega
      have q0 : (0 : Int) ≤ (k : Int) := by omega
      clear hx hit hit2
      go_wp2
      go_quiet (fail)
      go_wp2
      go_roundw
      case rel => exact ⟨k + 1, by omega, by go_num, Lib.hid (below_drewN hb.out nq)⟩
      case measure => simp [intOf]; omega
    · go_wp2
      go_ret
      exact ⟨rfl, hb.out⟩
end Go.Proofs.YtohnkagabpefdaaGreatDoor
