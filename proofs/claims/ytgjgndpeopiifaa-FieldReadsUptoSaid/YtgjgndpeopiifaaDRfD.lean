/-
  The document's Reader: Texts and Nums (layer 4).
-/
import Derived.Test.YtgjgndpeopiifaaDRfC
namespace Go.Proofs.Ytgjgndpeopiifaa
open Go.RowKit
set_option linter.unusedSimpArgs false

theorem RfAt.widen {S : Nat → Prop} {w : World} {B : Nat} {s : St} (h : RfAt S w B s) : RfAt (fun k => S k ∨ w.heap.size ≤ k) w B s := by
  obtain ⟨hB, A, n, c, hh, hr, hm⟩ := h
  refine ⟨.inl hB, A, n, c, hh, ⟨hr.1, fun b off e hn => ?_⟩, hm⟩
  obtain ⟨b', off', e', hlt, _⟩ := hr.1.2 hn
  rw [e] at e'
  simp only [Option.some.injEq, Addr.mk.injEq] at e'
  rintro (h | h)
  · exact hr.2 b off e hn h
  · omega
theorem RfAt.narrow {S S' : Nat → Prop} {w : World} {B : Nat} {s : St} (h : RfAt S' w B s) (hS : ∀ k, S k → S' k) (hB : S B) : RfAt S w B s := by
  obtain ⟨_, A, n, c, hh, hr, hm⟩ := h
  exact ⟨hB, A, n, c, hh, ⟨hr.1, fun b off e hn hs => hr.2 b off e hn (hS b hs)⟩, hm⟩
theorem RfAt.err {S : Nat → Prop} {w : World} {B : Nat} {s : St} (h : RfAt S w B s) : w.cell? ⟨B, 1, none⟩ = some (.int .i64 (s.e : Int)) := by
  obtain ⟨_, A, n, c, hh, _⟩ := h
  exact (RfAt.cells hh).2.1
def ReadsFL (S : Nat → Prop) (B : Nat) (w : World) (vs : List Value) (s : St) (e : Ending) (w' : World) : Prop :=
  ∃ A c, e = .returned (.slice A vs.length c) ∧ RV w' A vs.length vs ∧ (∀ b off, A = some ⟨b, off, none⟩ → 0 < vs.length → w.heap.size ≤ b) ∧ RfAt S w' B s ∧ But (fun k => k = B) w w'

set_option maxHeartbeats 2000000 in
theorem fTexts_any (S : Nat → Prop) (B : Nat) (many : Int) (m : Int) (s : St) (w : World) (h : RfAt S w B s) (hm : many ≤ 9223372036854775807) (hm2 : m ≤ 9223372036854775807) (hcap : many.toNat ≤ 1099511627776 ∨ s.b.length ≤ 1099511627776) :
    Calls Try.prog 40 #[.pointer (some ⟨B, 0, none⟩), .int .i64 many, .int .i64 m] w (ReadsFL S B w (((itText m.toNat).listOut many.toNat s).map strV) ((itText m.toNat).listNext many.toNat s)) := by
  obtain ⟨i0, hi, hz0, hz1, hz2⟩ := info_parts str_info
  have hBlt := h.lt
  have hSB : S B := h.1
  have hW := h.widen
  obtain ⟨S', hS'⟩ : ∃ S' : Nat → Prop, (fun k => S k ∨ w.heap.size ≤ k) = S' := ⟨_, rfl⟩
  have HS1 : Hid (∀ k, S k → S' k) := Lib.hid (by rw [← hS']; exact fun k h => .inl h)
  have HS2 : Hid (∀ k, w.heap.size ≤ k → S' k) := Lib.hid (by rw [← hS']; exact fun k h => .inr h)
  rw [hS'] at hW
  have s1 := fNum_any S' B many.toNat s w hW (by omega)
  have hmlt : many.toNat < 256 ^ 8 := by omega
  obtain ⟨M, hM⟩ : ∃ M, many.toNat = M := ⟨_, rfl⟩
  have hsign : (many < 0 ∧ M = 0) ∨ (∃ k : Nat, many = (k : Int) ∧ M = k ∧ (0 : Int) ≤ (k : Int) ∧ (k : Int) ≤ 9223372036854775807) := by
    by_cases h : many < 0
    · exact .inl ⟨h, by omega⟩
    · exact .inr ⟨many.toNat, by omega, by omega, by omega, by omega⟩
  rw [hM] at s1 hcap hmlt ⊢
  have hNlt := listN_lt hmlt s
  have HCap : Hid (∀ k, k ≤ It.listN M s → ((itText m.toNat).after k ((itNum M).next s)).e = 0 → k ≤ 1099511627776) := Lib.hid fun k h1 h2 => many_le (itText m.toNat) (text_takes m.toNat) hcap h1 h2
  obtain ⟨s1', hs1'⟩ : ∃ x, (itNum M).next s = x := ⟨_, rfl⟩
  obtain ⟨N, hN⟩ : ∃ N, It.listN M s = N := ⟨_, rfl⟩
  have hO : (itNum M).out s = N := hN
  rw [hs1', hO] at s1
  rw [hs1', hN] at HCap
  rw [hN] at hNlt
  have HOut : Hid ((itText m.toNat).listNext M s = (itText m.toNat).after N s1' ∧ (itText m.toNat).listOut M s = if ((itText m.toNat).after N s1').e ≠ 0 then [] else (itText m.toNat).outs N s1') := Lib.hid (by
    have e1 : (itText m.toNat).listNext M s = (itText m.toNat).after N s1' := by rw [It.listNext, hN, hs1']
    exact ⟨e1, by rw [It.listOut, e1, hN, hs1']⟩)
  have hN64 : (N : Int) ≤ 18446744073709551615 := by omega
  have HRes : Hid (∀ e w', ReadsFL S B w ((if ((itText m.toNat).after N s1').e ≠ 0 then [] else (itText m.toNat).outs N s1').map strV) ((itText m.toNat).after N s1') e w' → ReadsFL S B w (((itText m.toNat).listOut M s).map strV) ((itText m.toNat).listNext M s) e w') := Lib.hid (fun e w' h => by rw [HOut.out.1, HOut.out.2]; exact h)
  have HCall : Hid (∀ (wr : World) (st : St), RfAt S' wr B st → Calls Try.prog 38 #[.pointer (some ⟨B, 0, none⟩), .int .i64 m] wr (ReadsF S' B wr (strV ((itText m.toNat).out st)) ((itText m.toNat).next st))) := Lib.hid (fun wr st h => fText_any S' B m st wr h hm2)
  have S1 := Lib.hid s1
  have HSB := Lib.hid hSB
  clear h hW hS' s1 hcap hM hs1' hN hO hSB hmlt hNlt hm hm2
  rcases hsign with ⟨qs, rfl⟩ | ⟨m0, rfl, rfl, qs, qm⟩
  all_goals
    go_enter Try.func40, Try.ntmps40
    go_wp2_with fail
    refine S1.out.mono ?_
    rintro e w1 ⟨rfl, hr1, hb1⟩
    have HR1 := Lib.hid hr1
    have HB1 := Lib.hid hb1
    clear hr1 hb1
    unfold u64V
    go_wp2
    go_loopw [8, 9] (fun lv cv wr => ∃ k : Nat, k ≤ N ∧ cv = .int .u64 (k : Int) ∧ Hid (wr.ownsRow w.heap.size 9 1 lv k (((itText m.toNat).outs k s1').map strV)) ∧ Hid (RfAt S' wr B ((itText m.toNat).after k s1')) ∧ Hid (But (fun k => k = B) w wr)) (fun _ cv _ => N - (intOf cv).toNat)
    case atStart => exact ⟨0, Nat.zero_le _, rfl, Lib.hid (World.ownsRow_nil _ _ _ _), HR1, HB1⟩
    case round =>
      obtain ⟨k, hk, rfl, hown, hrd, hbut⟩ := hrel
      have hsz := hbut.out.size
      have hce := hrd.out.err
      obtain ⟨se, hse⟩ : ∃ x, (itText m.toNat).after k s1' = x := ⟨_, rfl⟩
      rw [hse] at hce hrd
      by_cases hE : se.e = 0
      · rw [hE] at hce
        by_cases hlt : k < N
        · have s2 := HCall.out wr _ hrd.out
          have HA : Hid ((itText m.toNat).after (k + 1) s1' = (itText m.toNat).next se ∧ (itText m.toNat).outs (k + 1) s1' = (itText m.toNat).outs k s1' ++ [(itText m.toNat).out se]) := Lib.hid ⟨by rw [(itText m.toNat).after_succ k s1', hse], by rw [(itText m.toNat).outs_succ k s1', hse]⟩
          have hk1 := HCap.out k hk (by rw [hse]; exact hE)
          obtain ⟨x, hx⟩ : ∃ x, (itText m.toNat).out se = x := ⟨_, rfl⟩
          obtain ⟨st, hst⟩ : ∃ st, (itText m.toNat).next se = st := ⟨_, rfl⟩
          rw [hx, hst] at s2 HA
          have S2 := Lib.hid s2
          have HSE := Lib.hid hse
          clear s2 hx hst hse hE
          go_wp2_with fail
          refine S2.out.mono ?_
          rintro e w2 ⟨rfl, hr2, hb2⟩
          have HR2 := Lib.hid hr2
          have HO2 : Hid (w2.ownsRow w.heap.size 9 1 u8 k (((itText m.toNat).outs k s1').map strV)) := Lib.hid (own_but hown.out hb2 (fun j hj e => by have := (hown.out.lt j hj).1; omega))
          have HB2 := Lib.hid (hbut.out.trans hb2)
          have hs2 := hb2.size
          clear hr2 hb2
          unfold strV
          obtain ⟨bs, hbs⟩ : ∃ bs : ByteArray, (⟨x.toArray⟩ : ByteArray) = bs := ⟨_, rfl⟩
          rw [hbs]
          have HST := Lib.hid hbs
          clear hbs
          go_wp2_with (at_builtin; refine wpList_append_val rfl (.tmp 28) (.tmp 32) 24 rfl w.heap.size 9 i0 (.string ⟨#[]⟩) 16 Try.underlying24 hi hz0 hz1 hz2 rfl u8 k (((itText m.toNat).outs k s1').map strV) rfl w2 (.string bs) rfl rfl HO2.out rfl ?c1 ?c2 ?c3 ?_)
          case c1 => omega
          case c2 => omega
          case c3 => omega
          refine Lib.hid ?_
          intro v4 w4 hown4 hb4
          have HO4 : Hid (w4.ownsRow w.heap.size 9 1 v4 (k + 1) (((itText m.toNat).outs (k + 1) s1').map strV)) := Lib.hid (by
            rw [HA.out.2, List.map_append]
            simpa [strV, HST.out] using hown4)
          have HR4 : Hid (RfAt S' w4 B ((itText m.toNat).after (k + 1) s1')) := Lib.hid (by
            rw [HA.out.1]
            exact HR2.out.but (S' := fun k => w.heap.size ≤ k) ⟨hb4.os, hb4.tape, hb4.output, hb4.size, fun j _ hj => hb4.block j (by omega)⟩ HS2.out (by omega))
          have HB4 := Lib.hid (HB2.out.then_below hb4)
          clear hown4 hb4
          go_wp2
          go_roundw
          case rel => exact ⟨k + 1, by omega, by go_num, HO4, HR4, HB4⟩
          case measure => simp [intOf]; omega
        · obtain rfl : k = N := by omega
          obtain ⟨A2, c2, rfl, hrv, _, _, _⟩ := RV.own hown.out
          have HRV := Lib.hid hrv
          have HBlk : Hid (∀ b off, A2 = some ⟨b, off, none⟩ → w.heap.size ≤ b) := Lib.hid (fun b off e => (hown.out.lt b (by rw [e]; rfl)).1)
          have HF : Hid ((if ((itText m.toNat).after k s1').e ≠ 0 then [] else (itText m.toNat).outs k s1') = (itText m.toNat).outs k s1' ∧ ((itText m.toNat).outs k s1').length = k) := Lib.hid (by
            refine ⟨?_, (itText m.toNat).outs_length k s1'⟩
            rw [hse, if_neg (by simp [hE])])
          have HSE := Lib.hid hse
          clear hrv hse hE
          go_wp2
          go_ret
          refine HRes.out _ _ ?_
          rw [HF.out.1]
          have hlen : (((itText m.toNat).outs k s1').map strV).length = k := by rw [List.length_map, HF.out.2]
          exact ⟨A2, c2, by rw [hlen]; rfl, by rw [hlen]; exact HRV.out, (fun b off e _ => HBlk.out b off e), by rw [HSE.out]; exact hrd.out.narrow HS1.out HSB.out, hbut.out⟩
      · have q1 : (((se.e : Nat) : Int) != 0) = true := by rw [bne_iff_ne]; omega
        have q2 : (((se.e : Nat) : Int) == 0) = false := by rw [beq_eq_false_iff_ne]; omega
        have HN : Hid ((itText m.toNat).after N s1' = se ∧ ((itText m.toNat).after N s1').e ≠ 0) := Lib.hid (by
          have h1 := (itText m.toNat).after_stuck (n := N) (s := s1') (k := k) hk (by rw [hse]; exact hE)
          rw [h1, hse]
          exact ⟨rfl, hE⟩)
        obtain ⟨E, hEE⟩ : ∃ E, se.e = E := ⟨_, rfl⟩
        rw [hEE] at hce q1 q2
        clear hE hEE hse
        by_cases hlt : k < N
        all_goals
          go_wp2
          go_ret
          refine HRes.out _ _ ?_
          rw [if_pos HN.out.2, HN.out.1]
          exact ⟨none, 0, rfl, RV.zero _ _, (fun b off e h0 => absurd h0 (by simp)), hrd.out.narrow HS1.out HSB.out, hbut.out⟩

set_option maxHeartbeats 2000000 in
theorem fNums_any (S : Nat → Prop) (B : Nat) (many : Int) (m : Nat) (s : St) (w : World) (h : RfAt S w B s) (hm : many ≤ 9223372036854775807) (hm2 : m < 256 ^ 8) (hcap : many.toNat ≤ 1099511627776 ∨ s.b.length ≤ 1099511627776) :
    Calls Try.prog 41 #[.pointer (some ⟨B, 0, none⟩), .int .i64 many, .int .u64 (m : Int)] w (ReadsFL S B w (((itNum m).listOut many.toNat s).map u64V) ((itNum m).listNext many.toNat s)) := by
  obtain ⟨i0, hi, hz0, hz1, hz2⟩ := info_parts u64_info
  have hBlt := h.lt
  have hSB : S B := h.1
  have hW := h.widen
  obtain ⟨S', hS'⟩ : ∃ S' : Nat → Prop, (fun k => S k ∨ w.heap.size ≤ k) = S' := ⟨_, rfl⟩
  have HS1 : Hid (∀ k, S k → S' k) := Lib.hid (by rw [← hS']; exact fun k h => .inl h)
  have HS2 : Hid (∀ k, w.heap.size ≤ k → S' k) := Lib.hid (by rw [← hS']; exact fun k h => .inr h)
  rw [hS'] at hW
  have s1 := fNum_any S' B many.toNat s w hW (by omega)
  have hmlt : many.toNat < 256 ^ 8 := by omega
  obtain ⟨M, hM⟩ : ∃ M, many.toNat = M := ⟨_, rfl⟩
  have hsign : (many < 0 ∧ M = 0) ∨ (∃ k : Nat, many = (k : Int) ∧ M = k ∧ (0 : Int) ≤ (k : Int) ∧ (k : Int) ≤ 9223372036854775807) := by
    by_cases h : many < 0
    · exact .inl ⟨h, by omega⟩
    · exact .inr ⟨many.toNat, by omega, by omega, by omega, by omega⟩
  rw [hM] at s1 hcap hmlt ⊢
  have hNlt := listN_lt hmlt s
  have HCap : Hid (∀ k, k ≤ It.listN M s → ((itNum m).after k ((itNum M).next s)).e = 0 → k ≤ 1099511627776) := Lib.hid fun k h1 h2 => many_le (itNum m) (num_takes m) hcap h1 h2
  obtain ⟨s1', hs1'⟩ : ∃ x, (itNum M).next s = x := ⟨_, rfl⟩
  obtain ⟨N, hN⟩ : ∃ N, It.listN M s = N := ⟨_, rfl⟩
  have hO : (itNum M).out s = N := hN
  rw [hs1', hO] at s1
  rw [hs1', hN] at HCap
  rw [hN] at hNlt
  have HOut : Hid ((itNum m).listNext M s = (itNum m).after N s1' ∧ (itNum m).listOut M s = if ((itNum m).after N s1').e ≠ 0 then [] else (itNum m).outs N s1') := Lib.hid (by
    have e1 : (itNum m).listNext M s = (itNum m).after N s1' := by rw [It.listNext, hN, hs1']
    exact ⟨e1, by rw [It.listOut, e1, hN, hs1']⟩)
  have hN64 : (N : Int) ≤ 18446744073709551615 := by omega
  have HRes : Hid (∀ e w', ReadsFL S B w ((if ((itNum m).after N s1').e ≠ 0 then [] else (itNum m).outs N s1').map u64V) ((itNum m).after N s1') e w' → ReadsFL S B w (((itNum m).listOut M s).map u64V) ((itNum m).listNext M s) e w') := Lib.hid (fun e w' h => by rw [HOut.out.1, HOut.out.2]; exact h)
  have HCall : Hid (∀ (wr : World) (st : St), RfAt S' wr B st → Calls Try.prog 37 #[.pointer (some ⟨B, 0, none⟩), .int .u64 (m : Int)] wr (ReadsF S' B wr (u64V ((itNum m).out st)) ((itNum m).next st))) := Lib.hid (fun wr st h => fNum_any S' B m st wr h hm2)
  have S1 := Lib.hid s1
  have HSB := Lib.hid hSB
  clear h hW hS' s1 hcap hM hs1' hN hO hSB hmlt hNlt hm hm2
  rcases hsign with ⟨qs, rfl⟩ | ⟨m0, rfl, rfl, qs, qm⟩
  all_goals
    go_enter Try.func41, Try.ntmps41
    go_wp2_with fail
    refine S1.out.mono ?_
    rintro e w1 ⟨rfl, hr1, hb1⟩
    have HR1 := Lib.hid hr1
    have HB1 := Lib.hid hb1
    clear hr1 hb1
    unfold u64V
    go_wp2
    go_loopw [8, 9] (fun lv cv wr => ∃ k : Nat, k ≤ N ∧ cv = .int .u64 (k : Int) ∧ Hid (wr.ownsRow w.heap.size 23 1 lv k (((itNum m).outs k s1').map u64V)) ∧ Hid (RfAt S' wr B ((itNum m).after k s1')) ∧ Hid (But (fun k => k = B) w wr)) (fun _ cv _ => N - (intOf cv).toNat)
    case atStart => exact ⟨0, Nat.zero_le _, rfl, Lib.hid (World.ownsRow_nil _ _ _ _), HR1, HB1⟩
    case round =>
      obtain ⟨k, hk, rfl, hown, hrd, hbut⟩ := hrel
      have hsz := hbut.out.size
      have hce := hrd.out.err
      obtain ⟨se, hse⟩ : ∃ x, (itNum m).after k s1' = x := ⟨_, rfl⟩
      rw [hse] at hce hrd
      by_cases hE : se.e = 0
      · rw [hE] at hce
        by_cases hlt : k < N
        · have s2 := HCall.out wr _ hrd.out
          have HA : Hid ((itNum m).after (k + 1) s1' = (itNum m).next se ∧ (itNum m).outs (k + 1) s1' = (itNum m).outs k s1' ++ [(itNum m).out se]) := Lib.hid ⟨by rw [(itNum m).after_succ k s1', hse], by rw [(itNum m).outs_succ k s1', hse]⟩
          have hk1 := HCap.out k hk (by rw [hse]; exact hE)
          obtain ⟨x, hx⟩ : ∃ x, (itNum m).out se = x := ⟨_, rfl⟩
          obtain ⟨st, hst⟩ : ∃ st, (itNum m).next se = st := ⟨_, rfl⟩
          rw [hx, hst] at s2 HA
          have S2 := Lib.hid s2
          have HSE := Lib.hid hse
          clear s2 hx hst hse hE
          go_wp2_with fail
          refine S2.out.mono ?_
          rintro e w2 ⟨rfl, hr2, hb2⟩
          have HR2 := Lib.hid hr2
          have HO2 : Hid (w2.ownsRow w.heap.size 23 1 u8 k (((itNum m).outs k s1').map u64V)) := Lib.hid (own_but hown.out hb2 (fun j hj e => by have := (hown.out.lt j hj).1; omega))
          have HB2 := Lib.hid (hbut.out.trans hb2)
          have hs2 := hb2.size
          clear hr2 hb2
          unfold u64V
          go_wp2_with (at_builtin; refine wpList_append_val rfl (.tmp 28) (.tmp 32) 25 rfl w.heap.size 23 i0 (.int .u64 0) 8 Try.underlying25 hi hz0 hz1 hz2 rfl u8 k (((itNum m).outs k s1').map u64V) rfl w2 (.int .u64 (x : Int)) rfl rfl HO2.out rfl ?c1 ?c2 ?c3 ?_)
          case c1 => omega
          case c2 => omega
          case c3 => omega
          refine Lib.hid ?_
          intro v4 w4 hown4 hb4
          have HO4 : Hid (w4.ownsRow w.heap.size 23 1 v4 (k + 1) (((itNum m).outs (k + 1) s1').map u64V)) := Lib.hid (by
            rw [HA.out.2, List.map_append]
            simpa [u64V] using hown4)
          have HR4 : Hid (RfAt S' w4 B ((itNum m).after (k + 1) s1')) := Lib.hid (by
            rw [HA.out.1]
            exact HR2.out.but (S' := fun k => w.heap.size ≤ k) ⟨hb4.os, hb4.tape, hb4.output, hb4.size, fun j _ hj => hb4.block j (by omega)⟩ HS2.out (by omega))
          have HB4 := Lib.hid (HB2.out.then_below hb4)
          clear hown4 hb4
          go_wp2
          go_roundw
          case rel => exact ⟨k + 1, by omega, by go_num, HO4, HR4, HB4⟩
          case measure => simp [intOf]; omega
        · obtain rfl : k = N := by omega
          obtain ⟨A2, c2, rfl, hrv, _, _, _⟩ := RV.own hown.out
          have HRV := Lib.hid hrv
          have HBlk : Hid (∀ b off, A2 = some ⟨b, off, none⟩ → w.heap.size ≤ b) := Lib.hid (fun b off e => (hown.out.lt b (by rw [e]; rfl)).1)
          have HF : Hid ((if ((itNum m).after k s1').e ≠ 0 then [] else (itNum m).outs k s1') = (itNum m).outs k s1' ∧ ((itNum m).outs k s1').length = k) := Lib.hid (by
            refine ⟨?_, (itNum m).outs_length k s1'⟩
            rw [hse, if_neg (by simp [hE])])
          have HSE := Lib.hid hse
          clear hrv hse hE
          go_wp2
          go_ret
          refine HRes.out _ _ ?_
          rw [HF.out.1]
          have hlen : (((itNum m).outs k s1').map u64V).length = k := by rw [List.length_map, HF.out.2]
          exact ⟨A2, c2, by rw [hlen]; rfl, by rw [hlen]; exact HRV.out, (fun b off e _ => HBlk.out b off e), by rw [HSE.out]; exact hrd.out.narrow HS1.out HSB.out, hbut.out⟩
      · have q1 : (((se.e : Nat) : Int) != 0) = true := by rw [bne_iff_ne]; omega
        have q2 : (((se.e : Nat) : Int) == 0) = false := by rw [beq_eq_false_iff_ne]; omega
        have HN : Hid ((itNum m).after N s1' = se ∧ ((itNum m).after N s1').e ≠ 0) := Lib.hid (by
          have h1 := (itNum m).after_stuck (n := N) (s := s1') (k := k) hk (by rw [hse]; exact hE)
          rw [h1, hse]
          exact ⟨rfl, hE⟩)
        obtain ⟨E, hEE⟩ : ∃ E, se.e = E := ⟨_, rfl⟩
        rw [hEE] at hce q1 q2
        clear hE hEE hse
        by_cases hlt : k < N
        all_goals
          go_wp2
          go_ret
          refine HRes.out _ _ ?_
          rw [if_pos HN.out.2, HN.out.1]
          exact ⟨none, 0, rfl, RV.zero _ _, (fun b off e h0 => absurd h0 (by simp)), hrd.out.narrow HS1.out HSB.out, hbut.out⟩
end Go.Proofs.Ytgjgndpeopiifaa
