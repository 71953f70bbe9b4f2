/-
  The document's answers for layer 3, walked: Error, Bytes.
-/
import Derived.Test.YtkbllhpjfgeaaaaFWalkG
namespace Go.Proofs.Ytkbllhpjfgeaaaa
open Go.RowKit
set_option linter.unusedSimpArgs false

set_option maxHeartbeats 400000 in
theorem rerr_any (f : Fr) (A : Option Addr) (c : Nat) (w : World) : Calls Try.prog 13 #[frV f A c] w fun e w' => e = .returned (.int .i64 (errF f : Int)) ∧ Below w.heap.size w w' := by
  obtain ⟨n, hn⟩ : ∃ n, f.b.length = n := ⟨_, rfl⟩
  unfold frV
  rw [hn]
  by_cases h0 : f.k = 0
  · have HE : Hid (errF f = 2) := Lib.hid (by unfold errF; rw [if_pos h0])
    rw [h0]
    clear hn h0
    go_enter Try.func13, Try.ntmps13
    go_wp2
    go_ret
    exact ⟨by rw [HE.out]; rfl, (Below.refl _ _).alloc (Nat.le_refl _) _⟩
  · have e0 : ((f.k.toNat : Int) == 0) = false := by
      rw [beq_eq_false_iff_ne]
      intro e
      exact h0 (UInt8.toNat_inj.1 (by show f.k.toNat = 0; omega))
    by_cases h1 : 1000 < n
    · have HE : Hid (errF f = 3) := Lib.hid (by unfold errF; rw [if_neg h0, if_pos (by omega)])
      have h1' : (1000 : Int) < (n : Int) := by omega
      clear hn h0 h1
      go_enter Try.func13, Try.ntmps13
      go_wp2
      go_ret
      exact ⟨by rw [HE.out]; rfl, (Below.refl _ _).alloc (Nat.le_refl _) _⟩
    · have HE : Hid (errF f = 0) := Lib.hid (by unfold errF; rw [if_neg h0, if_neg (by omega)])
      have h1' : (n : Int) ≤ 1000 := by omega
      clear hn h0 h1
      go_enter Try.func13, Try.ntmps13
      go_wp2
      go_ret
      exact ⟨by rw [HE.out]; rfl, (Below.refl _ _).alloc (Nat.le_refl _) _⟩

set_option maxHeartbeats 1000000 in
theorem rbytes_any (f : Fr) (A : Option Addr) (c : Nat) (w : World) (hf : BodyAt w A c f.b) (hfl : f.b.length ≤ 1000) : Calls Try.prog 15 #[frV f A c] w fun e w' => BGives w (encF f) e w' := by
  obtain ⟨i0, hi, hz0, hz1, hz2⟩ := info_parts u8_info
  obtain ⟨n, hn⟩ : ∃ n, f.b.length = n := ⟨_, rfl⟩
  unfold frV
  rw [hn] at hfl ⊢
  have HF := Lib.hid hf
  have HN := Lib.hid hn
  clear hf hn
  obtain ⟨W1, hW1⟩ : ∃ W1, w.alloc (.cells #[.int .u8 (f.k.toNat : Int), .slice A n c] 24) = W1 := ⟨_, rfl⟩
  have hb1 : Below w.heap.size w W1 := by rw [← hW1]; exact (Below.refl _ w).alloc (Nat.le_refl _) _
  have hs1 : W1.heap.size = w.heap.size + 1 := by rw [← hW1]; simp
  obtain ⟨c0, c1, _, _⟩ := box2 (Below.refl (w.heap.size + 1) (w.alloc (.cells #[.int .u8 (f.k.toNat : Int), .slice A n c] 24)))
  rw [hW1] at c0 c1
  have hv3 : [Value.int .u8 (f.k.toNat : Int), .int .u8 ((n : Int) / 256), .int .u8 ((n : Int) % 256)] = (head3 f).map byteV := by
    have h1 := (head_vals hfl).1
    have h2 := (head_vals hfl).2
    rw [h1, h2, ← HN.out]
    rfl
  have hown : BOwn W1 W1.heap.size (.slice (some ⟨W1.heap.size, 0, none⟩) 3 3) (head3 f ++ f.b.take 0) (W1.alloc (.cells #[.int .u8 (f.k.toNat : Int), .int .u8 ((n : Int) / 256), .int .u8 ((n : Int) % 256)] 5)) := by
    refine ⟨?_, (Below.refl _ _).alloc (Nat.le_refl _) _, Nat.le_refl _⟩
    rw [List.take_zero, List.append_nil, ← hv3]
    exact ⟨by simp [head3], .inr ⟨W1.heap.size, 3, _, rfl, Nat.le_refl _, heap_alloc_new W1 _, Nat.le_refl _, by unfold maxLen; omega, by simp, by simp [head3]⟩⟩
  rw [hs1] at hown
  have HOwn := Lib.hid hown
  have HB1 := Lib.hid hb1
  have HS1 := Lib.hid hs1
  have HC0 := Lib.hid c0
  have HC1 := Lib.hid c1
  have HW1 := Lib.hid hW1
  clear hown hb1 hs1 hv3 c0 c1 hW1
  go_enter Try.func15, Try.ntmps15
  go_wp2
  rw [HW1.out]
  go_loopw [3, 4] (fun v i wr => ∃ k : Nat, k ≤ n ∧ i = .int .i64 k ∧ BOwn W1 (w.heap.size + 1) v (head3 f ++ f.b.take k) wr) (fun _ i _ => n - (intOf i).toNat)
  case atStart => exact ⟨0, Nat.zero_le _, rfl, HOwn.out⟩
  case round =>
    obtain ⟨k, hk, rfl, ho⟩ := hrel
    have hszw := ho.2.1.size
    have d1 : wr.cell? ⟨w.heap.size, 1, none⟩ = some (.slice A n c) := (ho.2.1.cell (p := ⟨w.heap.size, 1, none⟩) (by show w.heap.size < _; rw [HS1.out]; omega)).trans HC1.out
    have hbwr : Below w.heap.size w wr := HB1.out.trans (ho.2.1.mono HB1.out.size)
    have HO := Lib.hid ho
    have hlb := HN.out
    by_cases hlt : k < n
    · have q : k < f.b.length := by omega
      have hbody := (HF.out.below hbwr).1
      rw [hlb] at hbody
      obtain ⟨b, off, rfl, hbw, hc⟩ := hbody.2 (by omega)
      have hcell := hc k q
      have HT : Hid (head3 f ++ f.b.take (k + 1) = head3 f ++ f.b.take k ++ [f.b[k]]) := Lib.hid (by rw [List.take_succ_eq_append_getElem q, List.append_assoc])
      have hlk : (f.b.take k).length = k := by rw [List.length_take]; omega
      have hl3 : (head3 f).length = 3 := rfl
      obtain ⟨P, hP⟩ : ∃ P, head3 f ++ f.b.take k = P := ⟨_, rfl⟩
      have hPl : P.length = 3 + k := by rw [← hP, List.length_append, hlk, hl3]
      rw [hP] at HT ho
      have HO2 := Lib.hid ho
      have HPL := Lib.hid hPl
      obtain ⟨y, hy⟩ : ∃ y : UInt8, f.b[k] = y := ⟨_, rfl⟩
      rw [hy] at hcell HT
      clear hc ho HO hP hlk hl3 hbody hbwr hy hPl hlb
      go_wp2_with (at_builtin; refine wpList_append_own _ rfl (.tmp 25) (.tmp 31) 22 rfl (w.heap.size + 1) 5 i0 (.int .u8 0) 1 1 Try.underlying22 hi hz0 hz1 hz2 rfl (by decide) _ P.length (P.map byteV) rfl (HO2.out.1.alloc _) ⟨_, 0, none⟩ 1 1 [byteV y] rfl rfl ?c1 ?c2 ?c3 ?c4 ?c5 ?_)
      case c1 =>
        intro j u hj
        match j, hj with
        | 0, hj => simp at hj; subst hj; simp [Addr.add, byteV]
      case c2 => intro u hu; simp at hu; subst hu; rfl
      case c3 => have := HPL.out; unfold maxLen; omega
      case c4 => have := HPL.out; omega
      case c5 => have := HS1.out; simp; omega
      intro v2 w2 hown2 hg2 _
      have HO3 := Lib.hid (show BOwn W1 (w.heap.size + 1) v2 (head3 f ++ f.b.take (k + 1)) w2 from HT.out ▸ bown_one HO2.out hown2 hg2)
      clear hown2 hg2
      go_wp2
      go_roundw
      case rel => exact ⟨k + 1, by omega, by go_num, HO3.out⟩
      case measure => simp [intOf]; omega
    · obtain rfl : k = n := by omega
      have e : f.b.take k = f.b := List.take_of_length_le (by omega)
      rw [e, head3_app] at ho
      obtain ⟨A3, c3, rfl, hr3, _, _, _⟩ := RB.own ho.1
      have hl3 : (headF f).length = k + 3 := by rw [headF_length, hlb]
      have cs := rsealed_any A3 (headF f).length c3 (headF f) wr hr3 (by omega)
      have HE : Hid (sealB (headF f) = encF f) := Lib.hid rfl
      rw [HE.out] at cs
      have HBW := Lib.hid hbwr
      clear ho HO e hr3 hbwr hlb
      rw [hl3] at cs ⊢
      clear hl3
      go_wp2_with fail
      refine cs.mono ?_
      rintro e w3 ⟨A4, c4, rfl, r4, n4, l4, m4, hb4⟩
      have HG : Hid (BGives w (encF f) (.returned (.slice A4 (encF f).length c4)) w3) := Lib.hid ⟨A4, c4, rfl, r4, n4, l4, m4, HBW.out.trans (hb4.mono HBW.out.size)⟩
      clear r4 n4 l4 m4 hb4 cs
      go_wp2
      go_ret
      exact HG.out
end Go.Proofs.Ytkbllhpjfgeaaaa
