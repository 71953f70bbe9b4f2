/-
  Of frames, one behind the other, torn off anywhere, just the whole ones are told: the law sodalitylaw03.FrameTorn over the contracts.
-/
import Derived.Test.YtkbllhpjfgeaaaaFRefA
namespace Go.Proofs.Ytkbllhpjfgeaaaa
open Go.RowKit
set_option linter.unusedSimpArgs false

def endsV (gs : List Fr) : List Value := (List.range gs.length).map fun j => .int .i64 ((placeOf gs (j + 1) : Nat) : Int)
theorem placeOf_app (gs : List Fr) (f : Fr) {j : Nat} (h : j ≤ gs.length) : placeOf (gs ++ [f]) j = placeOf gs j := by
  rw [placeOf, placeOf, List.take_append_of_le_length h]
theorem endsV_snoc (gs : List Fr) (f : Fr) : endsV (gs ++ [f]) = endsV gs ++ [.int .i64 (((encs (gs ++ [f])).length : Nat) : Int)] := by
  rw [endsV, List.length_append, List.length_cons, List.length_nil, List.range_succ, List.map_append]
  congr 1
  · apply List.map_congr_left
    intro j hj
    have := List.mem_range.1 hj
    rw [placeOf_app gs f (by omega)]
  · have e : placeOf (gs ++ [f]) (gs.length + 1) = (encs (gs ++ [f])).length := by
      have := placeOf_all (gs ++ [f])
      rwa [List.length_append, List.length_cons, List.length_nil] at this
    simp [e]
theorem IntRow.at_ {w : World} {base : Nat} {v : Value} {gs : List Fr} (h : w.ownsRow base 3 1 v gs.length (endsV gs)) : ∃ A c, v = .slice A gs.length c ∧ gs.length ≤ c ∧ (0 < gs.length → ∃ b, A = some ⟨b, 0, none⟩ ∧ ∀ j, j < gs.length → w.cell? ⟨b, j, none⟩ = some (.int .i64 ((placeOf gs (j + 1) : Nat) : Int))) := by
  rcases h.2 with ⟨rfl, h0⟩ | ⟨g, cap, cur, rfl, _, hh, hle, hm, hsz, ht⟩
  · have : gs.length = 0 := by simpa [endsV] using h0
    rw [this]
    exact ⟨none, 0, rfl, Nat.le_refl _, fun h => absurd h (by omega)⟩
  · refine ⟨some ⟨g, 0, none⟩, cap, rfl, hle, fun _ => ⟨g, rfl, fun j hj => ?_⟩⟩
    have c0 := h.cells (g := g) rfl j (.int .i64 ((placeOf gs (j + 1) : Nat) : Int)) (by simp [endsV, hj])
    have pa : ∀ k, (⟨g, 0, none⟩ : Addr).add k = ⟨g, 0 + k, none⟩ := fun k => by unfold Addr.add; split <;> simp_all
    rw [pa, Nat.zero_add] at c0
    exact c0
theorem row_not_u8' {W : World} {base : Nat} {v : Value} {k : Nat} {xs : List Value} (h : W.ownsRow base 3 1 v k xs) : ∀ r, v.ownBlock = some r → ∀ cur, W.heap[r]? ≠ some (.cells cur 5 (0, 0)) := fun r e cur hc => by
  rcases h.2 with ⟨rfl, _⟩ | ⟨g, cap, cur', rfl, _, hh, _⟩
  · cases e
  · have : g = r := by simpa [Value.ownBlock] using e
    subst this
    rw [hh] at hc
    simp at hc
theorem encs_len_le {gs : List Fr} (h : ∀ f ∈ gs, okF f) : (encs gs).length ≤ 1007 * gs.length := by
  induction gs with
  | nil => simp [encs]
  | cons g gs ih =>
    have h1 := (h g (by simp)).2
    have h2 := ih (fun f hf => h f (by simp [hf]))
    rw [encs_cons, List.length_append, encF_length, List.length_cons]
    omega

set_option maxHeartbeats 4000000 in
set_option maxRecDepth 100000 in
theorem torn_walk (A : Option Addr) (n c : Nat) (fs : List Fr) (ck : Nat) (w : World) (hR : RFs w A n fs) (hn : n ≤ 4398046511104) (hck : ck < 65536) :
    Calls Try.prog 9 #[.slice A n c, .int .u16 (ck : Int)] w fun e w' => e = .returned (.bool true) ∧ Below w.heap.size w w' := by
  obtain ⟨j0, hj, hy0, hy1, hy2⟩ := info_parts int_info
  have HR := Lib.hid hR
  have HL := Lib.hid hR.1
  obtain ⟨g0, hg0⟩ : ∃ g, w.heap.size = g := ⟨_, rfl⟩
  have HG0 := Lib.hid hg0
  clear hR hg0
  go_enter Try.func9, Try.ntmps9
  go_wp2
  go_loopw [5, 6, 7] (fun vb ve i wr => ∃ (q : Nat) (gs : List Fr) (Bv : Option Addr) (d : Nat), q ≤ n ∧ q ≤ 12 ∧ i = .int .i64 q ∧ vb = .slice Bv (encs gs).length d ∧ gs.length ≤ q ∧ (encs gs).length ≤ d ∧ Hid (∀ f ∈ gs, okF f) ∧ Hid ((RB wr Bv (encs gs).length (encs gs) ∧ TyB wr Bv (encs gs).length) ∧ (Bv = none → d = 0)) ∧ Hid (wr.ownsRow g0 3 1 ve gs.length (endsV gs)) ∧ Hid (Below g0 w wr))
    (fun _ _ i _ => n - (intOf i).toNat)
  case atStart => exact ⟨0, [], none, 0, Nat.zero_le _, by omega, rfl, rfl, Nat.le_refl _, Nat.le_refl _, Lib.hid (by simp), Lib.hid ⟨⟨RB.zero _ _, fun h => absurd h (by simp [encs])⟩, fun _ => rfl⟩, Lib.hid (World.ownsRow_nil _ _ _ _), Lib.hid (Below.refl _ _)⟩
  case round =>
    obtain ⟨q, gs, Bv, d, hq, hq12, rfl, rfl, hgl, hLd, hok, hRB, hown, hbw⟩ := hrel
    have hL12 := encs_len_le hok.out
    obtain ⟨L, hL⟩ : ∃ L, (encs gs).length = L := ⟨_, rfl⟩
    rw [hL] at hRB hLd hL12 ⊢
    have HLL := Lib.hid hL
    have hgw : g0 ≤ wr.heap.size := by have := hbw.out.size; have := HG0.out; omega
    obtain ⟨Av, cv, rfl, hcv, hcells⟩ := IntRow.at_ hown.out
    obtain ⟨G, hG⟩ : ∃ G, gs.length = G := ⟨_, rfl⟩
    rw [hG] at hown hcv hcells hgl hL12 ⊢
    have HGG := Lib.hid hG
    have HCells := Lib.hid hcells
    clear hL hG hcells
    by_cases hlt : q < n ∧ q < 12
    · obtain ⟨hl1, hl2⟩ := hlt
      have hkl : q < fs.length := by rw [HL.out]; exact hl1
      obtain ⟨b, off, rfl, hb, hat⟩ := HR.out.2 (by omega)
      obtain ⟨f, hf⟩ : ∃ f, fs[q] = f := ⟨_, rfl⟩
      have hfr := (hat q hkl).below (by rw [HG0.out]; exact hbw.out)
      rw [hf] at hfr
      obtain ⟨_, c0, A1, cA, c1, hbody⟩ := hfr
      have s1 := put_anyT Bv L d (encs gs) f A1 cA wr hRB.out.1.1 hLd hRB.out.2 hbody (by omega)
      unfold frV at s1
      have g1 : (0 : Int) ≤ (q : Int) := by omega
      have S1 := Lib.hid s1
      clear hat hf hbody s1
      go_wp2_with fail
      refine S1.out.mono ?_
      rintro e w2 ⟨hb2, hp⟩
      have HB2 : Hid (Below g0 w w2) := Lib.hid (hbw.out.trans (hb2.mono hgw))
      have HO2 : Hid (w2.ownsRow g0 3 1 (.slice Av G cv) G (endsV gs)) := Lib.hid (bown_keep hown.out hb2)
      have hg2 : g0 ≤ w2.heap.size := by have := hb2.size; omega
      have HRB2 : Hid ((RB w2 Bv L (encs gs) ∧ TyB w2 Bv L) ∧ (Bv = none → d = 0)) := Lib.hid ⟨⟨hRB.out.1.1.below hb2, hRB.out.1.2.grown (row := none) ⟨hb2.os, hb2.tape, hb2.output, hb2.size, fun k hk _ => hb2.block k hk⟩ (fun r e => by cases e)⟩, hRB.out.2⟩
      clear hb2 c0 c1
      rcases hp with ⟨hne, rfl⟩ | ⟨he0, A2, c2, rfl, hr2, hn2, hc2, hty⟩
      · obtain ⟨E, hE⟩ : ∃ E, errF f = E := ⟨_, rfl⟩
        rw [hE] at hne ⊢
        have e0 : ((E : Int) == 0) = false := by rw [beq_eq_false_iff_ne]; omega
        clear hE hne
        go_wp2
        go_roundw
        case rel => exact ⟨q + 1, gs, Bv, d, by omega, by omega, by go_num, by rw [HLL.out], by rw [HGG.out]; omega, by rw [HLL.out]; exact hLd, hok, by rw [HLL.out]; exact HRB2, by rw [HGG.out]; exact HO2, HB2⟩
        case measure => simp [intOf]; omega
      · have hok2 : ∀ y ∈ gs ++ [f], okF y := fun y hy => by
          rcases List.mem_append.1 hy with h | h
          · exact hok.out y h
          · rw [List.mem_singleton.1 h]; exact (okF_iff f).2 he0
        have hfl := ((okF_iff f).2 he0).2
        obtain ⟨M, hM⟩ : ∃ M, (encs gs).length + (f.b.length + 7) = M := ⟨_, rfl⟩
        have hM2 : (encs (gs ++ [f])).length = M := by rw [encs_snoc, List.length_append, encF_length, hM]
        have hMl : M ≤ 14098 := by have := HLL.out; omega
        rw [hM, ← encs_snoc] at hr2
        rw [hM] at hc2 hty ⊢
        have HOK := Lib.hid hok2
        have HM2 := Lib.hid hM2
        have HR2 := Lib.hid hr2
        have HTy := Lib.hid hty
        have HN2 := Lib.hid hn2
        clear hok2 hM hM2 hr2 hty hn2 he0 hfl
        go_wp2_with (at_builtin; refine wpList_append_new rfl (.tmp 42) (.tmp 45) 39 rfl g0 3 j0 (.int .i64 0) 1 8 Try.underlying39 hj hy0 hy1 hy2 rfl (by decide) _ G (endsV gs) rfl (HO2.out.alloc _) ⟨w2.heap.size, 0, none⟩ 1 [.int .i64 (M : Int)] rfl rfl (cell_one_new _ _ _) (by simp [Value.oneCell']) ?f2 ?f3 ?f4 ?_)
        case f2 => unfold maxLen; omega
        case f3 => omega
        case f4 => simp; omega
        refine Lib.hid ?_
        intro v9 w9 hown9 hg9
        have HB9 : Hid (Below g0 w w9) := Lib.hid (HB2.out.trans (((Below.refl g0 w2).alloc hg2 _).grown hg9 (by simp; omega) (fun j hj => (HO2.out.lt j hj).1)))
        have HO9 : Hid (w9.ownsRow g0 3 1 v9 (gs ++ [f]).length (endsV (gs ++ [f]))) := Lib.hid (by
          rw [endsV_snoc, HM2.out, List.length_append, HGG.out]
          simpa using hown9)
        have hga : w2.grownBy (w2.alloc (.cells #[.int .i64 (M : Int)] 3)) none := World.grownBy_alloc w2 _ none
        have hnu := row_not_u8' (HO2.out.alloc (.cells #[.int .i64 (M : Int)] 3))
        have hta := HTy.out.grown hga (fun r e => by cases e)
        have hra := HR2.out.grownT HTy.out hga (fun r e => by cases e)
        have HR9 : Hid ((RB w9 A2 M (encs (gs ++ [f])) ∧ TyB w9 A2 M) ∧ (A2 = none → c2 = 0)) := Lib.hid ⟨⟨hra.grownT hta hg9 hnu, hta.grown hg9 hnu⟩, HN2.out⟩
        obtain ⟨g9, cap9, ev9⟩ := ownsRow_succ (k := G) (by have := HO9.out; rw [List.length_append, HGG.out] at this; exact this)
        subst ev9
        clear hown9 hg9 hga hnu hta hra
        go_wp2
        go_roundw
        case rel => exact ⟨q + 1, gs ++ [f], A2, c2, by omega, by omega, by go_num, by rw [HM2.out], by rw [List.length_append, HGG.out]; simp; omega, by rw [HM2.out]; exact hc2, HOK, by rw [HM2.out]; exact HR9, HO9, HB9⟩
        case measure => simp [intOf]; omega
    · obtain ⟨at_, hat⟩ : ∃ a, ck % (L + 1) = a := ⟨_, rfl⟩
      have hatL : at_ ≤ L := by have := Nat.mod_lt ck (show 0 < L + 1 by omega); omega
      have em : (ck : Int) % ((L : Int) + 1) = (at_ : Int) := by rw [← hat]; simp
      have em' : (ck : Int).tmod ((L : Int) + 1) = (at_ : Int) := by rw [Int.tmod_eq_emod_of_nonneg (by omega)]; exact em
      obtain ⟨K, hK1, hK2, hK3, r, hcut, hr, hrl⟩ := torn_all hok.out (at_ := at_) (by rw [HLL.out]; exact hatL)
      have HTk : Hid ((gs.take K).length = K) := Lib.hid (by rw [List.length_take]; omega)
      have HPk : Hid (placeOf (gs.take K) (gs.take K).length = placeOf gs K) := Lib.hid (by rw [placeOf_all]; rfl)
      obtain ⟨P, hP⟩ : ∃ P, placeOf gs K = P := ⟨_, rfl⟩
      rw [hP] at hK2 hrl HPk
      have HCk : Hid (∀ j, j < G → ((placeOf gs (j + 1) ≤ at_) ↔ j < K)) := Lib.hid (fun j hj => ⟨fun h => by
          rcases Nat.lt_or_ge j K with h1 | h1
          · exact h1
          · have := hK3 (j + 1) (by omega) (by rw [HGG.out]; omega); omega, fun h => Nat.le_trans (placeOf_mono gs (show j + 1 ≤ K by omega)) (by rw [hP]; exact hK2)⟩)
      rw [HGG.out] at hK1
      have HRt : Hid (RB wr Bv at_ ((encs gs).take at_)) := Lib.hid (hRB.out.1.1.take hatL)
      have HCut := Lib.hid hcut
      have HPP := Lib.hid hP
      have hatd : at_ ≤ d := by omega
      have hend : n ≤ q ∨ (q < n ∧ 12 ≤ q) := by omega
      have hG12 : G ≤ 12 := by omega
      have hgsum : Hid (∀ w9, Below wr.heap.size wr w9 → Calls Try.prog 19 #[.slice Bv at_ d] w9 fun e w' => e = .returned (.tuple #[.int .i64 (P : Int), .int .i64 (errE r : Int)]) ∧ Below w9.heap.size w9 w') := Lib.hid (fun w9 hb9 => by
        have := end_any Bv at_ d _ (gs.take K) r HCut.out w9 (HRt.out.below hb9) hatd (by omega)
        rwa [HPk.out] at this)
      have hall : Hid (∀ w9, Below wr.heap.size wr w9 → Calls Try.prog 18 #[.slice Bv at_ d] w9 fun e w' => Below w9.heap.size w9 w' ∧ ∃ A1 c1 A2 c2, e = .returned (.tuple #[.slice A1 K c1, .slice A2 K c2, .int .i64 (P : Int), .int .i64 (errE r : Int)])) := Lib.hid (fun w9 hb9 => by
        refine (rall_any Bv at_ d _ (gs.take K) r HCut.out w9 (HRt.out.below hb9) hatd (by omega) (by rw [HTk.out]; omega)).mono ?_
        rintro e w' ⟨h1, A1, c1, A2, c2, h2, _⟩
        rw [HTk.out, ] at h2
        exact ⟨h1, A1, c1, A2, c2, by rw [h2, ← HPk.out, HTk.out]⟩)
      clear hat hK3 hP hcut
      rcases hend with hx | ⟨hx, hx'⟩
      all_goals
        clear hlt
        go_wp2
        go_loopw [11, 12, 13] (fun vw ve i wq => ∃ q : Nat, q ≤ G ∧ i = .int .i64 q ∧ vw = .int .i64 ((min q K : Nat) : Int) ∧ ve = .int .i64 ((placeOf gs (min q K) : Nat) : Int) ∧ wq = wr) (fun _ _ i _ => G - (intOf i).toNat)
        case atStart => exact ⟨0, Nat.zero_le _, rfl, by simp, by simp [placeOf_zero], rfl⟩
        case round =>
          obtain ⟨q2, hq2, rfl, rfl, rfl, hww⟩ := hrel
          subst hww
          by_cases hlt2 : q2 < G
          · obtain ⟨bv, rfl, hcell⟩ := HCells.out (by omega)
            have hcc := hcell q2 hlt2
            have hiff := HCk.out q2 hlt2
            obtain ⟨PQ, hPQ⟩ : ∃ v, placeOf gs (q2 + 1) = v := ⟨_, rfl⟩
            rw [hPQ] at hcc hiff
            have HPQ := Lib.hid hPQ
            have gq : (0 : Int) ≤ (q2 : Int) := by omega
            by_cases hqK : q2 < K
            · have hle : PQ ≤ at_ := hiff.2 hqK
              have HW1 : Hid (((min q2 K : Nat) : Int) + 1 = ((min (q2 + 1) K : Nat) : Int)) := Lib.hid (by omega)
              have HW2 : Hid (placeOf gs (min (q2 + 1) K) = PQ) := Lib.hid (by rw [show min (q2 + 1) K = q2 + 1 by omega, HPQ.out])
              have hmb : min q2 K ≤ 12 := by omega
              obtain ⟨W, hW⟩ : ∃ v, min q2 K = v := ⟨_, rfl⟩
              rw [hW] at HW1 hmb ⊢
              clear hiff hPQ hcell hW
              go_wp2
              go_roundw
              case rel => exact ⟨q2 + 1, by omega, by go_num, by rw [← HW1.out], by rw [HW2.out], trivial⟩
              case measure => simp [intOf]; omega
            · have hgt : at_ < PQ := by
                have : ¬ PQ ≤ at_ := fun h => hqK (hiff.1 h)
                omega
              have HW1 : Hid (min (q2 + 1) K = min q2 K) := Lib.hid (by omega)
              clear hiff hPQ hcell hqK
              go_wp2
              go_roundw
              case rel => exact ⟨q2 + 1, by omega, by go_num, by rw [HW1.out], by rw [HW1.out], trivial⟩
              case measure => simp [intOf]; omega
          · obtain rfl : q2 = G := by omega
            rw [show min q2 K = K by omega, HPP.out]
            have s3 := hgsum.out wr (Below.refl _ _)
            obtain ⟨E, hE⟩ : ∃ E, errE r = E := ⟨_, rfl⟩
            rw [hE] at s3
            have hEc : (E = 0 ∧ at_ = P) ∨ (E = 30 ∧ at_ ≠ P) := by
              rcases hr with h | h
              · subst h
                exact .inl ⟨by rw [← hE]; rfl, by simp at hrl; omega⟩
              · by_cases h0 : r.length = 0
                · exact .inl ⟨by rw [← hE]; unfold errE; rw [if_pos h0], by omega⟩
                · exact .inr ⟨by rw [← hE]; unfold errE; rw [if_neg h0]; exact h, by omega⟩
            clear hlt2 hr hrl hE
            go_wp2_with fail
            refine s3.mono ?_
            rintro e w3 ⟨rfl, hb3⟩
            have s4 := hall.out w3 hb3
            have HB3 : Hid (Below g0 w w3) := Lib.hid (hbw.out.trans (hb3.mono hgw))
            have hg3 : g0 ≤ w3.heap.size := by have := hb3.size; omega
            clear s3 hb3
            go_wp2_with fail
            refine s4.mono ?_
            rintro e w4 ⟨hb4, A8, c8, A9, c9, rfl⟩
            have HB4 : Hid (Below w.heap.size w w4) := Lib.hid (by rw [HG0.out]; exact HB3.out.trans (hb4.mono hg3))
            clear s4 hb4
            rcases hEc with ⟨rfl, rfl⟩ | ⟨rfl, hne⟩
            · go_wp2_with fail
              refine (works_any w4).mono ?_
              rintro e w5 ⟨rfl, hb5⟩
              have HB5 : Hid (Below w.heap.size w w5) := Lib.hid (HB4.out.trans (hb5.mono HB4.out.size))
              clear hb5
              go_wp2
              go_ret
              exact ⟨rfl, HB5.out⟩
            · have e1 : ((P : Int) == (at_ : Int)) = false := by rw [beq_eq_false_iff_ne]; omega
              have e2 : (P == at_) = false := by rw [beq_eq_false_iff_ne]; omega
              go_wp2_with fail
              refine (works_any w4).mono ?_
              rintro e w5 ⟨rfl, hb5⟩
              have HB5 : Hid (Below w.heap.size w w5) := Lib.hid (HB4.out.trans (hb5.mono HB4.out.size))
              clear hb5
              go_wp2
              go_ret
              exact ⟨rfl, HB5.out⟩
end Go.Proofs.Ytkbllhpjfgeaaaa
