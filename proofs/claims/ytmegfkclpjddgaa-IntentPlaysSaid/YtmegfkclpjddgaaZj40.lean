/-
  The document's asked, Turn, Drop, walked (layer 17).
-/
import Derived.Test.YtmegfkclpjddgaaZj38
import Derived.Test.YtmegfkclpjddgaaZj27
namespace Go.Proofs.Ytmegfkclpjddgaa
open Go.RowKit Go.Sort
set_option linter.unusedSimpArgs false
set_option linter.unusedVariables false

set_option maxHeartbeats 2000000 in
theorem asked_any {S : Nat → Prop} {B : Nat} {t : Im} {A : Option Addr} {c : Nat} (s d : ByteArray) (old : Nat) (w : World) (h : RiIs S w B A c t) (hs : s.size ≤ maxLen) (hd : d.size ≤ maxLen) :
    Calls Try.prog 61 #[.pointer (some ⟨B, 0, none⟩), .string s, .string d, .int .u64 (old : Int)] w fun e w' => e = .returned (.tuple #[.int .i64 ((t.askI s d old).1 : Int), .int .i64 ((t.askI s d old).2 : Int)]) ∧ w = w' := by
  have HPs := Lib.hid (fun W => rpattern_any s W hs)
  have HPd := Lib.hid (fun W => rpattern_any d W hd)
  have HF := Lib.hid (rifind_any s d w h)
  have HS := Lib.hid h.row
  obtain ⟨r, hr⟩ : ∃ r, t.askI s d old = r := ⟨_, rfl⟩
  rw [hr]
  unfold Ls.askI patsI at hr
  obtain ⟨ps, hps⟩ : ∃ ps, patternB s.data.toList = ps := ⟨_, rfl⟩
  obtain ⟨pd, hpd⟩ : ∃ pd, patternB d.data.toList = pd := ⟨_, rfl⟩
  rw [hps] at HPs hr
  rw [hpd] at HPd hr
  have c1 := h.c1
  have hmx : t.l.length ≤ 9223372036854775807 := by have := h.le; have := h.max; unfold maxLen at this; omega
  obtain ⟨L, hL⟩ : ∃ L, t.l.length = L := ⟨_, rfl⟩
  rw [hL] at c1 hmx
  have HL := Lib.hid hL
  clear h hs hd hps hpd hL
  cases ps with
  | false =>
    obtain rfl : (0, 10) = r := by simpa using hr
    clear hr
    go_enter Try.func61, Try.ntmps61
    go_wp2_with fail
    refine (HPs.out w).mono ?_
    rintro e w9 ⟨rfl, rfl⟩
    go_wp2
    go_ret2
    exact ⟨rfl, rfl⟩
  | true =>
    cases pd with
    | false =>
      obtain rfl : (0, 10) = r := by simpa using hr
      clear hr
      go_enter Try.func61, Try.ntmps61
      go_wp2_with fail
      refine (HPs.out w).mono ?_
      rintro e w9 ⟨rfl, rfl⟩
      go_wp2_with fail
      refine (HPd.out w).mono ?_
      rintro e w9 ⟨rfl, rfl⟩
      go_wp2
      go_ret2
      exact ⟨rfl, rfl⟩
    | true =>
      cases hf : findI t.l s d with
      | none =>
        rw [hf] at hr HF
        obtain rfl : (0, 4) = r := by simpa using hr
        have hq : plI none = -1 := rfl
        rw [hq] at HF
        clear hf hq hr
        go_enter Try.func61, Try.ntmps61
        go_wp2_with fail
        refine (HPs.out w).mono ?_
        rintro e w9 ⟨rfl, rfl⟩
        go_wp2_with fail
        refine (HPd.out w).mono ?_
        rintro e w9 ⟨rfl, rfl⟩
        go_wp2_with fail
        refine HF.out.mono ?_
        rintro e w9 ⟨rfl, rfl⟩
        go_wp2
        go_ret2
        exact ⟨rfl, rfl⟩
      | some k =>
        rw [hf] at hr HF
        obtain ⟨hk, _, _⟩ := findI_at hf
        obtain ⟨bb, off, rfl, hbl, hit⟩ := HS.out.at_ hk hk
        obtain ⟨x, hx⟩ : ∃ x, t.l[k] = x := ⟨_, rfl⟩
        rw [hx] at hit
        obtain ⟨e0, e1, e2, e3, e4⟩ := ir_cells hit
        have hgx : (t.l.map (·.ix)).getD k 0 = x.ix := by rw [List.getD_eq_getElem?_getD, List.getElem?_map, List.getElem?_eq_getElem hk, hx]; rfl
        simp only [hgx] at hr
        have hq : plI (some k) = (k : Int) := rfl
        rw [hq] at HF
        have q1 : ¬ (k : Int) < 0 := by omega
        have q2 : decide ((k : Int) < 0) = false := decide_eq_false q1
        have q3 : (k : Int) < (L : Int) := by have := HL.out; omega
        have q4 : (0 : Int) ≤ (k : Int) := by omega
        clear hf hq hgx
        clear hx hit
        by_cases h0 : old = 0
        · subst h0
          have z0 : (((0 : Nat) : Int) != 0) = false := by decide
          obtain rfl : (k, 0) = r := by simpa using hr
          clear hr
          go_enter Try.func61, Try.ntmps61
          go_wp2_with fail
          refine (HPs.out w).mono ?_
          rintro e w9 ⟨rfl, rfl⟩
          go_wp2_with fail
          refine (HPd.out w).mono ?_
          rintro e w9 ⟨rfl, rfl⟩
          go_wp2_with fail
          refine HF.out.mono ?_
          rintro e w9 ⟨rfl, rfl⟩
          go_wp2
          go_ret2
          exact ⟨rfl, rfl⟩
        · have z0 : ((old : Int) != 0) = true := by rw [bne_iff_ne]; omega
          by_cases h1 : x.ix = old
          · have z1 : ((x.ix : Int) != (old : Int)) = false := by rw [h1]; simp
            obtain rfl : (k, 0) = r := by simpa [h0, h1] using hr
            clear hr
            go_enter Try.func61, Try.ntmps61
            go_wp2_with fail
            refine (HPs.out w).mono ?_
            rintro e w9 ⟨rfl, rfl⟩
            go_wp2_with fail
            refine (HPd.out w).mono ?_
            rintro e w9 ⟨rfl, rfl⟩
            go_wp2_with fail
            refine HF.out.mono ?_
            rintro e w9 ⟨rfl, rfl⟩
            go_wp2
            go_ret2
            exact ⟨rfl, rfl⟩
          · have z1 : ((x.ix : Int) != (old : Int)) = true := by rw [bne_iff_ne]; omega
            obtain rfl : (0, 21) = r := by simpa [h0, h1] using hr
            clear hr
            go_enter Try.func61, Try.ntmps61
            go_wp2_with fail
            refine (HPs.out w).mono ?_
            rintro e w9 ⟨rfl, rfl⟩
            go_wp2_with fail
            refine (HPd.out w).mono ?_
            rintro e w9 ⟨rfl, rfl⟩
            go_wp2_with fail
            refine HF.out.mono ?_
            rintro e w9 ⟨rfl, rfl⟩
            go_wp2
            go_ret2
            exact ⟨rfl, rfl⟩
theorem set_other {w : World} {bb x y : Nat} {v u : Value} (h : x ≠ y) (hc : w.cell? ⟨bb, y, none⟩ = some u) : (w.setCell ⟨bb, x, none⟩ v).cell? ⟨bb, y, none⟩ = some u := by
  rw [World.cell?_setCell_other _ _ _ _ (fun e => h (by cases e; rfl))]
  exact hc
theorem set_same {w : World} {a : Addr} {v u : Value} (hc : w.cell? a = some u) : (w.setCell a v).cell? a = some v := World.cell?_setCell_same _ _ _ hc
/-- A row turned in its place. -/
theorem sk_modify {w : World} {bb off n k : Nat} {l : List Ir} (h : SK irC 5 w (some ⟨bb, off, none⟩) n l) (hk : k < l.length) (b : Bool) (i : Nat) :
    SK irC 5 ((w.setCell ⟨bb, off + k * 5 + 2, none⟩ (.bool b)).setCell ⟨bb, off + k * 5 + 4, none⟩ (.int .u64 (i : Int))) (some ⟨bb, off, none⟩) n (l.modify k fun x => { x with allow := b, ix := i }) := by
  refine ⟨by rw [List.length_modify]; exact h.1, fun hn => ?_⟩
  obtain ⟨b2, o2, e, hlt, hc⟩ := h.2 hn
  simp only [Option.some.injEq, Addr.mk.injEq, and_true] at e
  obtain ⟨rfl, rfl⟩ := e
  refine ⟨bb, off, rfl, by simpa using hlt, fun j hj p u hu => ?_⟩
  have hj2 : j < l.length := by
    have h9 := hj
    rw [List.length_modify] at h9
    exact h9
  rw [List.getElem_modify] at hu
  by_cases hjk : k = j
  · subst hjk
    rw [if_pos rfl] at hu
    obtain ⟨c0, c1, c2, c3, c4⟩ := ir_cells (hc k hk)
    have hp : p < 5 := by have := (List.getElem?_eq_some_iff.1 hu).1; simpa [irC] using this
    rcases (show p = 0 ∨ p = 1 ∨ p = 2 ∨ p = 3 ∨ p = 4 by omega) with rfl | rfl | rfl | rfl | rfl
    · cases hu; exact set_other (by omega) (set_other (by omega) c0)
    · cases hu; exact set_other (by omega) (set_other (by omega) c1)
    · cases hu; exact set_other (by omega) (set_same c2)
    · cases hu; exact set_other (by omega) (set_other (by omega) c3)
    · cases hu; exact set_same (set_other (by omega) c4)
  · rw [if_neg hjk] at hu
    have hp : p < 5 := by have := (List.getElem?_eq_some_iff.1 hu).1; simpa [irC] using this
    exact set_other (by omega) (set_other (by omega) (hc j hj2 p u hu))
theorem RiIs.turned {S : Nat → Prop} {w : World} {B c : Nat} {bb off : Nat} {t : Im} (h : RiIs S w B (some ⟨bb, off, none⟩) c t) {k : Nat} (hk : k < t.l.length) (b : Bool) (i : Nat) :
    RiIs S ((w.setCell ⟨bb, off + k * 5 + 2, none⟩ (.bool b)).setCell ⟨bb, off + k * 5 + 4, none⟩ (.int .u64 (i : Int))) B (some ⟨bb, off, none⟩) c { t with l := t.l.modify k fun x => { x with allow := b, ix := i } } := by
  have hne : bb ≠ B := (h.own bb off rfl (by omega)).2
  have hb : But (· = bb) w ((w.setCell ⟨bb, off + k * 5 + 2, none⟩ (.bool b)).setCell ⟨bb, off + k * 5 + 4, none⟩ (.int .u64 (i : Int))) := (But.set (S := (· = bb)) w (p := ⟨bb, off + k * 5 + 2, none⟩) rfl _).trans (But.set (S := (· = bb)) _ (p := ⟨bb, off + k * 5 + 4, none⟩) rfl _)
  have hl : (t.l.modify k fun x => { x with allow := b, ix := i }).length = t.l.length := List.length_modify ..
  refine ⟨h.mine, ?_, ?_, fun b2 o2 e hn => h.own b2 o2 e (by rw [hl] at hn; exact hn), by show (t.l.modify _ _).length ≤ c; rw [hl]; exact h.le, h.max⟩
  · show _ = some (Obj.cells #[.int .i64 (t.most : Int), .slice _ (t.l.modify _ _).length c, .int .u64 (t.last : Int)] TRi (0, 0))
    rw [hl]
    exact (hb.block B h.lt (fun e => hne e.symm)).trans h.blk
  · show SK irC 5 _ _ (t.l.modify _ _).length _
    rw [hl]
    exact sk_modify h.row hk b i
set_option maxHeartbeats 4000000 in
theorem riturn_any {S : Nat → Prop} {B : Nat} {t : Im} (s d : ByteArray) (b : Bool) (old i : Nat) (w : World) (h : RiAt S w B t) (hs : s.size ≤ maxLen) (hd : d.size ≤ maxLen) (hi : i < 18446744073709551616) :
    Calls Try.prog 35 #[.pointer (some ⟨B, 0, none⟩), .string s, .string d, .bool b, .int .u64 (old : Int), .int .u64 (i : Int)] w fun e w' => e = .returned (.int .i64 ((t.turnI s d b old i).1 : Int)) ∧ RiAt S w' B (t.turnI s d b old i).2 ∧ But (fun k => S k) w w' := by
  have HAt := Lib.hid h
  obtain ⟨hok, A, c, h, hfz⟩ := h
  have h64 : t.l.length ≤ 64 := Nat.le_trans hok.len hok.most.2
  have HQ := Lib.hid (asked_any s d old w h hs hd)
  have HLst := Lib.hid hok.last
  have HI := Lib.hid hi
  have HOk := Lib.hid (hok.turn (s := s) (d := d) (b := b) (old := old) hi)
  have H := Lib.hid h
  obtain ⟨p, hp⟩ : ∃ p, t.askI s d old = p := ⟨_, rfl⟩
  rw [hp] at HQ
  unfold Ls.turnI at HOk ⊢
  rw [hp] at HOk ⊢
  by_cases h0 : p.2 = 0
  · rw [if_pos h0] at HOk ⊢
    have hf := ask_place (t := t) (s := s) (d := d) (old := old) (by rw [hp]; exact h0)
    rw [hp] at hf
    obtain ⟨hk, _, _⟩ := findI_at hf
    obtain ⟨k, hkk⟩ : ∃ k, p.1 = k := ⟨_, rfl⟩
    rw [hkk] at hk
    rw [h0, hkk] at HQ
    rw [hkk] at HOk ⊢
    obtain ⟨bb, off, rfl, hbl, hit⟩ := h.row.at_ hk hk
    have hown := h.own bb off rfl (by omega)
    obtain ⟨e0, e1, e2, e3, e4⟩ := ir_cells hit
    obtain ⟨cur, TT, hcur⟩ := hfz bb off rfl (by omega)
    have c1 := h.c1
    have z2 := blk_froz hcur (off + k * 5 + 2)
    have hset := h.turned hk b i
    have hcur1 := block_set hcur (off + k * 5 + 2) (.bool b)
    have hcur2 := block_set hcur1 (off + k * 5 + 4) (.int .u64 (i : Int))
    have z4 := blk_froz hcur1 (off + k * 5 + 4)
    have c11 : (w.setCell ⟨bb, off + k * 5 + 2, none⟩ (.bool b)).cell? ⟨B, 1, none⟩ = some (.slice (some ⟨bb, off, none⟩) t.l.length c) := by rw [World.cell?_setCell_other _ _ _ _ (fun e => hown.2 (congrArg Addr.block e))]; exact c1
    have e41 : (w.setCell ⟨bb, off + k * 5 + 2, none⟩ (.bool b)).cell? ⟨bb, off + k * 5 + 4, none⟩ = some (.int .u64 (t.l[k].ix : Int)) := set_other (by omega) e4
    obtain ⟨L, hL⟩ : ∃ L, t.l.length = L := ⟨_, rfl⟩
    have hbs : But (fun k => S k) w ((w.setCell ⟨bb, off + k * 5 + 2, none⟩ (.bool b)).setCell ⟨bb, off + k * 5 + 4, none⟩ (.int .u64 (i : Int))) := (But.set (S := fun k => S k) w (p := ⟨bb, off + k * 5 + 2, none⟩) hown.1 _).trans (But.set (S := fun k => S k) _ (p := ⟨bb, off + k * 5 + 4, none⟩) hown.1 _)
    have HBs := Lib.hid hbs
    have HSet := Lib.hid hset
    have HCur := Lib.hid hcur2
    have HOw := Lib.hid hown
    have HMi := Lib.hid h.mine
    obtain ⟨x4, hx4⟩ : ∃ x : Value, Value.int .u64 (t.l[k].ix : Int) = x := ⟨_, rfl⟩
    obtain ⟨x2, hx2⟩ : ∃ x : Value, Value.bool t.l[k].allow = x := ⟨_, rfl⟩
    rw [hL] at c1 c11 hk h64
    rw [hx4] at e41 e4
    rw [hx2] at e2
    obtain ⟨t2, ht2⟩ : ∃ t2 : Im, { t with l := t.l.modify k fun x => { x with allow := b, ix := i } } = t2 := ⟨_, rfl⟩
    have hlen2 : t2.l.length = L := by rw [← ht2, ← hL]; exact List.length_modify ..
    have HLn2 := Lib.hid hlen2
    rw [ht2] at HSet HOk ⊢
    have hl2 : t2.last < 18446744073709551616 := by rw [← ht2]; exact HLst.out
    have HRz := Lib.hid (riraise_any i _ HSet.out hl2 HI.out)
    have q3 : (k : Int) < (L : Int) := by omega
    have q4 : (0 : Int) ≤ (k : Int) := by omega
    have hm9 : L ≤ 9223372036854775807 := by omega
    clear h hit hset hcur hcur1 hcur2 hbs hown hx4 hx2 ht2 hL hlen2 hl2 hf hp hok hfz hs hd hi
    go_enter Try.func35, Try.ntmps35
    go_wp2_with fail
    refine HQ.out.mono ?_
    rintro e w9 ⟨rfl, rfl⟩
    go_wp2_with fail
    refine HRz.out.mono ?_
    rintro e w7 ⟨rfl, hr7, hb7⟩
    have H7 := Lib.hid hr7
    have HB7 := Lib.hid hb7
    clear hr7 hb7 HRz
    go_wp2
    go_ret
    refine ⟨rfl, ⟨HOk.out, _, _, H7.out, fun b2 o2 e hn => ?_⟩, HBs.out.trans (HB7.out.mono fun k e => by rw [e]; exact HMi.out)⟩
    simp only [Option.some.injEq, Addr.mk.injEq, and_true] at e
    obtain ⟨rfl, rfl⟩ := e
    exact ⟨_, _, (HB7.out.block bb (block_lt HCur.out) (fun e => HOw.out.2 e)).trans HCur.out⟩
  · rw [if_neg h0] at HOk ⊢
    obtain ⟨k, hkk⟩ : ∃ k, p.1 = k := ⟨_, rfl⟩
    obtain ⟨er, her⟩ : ∃ er, p.2 = er := ⟨_, rfl⟩
    rw [hkk, her] at HQ
    rw [her] at h0 ⊢
    have q0 : ((er : Int) != 0) = true := by rw [bne_iff_ne]; omega
    clear h h0 hkk her hp hfz
    go_enter Try.func35, Try.ntmps35
    go_wp2_with fail
    refine HQ.out.mono ?_
    rintro e w9 ⟨rfl, rfl⟩
    go_wp2
    go_ret
    exact ⟨rfl, HAt.out, But.refl _ _⟩
theorem erase_step {l : List Ir} {k at_ : Nat} (hk : k < l.length) : (l.take (k + 1)).eraseIdx at_ = (l.take k).eraseIdx at_ ++ (if k = at_ then [] else [l[k]]) := by
  rw [List.take_succ_eq_append_getElem hk]
  have hl : (l.take k).length = k := by rw [List.length_take]; omega
  by_cases h : k = at_
  · subst h
    have e1 : (l.take k ++ [l[k]]).eraseIdx k = l.take k := by rw [List.eraseIdx_append_of_length_le (by omega), hl, Nat.sub_self, List.eraseIdx_cons_zero, List.append_nil]
    have e2 : (l.take k).eraseIdx k = l.take k := List.eraseIdx_of_length_le (by omega)
    rw [if_pos rfl, e1, e2, List.append_nil]
  · rw [if_neg h]
    by_cases h2 : at_ < k
    · rw [List.eraseIdx_append_of_lt_length (by omega)]
    · have e1 : (l.take k ++ [l[k]]).eraseIdx at_ = l.take k ++ [l[k]] := List.eraseIdx_of_length_le (by rw [List.length_append]; simp; omega)
      have e2 : (l.take k).eraseIdx at_ = l.take k := List.eraseIdx_of_length_le (by omega)
      rw [e1, e2]
set_option maxHeartbeats 4000000 in
theorem ridrop_any {S : Nat → Prop} {B : Nat} {t : Im} (s d : ByteArray) (old i : Nat) (w : World) (h : RiAt S w B t) (hs : s.size ≤ maxLen) (hd : d.size ≤ maxLen) (hi : i < 18446744073709551616) :
    Calls Try.prog 36 #[.pointer (some ⟨B, 0, none⟩), .string s, .string d, .int .u64 (old : Int), .int .u64 (i : Int)] w fun e w' => e = .returned (.int .i64 ((t.dropI s d old i).1 : Int)) ∧ RiAt (fun k => S k ∨ w.heap.size ≤ k) w' B (t.dropI s d old i).2 ∧ But (· = B) w w' := by
  have HAt := Lib.hid h
  obtain ⟨hok, A, c, h, hfz⟩ := h
  have h64 : t.l.length ≤ 64 := Nat.le_trans hok.len hok.most.2
  have HQ := Lib.hid (asked_any s d old w h hs hd)
  have HLst := Lib.hid hok.last
  have HI := Lib.hid hi
  have HOk := Lib.hid (hok.drop (s := s) (d := d) (old := old) hi)
  have H := Lib.hid h
  obtain ⟨p, hp⟩ : ∃ p, t.askI s d old = p := ⟨_, rfl⟩
  rw [hp] at HQ
  unfold Ls.dropI at HOk ⊢
  rw [hp] at HOk ⊢
  obtain ⟨kk, hkk⟩ : ∃ k, p.1 = k := ⟨_, rfl⟩
  obtain ⟨er, her⟩ : ∃ er, p.2 = er := ⟨_, rfl⟩
  rw [hkk, her] at HQ HOk
  rw [hkk, her]
  by_cases h0 : er = 0
  · subst h0
    simp only [if_true] at HOk ⊢
    obtain ⟨M, hM⟩ : ∃ M, t.l.eraseIdx kk = M := ⟨_, rfl⟩
    rw [hM] at HOk ⊢
    have HM := Lib.hid hM
    obtain ⟨X, hX⟩ : ∃ X, w.heap.size = X := ⟨_, rfl⟩
    have HX := Lib.hid hX
    have hBX : B < X := hX ▸ h.lt
    obtain ⟨L, hL⟩ : ∃ L, t.l.length = L := ⟨_, rfl⟩
    rw [hL] at h64
    have HL := Lib.hid hL
    rw [hX]
    have hm9 : L ≤ 9223372036854775807 := by omega
    clear h hfz hM hX hL hok hs hd hi hp hkk her
    go_enter Try.func36, Try.ntmps36
    go_wp2_with fail
    refine HQ.out.mono ?_
    rintro e w9 ⟨rfl, rfl⟩
    go_wp2
    go_loopw [13, 14] (fun vv iv wr => ∃ k : Nat, k ≤ L ∧ iv = .int .i64 (k : Int) ∧ Hid (irRow wr X vv ((t.l.take k).eraseIdx kk)) ∧ Hid (Below X w wr)) (fun _ iv _ => L - (intOf iv).toNat)
    case atStart => exact ⟨0, Nat.zero_le _, rfl, Lib.hid (by simpa using rowK.nil _ _), Lib.hid (HX.out ▸ Below.refl _ _)⟩
    case round =>
      obtain ⟨k, hk, rfl, hrow, hb⟩ := hrel
      have ht := H.out.below (by rw [HX.out]; exact hb.out)
      have c1 : wr.cell? ⟨B, 1, none⟩ = some (.slice A L c) := by have := ht.c1; rw [HL.out] at this; exact this
      have hXz : X ≤ wr.heap.size := by have := hb.out.size; have := HX.out; omega
      by_cases hlt : k < L
      · have hkl : k < t.l.length := by rw [HL.out]; exact hlt
        obtain ⟨bb, off, rfl, hbl, hit⟩ := ht.row.at_ hkl hkl
        have hst := erase_step (at_ := kk) hkl
        obtain ⟨y, hy⟩ : ∃ y, t.l[k] = y := ⟨_, rfl⟩
        rw [hy] at hit hst
        obtain ⟨e0, e1, e2, e3, e4⟩ := ir_cells hit
        have hle : ((t.l.take k).eraseIdx kk).length ≤ 1000000 := by
          have h9 := List.length_eraseIdx_le (t.l.take k) kk
          rw [List.length_take] at h9
          omega
        by_cases hkk : k = kk
        · rw [if_pos hkk, List.append_nil] at hst
          have zz : ((k : Int) != (kk : Int)) = false := by rw [hkk]; simp
          have HR := Lib.hid (show irRow wr X u13 ((t.l.take (k + 1)).eraseIdx kk) by rw [hst]; exact hrow.out)
          clear hst hy hit ht hkk
          go_wp2
          go_roundw
          case rel => exact ⟨k + 1, by omega, by go_num, HR, hb⟩
          case measure => simp [intOf]; omega
        · rw [if_neg hkk] at hst
          have zz : ((k : Int) != (kk : Int)) = true := by rw [bne_iff_ne]; omega
          have HSt := Lib.hid hst
          clear hst hy hit ht
          go_wp2_with (at_builtin; refine wpList_append_ir rfl (.tmp 38) (.tmp 46) rfl X _ _ rfl ?qa wr.heap.size y rfl ?qb hle ?qc ?_)
          case qa => exact hrow.out.below ((Below.refl _ _).alloc (Nat.le_refl _) _)
          case qb => exact ir_new wr y _
          case qc => simp; omega
          refine Lib.hid ?_
          intro v1 w1 hown hgr
          have HB' := Lib.hid (irRow.snoc hrow.out hb.out hXz hgr)
          rw [← HSt.out] at hown
          have HR := Lib.hid hown
          clear hown hgr
          go_wp2
          go_roundw
          case rel => exact ⟨k + 1, by omega, by go_num, HR, HB'⟩
          case measure => simp [intOf]; omega
      · have hke : (t.l.take k).eraseIdx kk = M := by rw [List.take_of_length_le (by rw [HL.out]; omega), HM.out]
        rw [hke] at hrow
        obtain ⟨A2, c2, rfl, hSK, hnc, hmc, hge⟩ := SK.of_row irC_len hrow.out
        have hfz2 := Frz.of_row hrow.out
        have hset : RiIs (fun k => S k ∨ X ≤ k) (wr.setCell ⟨B, 1, none⟩ (.slice A2 M.length c2)) B A2 c2 { t with l := M } :=
          (ht.narrow fun _ _ z => .inl z).setRows hSK (fun b off e _ => ⟨.inr (hge b off e), by have := hge b off e; omega⟩) hnc hmc
        have HFz : Hid (Frz wr A2 M.length ∧ ∀ b off, A2 = some ⟨b, off, none⟩ → b ≠ B) := Lib.hid ⟨hfz2, fun b off e => by have := hge b off e; omega⟩
        have hf := ht.froz 1
        have hbl := ht.lt
        have HRz := Lib.hid (riraise_any (A := A2) (c := c2) (t := { t with l := M }) i _ hset HLst.out HI.out)
        clear hke hSK hnc hmc hge ht hfz2 hset hrow
        go_wp2_with fail
        refine HRz.out.mono ?_
        rintro e w7 ⟨rfl, hr7, hb7⟩
        have H7 := Lib.hid hr7
        have HB7 := Lib.hid hb7
        clear hr7 hb7 HRz
        go_wp2
        go_ret
        refine ⟨rfl, ⟨HOk.out, A2, c2, H7.out, HFz.out.1.but ((But.set (S := (· = B)) _ (p := ⟨B, 1, none⟩) rfl _).trans HB7.out) fun b off e _ => HFz.out.2 b off e⟩, ?_⟩
        exact ((But.of_below (by rw [HX.out]; exact hb.out)).trans (But.set (S := (· = B)) wr (p := ⟨B, 1, none⟩) rfl _)).trans HB7.out
  · rw [if_neg h0] at HOk ⊢
    have q0 : ((er : Int) != 0) = true := by rw [bne_iff_ne]; omega
    clear h h0 hkk her hp hfz
    go_enter Try.func36, Try.ntmps36
    go_wp2_with fail
    refine HQ.out.mono ?_
    rintro e w9 ⟨rfl, rfl⟩
    go_wp2
    go_ret
    exact ⟨rfl, HAt.out.narrow fun _ _ z => .inl z, But.refl _ _⟩
end Go.Proofs.Ytmegfkclpjddgaa
