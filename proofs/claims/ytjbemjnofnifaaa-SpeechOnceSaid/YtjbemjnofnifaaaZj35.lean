/-
  Get of the program, walked (layer 13).
-/
import Derived.Test.YtjbemjnofnifaaaZj34
namespace Go.Proofs.Ytjbemjnofnifaaa
open Go.RowKit
set_option linter.unusedSimpArgs false
set_option linter.unusedVariables false

theorem set6_blk {W : World} {X : Nat} {u0 u1 u2 u3 u4 u5 : Value} {t : TypeId} (h : W.heap[X]? = some (.cells #[u0, u1, u2, u3, u4, u5] t (0, 0))) (a b c d e f : Value) :
    ((((((W.setCell ⟨X, 0, none⟩ a).setCell ⟨X, 1, none⟩ b).setCell ⟨X, 2, none⟩ c).setCell ⟨X, 3, none⟩ d).setCell ⟨X, 4, none⟩ e).setCell ⟨X, 5, none⟩ f).heap[X]? = some (.cells #[a, b, c, d, e, f] t (0, 0)) :=
  block_set (block_set (block_set (block_set (block_set (block_set h 0 a) 1 b) 2 c) 3 d) 4 e) 5 f
theorem set6_but (W : World) (X : Nat) (a b c d e f : Value) :
    But (fun k => k = X) W ((((((W.setCell ⟨X, 0, none⟩ a).setCell ⟨X, 1, none⟩ b).setCell ⟨X, 2, none⟩ c).setCell ⟨X, 3, none⟩ d).setCell ⟨X, 4, none⟩ e).setCell ⟨X, 5, none⟩ f) :=
  (((((But.set (S := fun k => k = X) _ (p := ⟨X, 0, none⟩) rfl _).trans (But.set (S := fun k => k = X) _ (p := ⟨X, 1, none⟩) rfl _)).trans (But.set (S := fun k => k = X) _ (p := ⟨X, 2, none⟩) rfl _)).trans (But.set (S := fun k => k = X) _ (p := ⟨X, 3, none⟩) rfl _)).trans (But.set (S := fun k => k = X) _ (p := ⟨X, 4, none⟩) rfl _)).trans (But.set (S := fun k => k = X) _ (p := ⟨X, 5, none⟩) rfl _)
/-- What Get and the document's Get answer: the message x with the error E. -/
def GetPost (m : Ms) (E : Nat) (w : World) (e : Ending) (w' : World) : Prop := ∃ x : Mi, e = .returned (.tuple #[miV x, .int .i64 (E : Int)]) ∧ x.m = m ∧ (UsOk w' x.us ∧ TyU w' x.us) ∧ Below w.heap.size w w'
/-- The zero block of the result is written, and that is all. -/
theorem get_fin {w W : World} {X : Nat} {x : Mi} {m : Ms} {E : Nat} (hb : Below w.heap.size w W) (hX : w.heap.size ≤ X) (hu : UsOk W x.us ∧ TyU W x.us) (hn : ∀ b off, x.us.A = some ⟨b, off, none⟩ → b ≠ X) (hm : x.m = m) (a b c d e f : Value) :
    GetPost m E w (.returned (.tuple #[miV x, .int .i64 (E : Int)])) ((((((W.setCell ⟨X, 0, none⟩ a).setCell ⟨X, 1, none⟩ b).setCell ⟨X, 2, none⟩ c).setCell ⟨X, 3, none⟩ d).setCell ⟨X, 4, none⟩ e).setCell ⟨X, 5, none⟩ f) := by
  have h1 := set6_but W X a b c d e f
  refine ⟨x, rfl, hm, ⟨hu.1.but h1 (fun b off e => hn b off e), hu.2.but h1 (fun b off e => hn b off e)⟩, hb.trans (h1.below hb.size (fun k hk e => by omega))⟩
theorem get_setup {w w1 : World} {o p q : Obj} (hb : Below (((w.alloc o).alloc p).alloc q).heap.size (((w.alloc o).alloc p).alloc q) w1) :
    Below w.heap.size w w1 ∧ (∀ cs t, o = .cells cs t → w1.heap[w.heap.size]? = some (.cells cs t (0, 0))) ∧ (∀ cs t, p = .cells cs t → w1.heap[w.heap.size + 1]? = some (.cells cs t (0, 0))) ∧ (∀ cs t, q = .cells cs t → w1.heap[w.heap.size + 2]? = some (.cells cs t (0, 0))) := by
  have b1 : Below (w.alloc o).heap.size (w.alloc o) w1 := (below2 (w.alloc o) p q).trans (hb.mono (by simp))
  have b2 : Below ((w.alloc o).alloc p).heap.size ((w.alloc o).alloc p) w1 := (below1 ((w.alloc o).alloc p) q).trans (hb.mono (by simp))
  refine ⟨(below1 w o).trans (b1.mono (by simp)), fun cs t e => ?_, fun cs t e => ?_, fun cs t e => ?_⟩
  · subst e
    exact (b1.block _ (by simp)).trans (heap_alloc_new w _)
  · subst e
    have := heap_alloc_new (w.alloc o) (.cells cs t)
    rw [World.size_alloc] at this
    exact (b2.block _ (by simp)).trans this
  · subst e
    have := heap_alloc_new ((w.alloc o).alloc p) (.cells cs t)
    rw [World.size_alloc, World.size_alloc] at this
    exact (hb.block _ (by simp)).trans this
def frIn (k : Nat) (A : Option Addr) (n c : Nat) : Value := .agg #[.int .u8 (k : Int), .slice A n c]
set_option maxHeartbeats 4000000 in
set_option maxRecDepth 100000 in
theorem get_kind (k : Nat) (hk8 : k < 256) (hk : k < 1 ∨ 6 < k) (A : Option Addr) (n c : Nat) (w : World) :
    Calls Try.prog 14 #[frIn k A n c] w (GetPost msNone 31 w) := by
  obtain ⟨X, hX⟩ : ∃ X, w.heap.size = X := ⟨_, rfl⟩
  have HX := Lib.hid hX
  have HP0 := Lib.hid ((partsL_nil (k : Int)).2 (by omega))
  unfold frIn
  clear hX hk
  obtain ⟨PO, hPO⟩ : ∃ PO, GetPost msNone 31 w = PO := ⟨_, rfl⟩
  rw [hPO]
  have HPO := Lib.hid hPO
  clear hPO
  go_enter Try.func14, Try.ntmps14
  go_wp2_with fail
  refine (partsOf_any (k : Int) _).mono ?_
  rintro e w1 ⟨A1, c1, rfl, hp, hb⟩
  obtain ⟨hb1, -, h2, -⟩ := get_setup hb
  have hf := h2 _ _ rfl
  rw [HP0.out]
  rw [HX.out] at hf ⊢
  obtain ⟨q0, q1, q2, q3, q4, q5⟩ := blk6 hf
  have g0 := blk_froz hf 0
  have g1 := blk_froz hf 1
  have g2 := blk_froz hf 2
  have g3 := blk_froz hf 3
  have g4 := blk_froz hf 4
  have g5 := blk_froz hf 5
  have HF := Lib.hid hf
  have HB := Lib.hid hb1
  clear hb hb1 hp h2 hf
  go_wp2
  obtain ⟨d0, d1, d2, d3, d4, d5⟩ := blk6 (set6_blk HF.out (.int .i64 0) (.int .u32 0) (.int .i64 0) (.int .i64 0) (.bool false) (.slice none 0 0))
  refine bodyPost_ret (v := .tuple #[.agg #[.int .i64 0, .int .u32 0, .int .i64 0, .int .i64 0, .bool false, .slice none 0 0], .int .i64 31]) (by simp [results, Try.results14, go_sem, d0, d1, d2, d3, d4, d5]) rfl ?_
  rw [← HPO.out]
  exact get_fin (x := miNone) (E := 31) HB.out (by rw [HX.out]; exact Nat.le_succ X) ⟨UsOk.none _, TyU.nil _ _ _⟩ (fun b off e => by cases e) rfl _ _ _ _ _ _
/-- What is known when all parts have been read. -/
structure Rd (S : Nat → Prop) (w : World) (X M B R base : Nat) (s : St) (m : Ms) (wr : World) : Prop where
  rd : RdAt S wr B s
  mg : ∃ x, MgIs wr M base x m
  own : wr.cell? ⟨R, 0, none⟩ = some (.pointer (some ⟨B, 0, none⟩))
  out : wr.heap[X]? = some (.cells #[.int .i64 0, .int .u32 0, .int .i64 0, .int .i64 0, .bool false, .slice none 0 0] 25 (0, 0))
  below : Below w.heap.size w wr
  size : base ≤ wr.heap.size
theorem Rd.part {S : Nat → Prop} {w wr w2 : World} {X M B R base : Nat} {s s2 : St} {m m2 : Ms} (h : Rd S w X M B R base s m wr) (hr : RdAt S w2 B s2) (hm : ∃ x, MgIs w2 M base x m2) (hb : But (fun k => k = B ∨ k = M) wr w2) (hd : R ≠ B ∧ R ≠ M ∧ X ≠ B ∧ X ≠ M) (hB : w.heap.size ≤ B ∧ w.heap.size ≤ M) : Rd S w X M B R base s2 m2 w2 :=
  ⟨hr, hm, (hb.cell (p := ⟨R, 0, none⟩) (bcell_lt h.own) (by rintro (e | e); exact hd.1 e; exact hd.2.1 e)).trans h.own, (hb.block X (block_lt h.out) (by rintro (e | e); exact hd.2.2.1 e; exact hd.2.2.2 e)).trans h.out,
    h.below.trans (hb.below h.below.size (fun k hk e => by rcases e with e | e <;> omega)), Nat.le_trans h.size hb.size⟩
set_option maxHeartbeats 8000000 in
set_option maxRecDepth 100000 in
theorem get_any (k : Nat) (h1 : 1 ≤ k) (h6 : k ≤ 6) (A : Option Addr) (n c : Nat) (xs : List UInt8) (w : World) (hB : BodyAt w A c xs) (hn : xs.length = n) :
    Calls Try.prog 14 #[frIn k A n c] w (GetPost (if errG k xs = 0 then rM k ⟨xs, 0⟩ else msNone) (errG k xs) w) := by
  subst hn
  obtain ⟨hrb, hnc, hnil, hm⟩ := hB
  obtain ⟨X, hX⟩ : ∃ X, w.heap.size = X := ⟨_, rfl⟩
  have HX := Lib.hid hX
  have hp0 : 0 < (partsL (k : Int)).length := by
    rcases Nat.eq_zero_or_pos (partsL (k : Int)).length with e | e
    · have := (partsL_nil (k : Int)).1 (List.eq_nil_of_length_eq_zero e)
      omega
    · exact e
  have hl3 := partsL_le (k : Int)
  have HRb := Lib.hid hrb
  have HNil := Lib.hid hnil
  have HAll := Lib.hid (fun j (hj : (partsL (k : Int)).length ≤ j) => uptoP_all (k := k) (by omega) (by omega) ⟨xs, 0⟩ hj)
  have HErr : Hid (errG (k : Int) xs = if doneS (rS6 k ⟨xs, 0⟩) ≠ 0 then doneS (rS6 k ⟨xs, 0⟩) else if (rM k ⟨xs, 0⟩).right = true then 0 else 2) := Lib.hid (by unfold errG; rw [if_neg (by omega)])
  unfold frIn
  obtain ⟨n, hn⟩ : ∃ n, xs.length = n := ⟨_, rfl⟩
  have HN := Lib.hid hn
  rw [hn] at hnc hm ⊢
  clear hX hrb hnil hn
  obtain ⟨PO, hPO⟩ : ∃ PO, GetPost (if errG k xs = 0 then rM k ⟨xs, 0⟩ else msNone) (errG k xs) w = PO := ⟨_, rfl⟩
  rw [hPO]
  have HPO := Lib.hid hPO
  clear hPO
  go_enter Try.func14, Try.ntmps14
  go_wp2_with fail
  refine (partsOf_new (k : Int) _).mono ?_
  rintro e w1 ⟨A1, c1, rfl, ⟨hp, hpn⟩, hb⟩
  obtain ⟨hb1, hf1, hf2, hf3⟩ := get_setup hb
  have f1 := hf1 _ _ rfl
  have f2 := hf2 _ _ rfl
  have f3 := hf3 _ _ rfl
  rw [HX.out] at f1 f2 f3 ⊢
  obtain ⟨L, hL⟩ : ∃ L, (partsL (k : Int)).length = L := ⟨_, rfl⟩
  have HLn := Lib.hid hL
  rw [hL] at hp0 hl3 ⊢
  obtain ⟨v0, v1⟩ := blk2 f1
  have HP := Lib.hid hp
  have HPn : Hid (∀ b off, A1 = some ⟨b, off, none⟩ → X + 3 ≤ b ∧ b < w1.heap.size ∨ L = 0) := Lib.hid (fun b off e => by
    have h9 := hpn b off e
    simp only [World.size_alloc] at h9
    rw [HX.out] at h9
    obtain ⟨b', off', e', hlt, _⟩ := hp.rv.2 (by rw [HLn.out]; exact hp0)
    rw [e] at e'
    simp only [Option.some.injEq, Addr.mk.injEq] at e'
    omega)
  have HF2 := Lib.hid f2
  have HF3 := Lib.hid f3
  have HB1 := Lib.hid hb1
  have L0 : ((L : Int) == 0) = false := by rw [beq_eq_false_iff_ne]; omega
  clear hpn hb hb1 hp hf1 hf2 hf3 f1 f2 f3 hL
  go_wp2_with fail
  refine (read_any A n c xs w1 (by rw [← HN.out] ; exact (HRb.out.below HB1.out)) HNil.out hnc (by omega)).mono ?_
  rintro e w2 ⟨B, rfl, hBs, hrd, hb2⟩
  have hlt1 : X + 2 < w1.heap.size := block_lt HF3.out
  have HRD : Hid (∀ o, Rd (fun k => k = B ∨ k < w1.heap.size) w (X + 1) (X + 2) B w2.heap.size (w2.heap.size + 1) ⟨xs, 0⟩ (startM (k : Int)) (w2.alloc (.cells #[.pointer (some ⟨B, 0, none⟩)] o))) := Lib.hid (fun o => by
    have hba := below1 w2 (.cells #[.pointer (some ⟨B, 0, none⟩)] o)
    refine ⟨hrd.below hba, ⟨⟨(k : Int), 0, 0, 0, false, ⟨none, 0, []⟩⟩, ?_, rfl, UsOk.none _, (fun b off e => by cases e), TyU.nil _ _ _⟩, ?_, ?_, HB1.out.trans ((hb2.trans (hba.mono hb2.size)).mono HB1.out.size), by simp⟩
    · exact (hba.block _ (Nat.lt_of_lt_of_le hlt1 hb2.size)).trans ((hb2.block _ hlt1).trans HF3.out)
    · rw [cell_of_row _ _ _ _ _ _ (heap_alloc_new w2 _)]; rfl
    · exact (hba.block _ (Nat.lt_of_lt_of_le (by omega) hb2.size)).trans ((hb2.block _ (by omega)).trans HF2.out))
  have HD : Hid ((w2.heap.size ≠ B ∧ w2.heap.size ≠ X + 2 ∧ X + 1 ≠ B ∧ X + 1 ≠ X + 2) ∧ (w.heap.size ≤ B ∧ w.heap.size ≤ X + 2) ∧ B ≠ X + 2 ∧ X + 2 < w2.heap.size + 1 ∧ B < w2.heap.size + 1 ∧ X + 2 < w1.heap.size) := Lib.hid (by
    have h9 := hrd.lt
    have h10 := hb2.size
    have h11 := HX.out
    omega)
  have HPs : Hid (∀ o, Parts (w2.alloc (.cells #[.pointer (some ⟨B, 0, none⟩)] o)) A1 c1 (partsL (k : Int))) := Lib.hid (fun o => (HP.out.below hb2).below (below1 w2 _))
  have HLw := Lib.hid hlt1
  have HBL : Hid (w1.heap.size ≤ B) := Lib.hid hBs
  clear hrd hb2 hBs v0 v1 hlt1
  obtain ⟨R, hR⟩ : ∃ R, w2.heap.size = R := ⟨_, rfl⟩
  rw [hR] at HRD HD
  have HR := Lib.hid hR
  obtain ⟨S, hS⟩ : ∃ S, (fun k => k = B ∨ k < w1.heap.size) = S := ⟨_, rfl⟩
  have HSM : Hid (S (X + 2)) := Lib.hid (by rw [← hS]; exact .inr HLw.out)
  rw [hS] at HRD
  clear hR hS
  go_wp2
  rw [HR.out]
  have HR0 := Lib.hid (HRD.out 73)
  have HP0 := Lib.hid (HPs.out 73)
  generalize w2.alloc (.cells #[.pointer (some ⟨B, 0, none⟩)] 73) = w3 at HR0 HP0 ⊢
  clear HRD HPs
  go_loopw [27] (fun kv wr => ∃ j : Nat, j ≤ L ∧ kv = .int .i64 (j : Int) ∧ Hid (Rd S w (X + 1) (X + 2) B R (R + 1) (uptoP (k : Int) ⟨xs, 0⟩ j).1 (uptoP (k : Int) ⟨xs, 0⟩ j).2 wr) ∧ Hid (Parts wr A1 c1 (partsL (k : Int)) ∧ True)) (fun kv _ => L - (RowKit.intOf kv).toNat)
  case atStart => exact ⟨0, Nat.zero_le _, rfl, HR0, Lib.hid ⟨HP0.out, trivial⟩⟩
  case round =>
    obtain ⟨j, hj, rfl, hrd, hps⟩ := hrel
    by_cases hlt : j < L
    · have hjl : j < (partsL (k : Int)).length := by rw [HLn.out]; exact hlt
      obtain ⟨b, off, rfl, hbl, hc⟩ := hps.out.1.at_ hjl
      obtain ⟨p, hp5, hpe⟩ := partsL_at (k : Int) hjl
      rw [hpe] at hc
      have HU := Lib.hid (uptoP_snoc (s := ⟨xs, 0⟩) hjl hpe)
      have q2 : (j : Int) < (L : Int) := by omega
      have q0 : (0 : Int) ≤ (j : Int) := by omega
      obtain ⟨st, hst⟩ : ∃ st, uptoP (k : Int) ⟨xs, 0⟩ j = st := ⟨_, rfl⟩
      rw [hst] at HU hrd
      obtain ⟨x, hx⟩ := hrd.out.mg
      have S1 := Lib.hid (part_any S B (X + 2) (R + 1) st.1 x st.2 p hp5 wr hrd.out.rd hx HD.out.2.2.1 HD.out.2.2.2.1 HD.out.2.2.2.2.1 HSM.out hrd.out.size)
      have r0 := hrd.out.own
      unfold rdV at S1
      clear hpe hst hx
      go_wp2_with fail
      refine S1.out.mono ?_
      rintro e w4 ⟨rfl, h2, h3, h4⟩
      have HR4 : Hid (Rd S w (X + 1) (X + 2) B R (R + 1) (uptoP (k : Int) ⟨xs, 0⟩ (j + 1)).1 (uptoP (k : Int) ⟨xs, 0⟩ (j + 1)).2 w4) := Lib.hid (by
        rw [HU.out]
        exact hrd.out.part h2 h3 h4 HD.out.1 HD.out.2.1)
      have HP4 : Hid (Parts w4 (some ⟨b, off, none⟩) c1 (partsL (k : Int)) ∧ True) := Lib.hid ⟨hps.out.1.but h4 (fun b' off' e' he => by have h9 := HPn.out b' off' e'; have h10 := HBL.out; omega), trivial⟩
      clear h2 h3 h4
      go_wp2
      go_roundw
      case rel => exact ⟨j + 1, by omega, by go_num, HR4, HP4⟩
      case measure => simp [RowKit.intOf]; omega
    · obtain rfl : j = L := by omega
      have hr1 := hrd.out
      rw [HAll.out j (by rw [HLn.out]; exact Nat.le_refl _)] at hr1
      simp only at hr1
      obtain ⟨s, hs⟩ : ∃ s, rS6 (k : Int) ⟨xs, 0⟩ = s := ⟨_, rfl⟩
      obtain ⟨m, hm'⟩ : ∃ m, rM (k : Int) ⟨xs, 0⟩ = m := ⟨_, rfl⟩
      rw [hs, hm'] at hr1 HErr
      rw [hm'] at HPO
      have HR1 := Lib.hid hr1
      have S1 := Lib.hid (rDone_any S B s wr hr1.rd)
      obtain ⟨x, hx⟩ := hr1.mg
      have HMx := Lib.hid hx
      have r0 := hr1.own
      obtain ⟨E, hE⟩ : ∃ E, doneS s = E := ⟨_, rfl⟩
      rw [hE] at S1 HErr
      clear hr1 hs hm' hx hE hrd
      go_wp2_with fail
      refine S1.out.mono ?_
      rintro e w4 ⟨rfl, rfl⟩
      obtain ⟨q0, q1, q2, q3, q4, q5⟩ := blk6 HR1.out.out
      have g0 := blk_froz HR1.out.out 0
      have g1 := blk_froz HR1.out.out 1
      have g2 := blk_froz HR1.out.out 2
      have g3 := blk_froz HR1.out.out 3
      have g4 := blk_froz HR1.out.out 4
      have g5 := blk_froz HR1.out.out 5
      by_cases hE0 : E = 0
      · subst hE0
        obtain ⟨m0, m1, m2, m3, m4, m5⟩ := (show MiB wr (X + 1 + 1) x from HMx.out.at_).cells
        have hmx : x.m = m := HMx.out.m
        rw [if_neg (fun h => h rfl)] at HErr
        have HMm := Lib.hid hmx
        clear hmx
        cases hr : m.right with
        | false =>
          have S2 := Lib.hid (right_any x wr HMx.out.us false (by rw [HMm.out]; exact hr))
          have HP9 : Hid (PO = GetPost msNone 2 w) := Lib.hid (by rw [← HPO.out, HErr.out, hr]; simp)
          unfold miV at S2
          clear hr HPO HErr
          go_wp2_with fail
          refine S2.out.mono ?_
          rintro e w5 ⟨rfl, hb5⟩
          have hf5 := (hb5.block _ (block_lt HR1.out.out)).trans HR1.out.out
          have HF5 := Lib.hid hf5
          clear q0 q1 q2 q3 q4 q5 g0 g1 g2 g3 g4 g5 m0 m1 m2 m3 m4 m5
          obtain ⟨q0, q1, q2, q3, q4, q5⟩ := blk6 hf5
          have g0 := blk_froz hf5 0
          have g1 := blk_froz hf5 1
          have g2 := blk_froz hf5 2
          have g3 := blk_froz hf5 3
          have g4 := blk_froz hf5 4
          have g5 := blk_froz hf5 5
          have HB5 : Hid (Below w.heap.size w w5) := Lib.hid (HR1.out.below.trans (hb5.mono HR1.out.below.size))
          clear hb5 hf5
          go_wp2
          obtain ⟨d0, d1, d2, d3, d4, d5⟩ := blk6 (set6_blk HF5.out (.int .i64 0) (.int .u32 0) (.int .i64 0) (.int .i64 0) (.bool false) (.slice none 0 0))
          refine bodyPost_ret (v := .tuple #[.agg #[.int .i64 0, .int .u32 0, .int .i64 0, .int .i64 0, .bool false, .slice none 0 0], .int .i64 2]) (by simp [results, Try.results14, go_sem, d0, d1, d2, d3, d4, d5]) rfl ?_
          rw [HP9.out]
          exact get_fin (x := miNone) (E := 2) HB5.out (by rw [HX.out]; exact Nat.le_succ X) ⟨UsOk.none _, TyU.nil _ _ _⟩ (fun b off e => by cases e) rfl _ _ _ _ _ _
        | true =>
          have S2 := Lib.hid (right_any x wr HMx.out.us true (by rw [HMm.out]; exact hr))
          have HP9 : Hid (PO = GetPost m 0 w) := Lib.hid (by rw [← HPO.out, HErr.out, hr]; simp)
          unfold miV at S2
          clear hr HPO HErr
          go_wp2_with fail
          refine S2.out.mono ?_
          rintro e w5 ⟨rfl, hb5⟩
          have hf5 := (hb5.block _ (block_lt HR1.out.out)).trans HR1.out.out
          have HF5 := Lib.hid hf5
          have HU5 : Hid (UsOk w5 x.us ∧ TyU w5 x.us) := Lib.hid ⟨HMx.out.us.below hb5, HMx.out.ty.below hb5⟩
          clear q0 q1 q2 q3 q4 q5 g0 g1 g2 g3 g4 g5 m0 m1 m2 m3 m4 m5
          obtain ⟨m0, m1, m2, m3, m4, m5⟩ := (show MiB w5 (X + 1 + 1) x from HMx.out.at_.below hb5).cells
          obtain ⟨q0, q1, q2, q3, q4, q5⟩ := blk6 hf5
          have g0 := blk_froz hf5 0
          have g1 := blk_froz hf5 1
          have g2 := blk_froz hf5 2
          have g3 := blk_froz hf5 3
          have g4 := blk_froz hf5 4
          have g5 := blk_froz hf5 5
          have HB5 : Hid (Below w.heap.size w w5) := Lib.hid (HR1.out.below.trans (hb5.mono HR1.out.below.size))
          clear hb5 hf5
          go_wp2
          clear m0 m1 m2 m3 m4 m5
          obtain ⟨d0, d1, d2, d3, d4, d5⟩ := blk6 (set6_blk HF5.out (.int .i64 x.kind) (.int .u32 (x.seq : Int)) (.int .i64 x.src) (.int .i64 x.tgt) (.bool x.rep) (.slice x.us.A x.us.l.length x.us.c))
          refine bodyPost_ret (v := .tuple #[.agg #[.int .i64 x.kind, .int .u32 (x.seq : Int), .int .i64 x.src, .int .i64 x.tgt, .bool x.rep, .slice x.us.A x.us.l.length x.us.c], .int .i64 0]) (by simp [results, Try.results14, go_sem, d0, d1, d2, d3, d4, d5]) rfl ?_
          rw [HP9.out]
          exact get_fin (x := x) (E := 0) HB5.out (by rw [HX.out]; exact Nat.le_succ X) HU5.out (fun b off e => by
            have h9 := HMx.out.new b off e
            have h10 := HD.out
            have h11 := HR.out
            have h12 := HX.out
            omega) HMm.out _ _ _ _ _ _
      · have E1 : ((E : Int) != 0) = true := by rw [bne_iff_ne]; omega
        obtain ⟨EG, hEG⟩ : ∃ EG, errG (k : Int) xs = EG := ⟨_, rfl⟩
        rw [hEG] at HPO HErr
        obtain rfl : EG = E := by rw [HErr.out, if_pos hE0]
        have HP9 : Hid (PO = GetPost msNone EG w) := Lib.hid (by rw [← HPO.out, if_neg hE0])
        clear hE0 HPO HErr
        go_wp2
        obtain ⟨d0, d1, d2, d3, d4, d5⟩ := blk6 (set6_blk HR1.out.out (.int .i64 0) (.int .u32 0) (.int .i64 0) (.int .i64 0) (.bool false) (.slice none 0 0))
        refine bodyPost_ret (v := .tuple #[.agg #[.int .i64 0, .int .u32 0, .int .i64 0, .int .i64 0, .bool false, .slice none 0 0], .int .i64 (EG : Int)]) (by simp [results, Try.results14, go_sem, d0, d1, d2, d3, d4, d5]) rfl ?_
        rw [HP9.out]
        exact get_fin (x := miNone) HR1.out.below (by rw [HX.out]; exact Nat.le_succ X) ⟨UsOk.none _, TyU.nil _ _ _⟩ (fun b off e => by cases e) rfl _ _ _ _ _ _
end Go.Proofs.Ytjbemjnofnifaaa
