/-
  Body of the document, walked (layer 13).
-/
import Derived.Test.YtjbemjnofnifaaaZj22
import Derived.Test.YtjbemjnofnifaaaZj23
namespace Go.Proofs.Ytjbemjnofnifaaa
open Go.RowKit
set_option linter.unusedSimpArgs false
set_option linter.unusedVariables false

/-- A slice of bytes, as it is carried. -/
structure Bs (w : World) (A : Option Addr) (c : Nat) (xs : List UInt8) : Prop where
  rb : RB w A xs.length xs
  nil : A = none → c = 0
  le : xs.length ≤ c
  ty : TyB w A xs.length
theorem TyB.but {S : Nat → Prop} {w w' : World} {A : Option Addr} {n : Nat} (h : TyB w A n) (hb : But S w w') (hs : ∀ b off, A = some ⟨b, off, none⟩ → ¬ S b) : TyB w' A n := fun hn => by
  obtain ⟨b, off, cur, e, hh⟩ := h hn
  exact ⟨b, off, cur, e, (hb.block b (block_lt hh) (hs b off e)).trans hh⟩
theorem TyB.below {w w' : World} {A : Option Addr} {n : Nat} (h : TyB w A n) (hb : Below w.heap.size w w') : TyB w' A n := h.but (But.of_below (S := fun _ => False) hb) (fun _ _ _ h => h)
theorem Bs.below {w w' : World} {A : Option Addr} {c : Nat} {xs : List UInt8} (h : Bs w A c xs) (hb : Below w.heap.size w w') : Bs w' A c xs := ⟨h.rb.below hb, h.nil, h.le, h.ty.below hb⟩
theorem Bs.zero (w : World) : Bs w none 0 [] := ⟨RB.zero _ _, fun _ => rfl, Nat.le_refl _, fun h => absurd h (Nat.lt_irrefl _)⟩
/-- New bytes: none of them lie in what was there. -/
def BsPost (w : World) (ys : List UInt8) (e : Ending) (w' : World) : Prop := ∃ A c, e = .returned (.slice A ys.length c) ∧ Bs w' A c ys ∧ (c ≤ maxLen ∧ ∀ b off, A = some ⟨b, off, none⟩ → w.heap.size ≤ b) ∧ Below w.heap.size w w'
theorem adds_bs {w w' : World} {m : Nat} {xs : List UInt8} {e : Ending} (h : Adds w w.heap.size m xs e w') : BsPost w xs e w' := by
  obtain ⟨v, rfl, hown, hb⟩ := h
  have hl : xs.length = m := by simpa using hown.1
  subst hl
  obtain ⟨A, c, rfl, hr, h1, h2, h3⟩ := RB.own hown
  exact ⟨A, c, rfl, ⟨hr, h1, h2, TyB.own hown⟩, ⟨h3, fun b off e => (hown.lt b (by rw [e]; rfl)).1⟩, hb⟩
theorem BsPost.since {w w1 w' : World} {ys : List UInt8} {e : Ending} (h : BsPost w1 ys e w') (hb : Below w.heap.size w w1) : BsPost w ys e w' := by
  obtain ⟨A, c, h1, h2, ⟨h3, h4⟩, h5⟩ := h
  exact ⟨A, c, h1, h2, ⟨h3, fun b off e => Nat.le_trans hb.size (h4 b off e)⟩, hb.trans (h5.mono hb.size)⟩
theorem BOwn.bs {w w' : World} {B : Nat} {v : Value} {ys : List UInt8} (h : BOwn w B v ys w') : BsPost w ys (.returned v) w' := by
  obtain ⟨A, c, rfl, hr, h1, h2, h3⟩ := RB.own h.1
  exact ⟨A, c, rfl, ⟨hr, h1, h2, TyB.own h.1⟩, ⟨h3, fun b off e => Nat.le_trans h.2.2 (h.1.lt b (by rw [e]; rfl)).1⟩, h.2.1⟩
theorem BsPost.as {w w' : World} {ys zs : List UInt8} {e : Ending} (h : BsPost w ys e w') (e1 : ys = zs) : BsPost w zs e w' := e1 ▸ h
theorem BGives.since {w w1 w' : World} {ys : List UInt8} {e : Ending} (h : BGives w1 ys e w') (hb : Below w.heap.size w w1) : BGives w ys e w' := by
  obtain ⟨A, c, h1, h2, h3, h4, h5, h6⟩ := h
  exact ⟨A, c, h1, h2, h3, h4, h5, hb.trans (h6.mono hb.size)⟩
theorem BGives.as {w w' : World} {ys zs : List UInt8} {e : Ending} (h : BGives w ys e w') (e1 : ys = zs) : BGives w zs e w' := e1 ▸ h
theorem BOwn.as {w w' : World} {B : Nat} {v : Value} {ys zs : List UInt8} (h : BOwn w B v ys w') (e1 : ys = zs) : BOwn w B v zs w' := e1 ▸ h
/-- append of bytes behind a row of the call's own. -/
theorem wpList_append_b {w0 w : World} {B : Nat} {ops : Array Oper} {rest : List Oper} {o : Oper} {a : Act} {Q : Exit → Act → World → Prop} (hgd : o.guard = none) (s x : Operand)
    (ho : o.op = .call { callee := .builtin .append, args := #[s, x], argTypes := #[26, 26] })
    (v : Value) (ys : List UInt8) (hs : a.eval s = v) (hO : BOwn w0 B v ys w) (hB : B ≤ w.heap.size)
    (A : Option Addr) (n c : Nat) (xs : List UInt8) (hx : a.eval x = .slice A n c) (hnil : A = none → c = 0) (hR : RB w A n xs) (hl : ys.length + n ≤ 100000)
    (h : Hid (∀ v' w', BOwn w0 B v' (ys ++ xs) w' → w.heap.size ≤ w'.heap.size → wpList Try.prog ops Q rest (a.put o.dst v') w')) : wpList Try.prog ops Q (o :: rest) a w := by
  obtain ⟨i0, hi, hz0, hz1, hz2⟩ := info_parts u8_info
  refine wpList_append_rb hgd s x _ ho B 5 i0 (.int .u8 0) 1 Try.underlying26 hi hz0 hz1 hz2 rfl v ys.length (ys.map byteV) hs hO.1 A n c xs hx hnil hR (by unfold maxLen; omega) (by omega) hB (fun v' w' h1 h2 => h.out v' w' ?_ h2.size)
  have hn := hR.1
  subst hn
  exact bown_more hO h1 h2
set_option maxHeartbeats 16000000 in
set_option maxRecDepth 100000 in
theorem rBody_any (x : Mi) (w : World) (h : UsOk w x.us) (hok : x.m.Ok) (hw : x.m.wide) :
    Calls Try.prog 13 #[miV x] w (BsPost w (bodyM x.m)) := by
  have HU := Lib.hid h
  have HM : Hid (∀ T : TypeId, T = 25 → MiB (w.alloc (.cells #[.int .i64 x.kind, .int .u32 (x.seq : Int), .int .i64 x.src, .int .i64 x.tgt, .bool x.rep, .slice x.us.A x.us.l.length x.us.c] T)) w.heap.size x) := Lib.hid (fun T e => by rw [e]; exact MiB.new w x)
  obtain ⟨⟨k1, k6⟩, ⟨s0, s7⟩, ⟨t0, t7⟩, hm, he, -, -, -, -⟩ := hok
  obtain ⟨hq, hwu⟩ := hw
  have HE := Lib.hid he
  have HWu := Lib.hid hwu
  unfold miV
  clear h he hwu
  obtain ⟨B, hB⟩ : ∃ B, w.heap.size = B := ⟨_, rfl⟩
  have HB := Lib.hid hB
  rw [hB] at HM
  clear hB
  obtain ⟨k, q, f, t, rp, A, c, l⟩ := x
  simp only [Mi.m] at *
  obtain ⟨f, rfl⟩ := Int.eq_ofNat_of_zero_le s0
  obtain ⟨t, rfl⟩ := Int.eq_ofNat_of_zero_le t0
  obtain ⟨n, hn⟩ : ∃ n, l.length = n := ⟨_, rfl⟩
  have HL := Lib.hid hn
  rw [hn] at HM hm ⊢
  clear hn
  have lq := numB_le (n := q) (by omega)
  have lf := numB_le (n := f) (by omega)
  have lt := numB_le (n := t) (by omega)
  have ln := numB_le (n := n) (by omega)
  have lr : (flagB rp).length ≤ 9 := by rw [flagB]; exact numB_le (by cases rp <;> simp)
  have SQ := Lib.hid (fun W => rnum_any q (by omega) W)
  have SF := Lib.hid (fun W => rnum_any f (by omega) W)
  have ST := Lib.hid (fun W => rnum_any t (by omega) W)
  have SN := Lib.hid (fun W => rnum_any n (by omega) W)
  have SR := Lib.hid (fun W => rflag_any rp W)

  have HNL := HL
  obtain ⟨Zq, hZq⟩ : ∃ Z, numB q = Z := ⟨_, rfl⟩
  obtain ⟨Zf, hZf⟩ : ∃ Z, numB f = Z := ⟨_, rfl⟩
  obtain ⟨Zt, hZt⟩ : ∃ Z, numB t = Z := ⟨_, rfl⟩
  obtain ⟨Zn, hZn⟩ : ∃ Z, numB n = Z := ⟨_, rfl⟩
  obtain ⟨Zr, hZr⟩ : ∃ Z, flagB rp = Z := ⟨_, rfl⟩
  rw [hZq] at lq SQ
  rw [hZf] at lf SF
  rw [hZt] at lt ST
  rw [hZn] at ln SN
  rw [hZr] at lr SR
  have HZq := Lib.hid hZq
  have HZf := Lib.hid hZf
  have HZt := Lib.hid hZt
  have HZn := Lib.hid hZn
  have HZr := Lib.hid hZr
  clear hZq hZf hZt hZn hZr
  by_cases hk1 : k = 1
  · subst hk1
    have HY : Hid (bodyM ⟨(1 : Int), q, (f : Int), (t : Int), rp, l⟩ = Zq ++ Zf ++ Zt) := Lib.hid (by simp [bodyM, seqB, tgtB, repB, usB, HZq.out, HZf.out, HZt.out])
    obtain ⟨Y, hY⟩ : ∃ Y, bodyM ⟨(1 : Int), q, (f : Int), (t : Int), rp, l⟩ = Y := ⟨_, rfl⟩
    rw [hY] at HY ⊢
    clear hY
    go_enter Try.func13, Try.ntmps13
    have HW : Hid (Below w.heap.size w (w.alloc (.cells #[.int .i64 (1 : Int), .int .u32 (q : Int), .int .i64 (f : Int), .int .i64 (t : Int), .bool rp, .slice A n c] 25))) := Lib.hid (below1 w _)
    have HM1 := Lib.hid (HM.out _ rfl)
    have HW1 := Lib.hid (BOwn.start (w.alloc (.cells #[.int .i64 (1 : Int), .int .u32 (q : Int), .int .i64 (f : Int), .int .i64 (t : Int), .bool rp, .slice A n c] 25)))
    have HUr : Hid (UsOk (w.alloc (.cells #[.int .i64 (1 : Int), .int .u32 (q : Int), .int .i64 (f : Int), .int .i64 (t : Int), .bool rp, .slice A n c] 25)) ⟨A, c, l⟩) := Lib.hid (HU.out.below HW.out)
    go_wp2_with fail
    rw [HB.out]
    generalize hw1 : w.alloc (.cells #[.int .i64 (1 : Int), .int .u32 (q : Int), .int .i64 (f : Int), .int .i64 (t : Int), .bool rp, .slice A n c] 25) = wb at HW HM1 HW1 HUr ⊢
    clear hw1
    have HO0 := HW1
    refine (SQ.out _).mono ?_
    rintro e w1a h1
    obtain ⟨A1, c1, rfl, hr1, hn1, hc1, hm1, hb1⟩ := adds_gives h1
    have HR1a := Lib.hid hr1
    have HN1a := Lib.hid hn1
    have HO1a := Lib.hid (HO0.out.then_ hb1)
    clear h1 hr1 hn1 hc1 hm1 hb1
    go_wp2_with (at_builtin; refine wpList_append_b rfl (.tmp 8) (.tmp 12) rfl _ _ rfl HO1a.out HO1a.out.2.1.size A1 _ c1 _ rfl HN1a.out HR1a.out (by first | omega | (simp only [List.length_append, List.length_nil]; omega)) ?_)
    refine Lib.hid ?_
    intro v1a w1b hO hsz
    have HO1b := Lib.hid hO
    clear hO hsz
    obtain ⟨c0, c1', c2, c3, c4, c5⟩ := (HM1.out.below HO1b.out.2.1).cells
    simp only [HL.out] at c0 c1' c2 c3 c4 c5
    go_wp2_with fail
    refine (SF.out _).mono ?_
    rintro e w2a h1
    obtain ⟨A1, c1, rfl, hr1, hn1, hc1, hm1, hb1⟩ := adds_gives h1
    have HR2a := Lib.hid hr1
    have HN2a := Lib.hid hn1
    have HO2a := Lib.hid (HO1b.out.then_ hb1)
    clear h1 hr1 hn1 hc1 hm1 hb1
    go_wp2_with (at_builtin; refine wpList_append_b rfl (.tmp 14) (.tmp 18) rfl _ _ rfl HO2a.out HO2a.out.2.1.size A1 _ c1 _ rfl HN2a.out HR2a.out (by first | omega | (simp only [List.length_append, List.length_nil]; omega)) ?_)
    refine Lib.hid ?_
    intro v2a w2b hO hsz
    have HO2b := Lib.hid hO
    clear hO hsz
    obtain ⟨c0, c1', c2, c3, c4, c5⟩ := (HM1.out.below HO2b.out.2.1).cells
    simp only [HL.out] at c0 c1' c2 c3 c4 c5
    go_wp2_with fail
    refine (ST.out _).mono ?_
    rintro e w3a h1
    obtain ⟨A1, c1, rfl, hr1, hn1, hc1, hm1, hb1⟩ := adds_gives h1
    have HR3a := Lib.hid hr1
    have HN3a := Lib.hid hn1
    have HO3a := Lib.hid (HO2b.out.then_ hb1)
    clear h1 hr1 hn1 hc1 hm1 hb1
    go_wp2_with (at_builtin; refine wpList_append_b rfl (.tmp 28) (.tmp 32) rfl _ _ rfl HO3a.out HO3a.out.2.1.size A1 _ c1 _ rfl HN3a.out HR3a.out (by first | omega | (simp only [List.length_append, List.length_nil]; omega)) ?_)
    refine Lib.hid ?_
    intro v3a w3b hO hsz
    have HO3b := Lib.hid hO
    clear hO hsz
    obtain ⟨c0, c1', c2, c3, c4, c5⟩ := (HM1.out.below HO3b.out.2.1).cells
    simp only [HL.out] at c0 c1' c2 c3 c4 c5
    have HF : Hid (BsPost w Y (.returned v3a) w3b) := Lib.hid ((HO3b.out.bs.since HW.out).as (by simp [HY.out]))
    obtain ⟨A9, c9, e9, _⟩ := HF.out
    simp only [Ending.returned.injEq] at e9
    subst e9
    go_wp2
    go_ret
    exact HF.out
  by_cases hk2 : k = 2
  · subst hk2
    have HY : Hid (bodyM ⟨(2 : Int), q, (f : Int), (t : Int), rp, l⟩ = Zq ++ Zf) := Lib.hid (by simp [bodyM, seqB, tgtB, repB, usB, HZq.out, HZf.out, HZt.out])
    obtain ⟨Y, hY⟩ : ∃ Y, bodyM ⟨(2 : Int), q, (f : Int), (t : Int), rp, l⟩ = Y := ⟨_, rfl⟩
    rw [hY] at HY ⊢
    clear hY
    go_enter Try.func13, Try.ntmps13
    have HW : Hid (Below w.heap.size w (w.alloc (.cells #[.int .i64 (2 : Int), .int .u32 (q : Int), .int .i64 (f : Int), .int .i64 (t : Int), .bool rp, .slice A n c] 25))) := Lib.hid (below1 w _)
    have HM1 := Lib.hid (HM.out _ rfl)
    have HW1 := Lib.hid (BOwn.start (w.alloc (.cells #[.int .i64 (2 : Int), .int .u32 (q : Int), .int .i64 (f : Int), .int .i64 (t : Int), .bool rp, .slice A n c] 25)))
    have HUr : Hid (UsOk (w.alloc (.cells #[.int .i64 (2 : Int), .int .u32 (q : Int), .int .i64 (f : Int), .int .i64 (t : Int), .bool rp, .slice A n c] 25)) ⟨A, c, l⟩) := Lib.hid (HU.out.below HW.out)
    go_wp2_with fail
    rw [HB.out]
    generalize hw1 : w.alloc (.cells #[.int .i64 (2 : Int), .int .u32 (q : Int), .int .i64 (f : Int), .int .i64 (t : Int), .bool rp, .slice A n c] 25) = wb at HW HM1 HW1 HUr ⊢
    clear hw1
    have HO0 := HW1
    refine (SQ.out _).mono ?_
    rintro e w1a h1
    obtain ⟨A1, c1, rfl, hr1, hn1, hc1, hm1, hb1⟩ := adds_gives h1
    have HR1a := Lib.hid hr1
    have HN1a := Lib.hid hn1
    have HO1a := Lib.hid (HO0.out.then_ hb1)
    clear h1 hr1 hn1 hc1 hm1 hb1
    go_wp2_with (at_builtin; refine wpList_append_b rfl (.tmp 8) (.tmp 12) rfl _ _ rfl HO1a.out HO1a.out.2.1.size A1 _ c1 _ rfl HN1a.out HR1a.out (by first | omega | (simp only [List.length_append, List.length_nil]; omega)) ?_)
    refine Lib.hid ?_
    intro v1a w1b hO hsz
    have HO1b := Lib.hid hO
    clear hO hsz
    obtain ⟨c0, c1', c2, c3, c4, c5⟩ := (HM1.out.below HO1b.out.2.1).cells
    simp only [HL.out] at c0 c1' c2 c3 c4 c5
    go_wp2_with fail
    refine (SF.out _).mono ?_
    rintro e w2a h1
    obtain ⟨A1, c1, rfl, hr1, hn1, hc1, hm1, hb1⟩ := adds_gives h1
    have HR2a := Lib.hid hr1
    have HN2a := Lib.hid hn1
    have HO2a := Lib.hid (HO1b.out.then_ hb1)
    clear h1 hr1 hn1 hc1 hm1 hb1
    go_wp2_with (at_builtin; refine wpList_append_b rfl (.tmp 14) (.tmp 18) rfl _ _ rfl HO2a.out HO2a.out.2.1.size A1 _ c1 _ rfl HN2a.out HR2a.out (by first | omega | (simp only [List.length_append, List.length_nil]; omega)) ?_)
    refine Lib.hid ?_
    intro v2a w2b hO hsz
    have HO2b := Lib.hid hO
    clear hO hsz
    obtain ⟨c0, c1', c2, c3, c4, c5⟩ := (HM1.out.below HO2b.out.2.1).cells
    simp only [HL.out] at c0 c1' c2 c3 c4 c5
    have HF : Hid (BsPost w Y (.returned v2a) w2b) := Lib.hid ((HO2b.out.bs.since HW.out).as (by simp [HY.out]))
    obtain ⟨A9, c9, e9, _⟩ := HF.out
    simp only [Ending.returned.injEq] at e9
    subst e9
    go_wp2
    go_ret
    exact HF.out
  by_cases hk3 : k = 3
  · subst hk3
    have HY : Hid (bodyM ⟨(3 : Int), q, (f : Int), (t : Int), rp, l⟩ = Zq ++ Zf ++ Zt) := Lib.hid (by simp [bodyM, seqB, tgtB, repB, usB, HZq.out, HZf.out, HZt.out])
    obtain ⟨Y, hY⟩ : ∃ Y, bodyM ⟨(3 : Int), q, (f : Int), (t : Int), rp, l⟩ = Y := ⟨_, rfl⟩
    rw [hY] at HY ⊢
    clear hY
    go_enter Try.func13, Try.ntmps13
    have HW : Hid (Below w.heap.size w (w.alloc (.cells #[.int .i64 (3 : Int), .int .u32 (q : Int), .int .i64 (f : Int), .int .i64 (t : Int), .bool rp, .slice A n c] 25))) := Lib.hid (below1 w _)
    have HM1 := Lib.hid (HM.out _ rfl)
    have HW1 := Lib.hid (BOwn.start (w.alloc (.cells #[.int .i64 (3 : Int), .int .u32 (q : Int), .int .i64 (f : Int), .int .i64 (t : Int), .bool rp, .slice A n c] 25)))
    have HUr : Hid (UsOk (w.alloc (.cells #[.int .i64 (3 : Int), .int .u32 (q : Int), .int .i64 (f : Int), .int .i64 (t : Int), .bool rp, .slice A n c] 25)) ⟨A, c, l⟩) := Lib.hid (HU.out.below HW.out)
    go_wp2_with fail
    rw [HB.out]
    generalize hw1 : w.alloc (.cells #[.int .i64 (3 : Int), .int .u32 (q : Int), .int .i64 (f : Int), .int .i64 (t : Int), .bool rp, .slice A n c] 25) = wb at HW HM1 HW1 HUr ⊢
    clear hw1
    have HO0 := HW1
    refine (SQ.out _).mono ?_
    rintro e w1a h1
    obtain ⟨A1, c1, rfl, hr1, hn1, hc1, hm1, hb1⟩ := adds_gives h1
    have HR1a := Lib.hid hr1
    have HN1a := Lib.hid hn1
    have HO1a := Lib.hid (HO0.out.then_ hb1)
    clear h1 hr1 hn1 hc1 hm1 hb1
    go_wp2_with (at_builtin; refine wpList_append_b rfl (.tmp 8) (.tmp 12) rfl _ _ rfl HO1a.out HO1a.out.2.1.size A1 _ c1 _ rfl HN1a.out HR1a.out (by first | omega | (simp only [List.length_append, List.length_nil]; omega)) ?_)
    refine Lib.hid ?_
    intro v1a w1b hO hsz
    have HO1b := Lib.hid hO
    clear hO hsz
    obtain ⟨c0, c1', c2, c3, c4, c5⟩ := (HM1.out.below HO1b.out.2.1).cells
    simp only [HL.out] at c0 c1' c2 c3 c4 c5
    go_wp2_with fail
    refine (SF.out _).mono ?_
    rintro e w2a h1
    obtain ⟨A1, c1, rfl, hr1, hn1, hc1, hm1, hb1⟩ := adds_gives h1
    have HR2a := Lib.hid hr1
    have HN2a := Lib.hid hn1
    have HO2a := Lib.hid (HO1b.out.then_ hb1)
    clear h1 hr1 hn1 hc1 hm1 hb1
    go_wp2_with (at_builtin; refine wpList_append_b rfl (.tmp 14) (.tmp 18) rfl _ _ rfl HO2a.out HO2a.out.2.1.size A1 _ c1 _ rfl HN2a.out HR2a.out (by first | omega | (simp only [List.length_append, List.length_nil]; omega)) ?_)
    refine Lib.hid ?_
    intro v2a w2b hO hsz
    have HO2b := Lib.hid hO
    clear hO hsz
    obtain ⟨c0, c1', c2, c3, c4, c5⟩ := (HM1.out.below HO2b.out.2.1).cells
    simp only [HL.out] at c0 c1' c2 c3 c4 c5
    go_wp2_with fail
    refine (ST.out _).mono ?_
    rintro e w3a h1
    obtain ⟨A1, c1, rfl, hr1, hn1, hc1, hm1, hb1⟩ := adds_gives h1
    have HR3a := Lib.hid hr1
    have HN3a := Lib.hid hn1
    have HO3a := Lib.hid (HO2b.out.then_ hb1)
    clear h1 hr1 hn1 hc1 hm1 hb1
    go_wp2_with (at_builtin; refine wpList_append_b rfl (.tmp 28) (.tmp 32) rfl _ _ rfl HO3a.out HO3a.out.2.1.size A1 _ c1 _ rfl HN3a.out HR3a.out (by first | omega | (simp only [List.length_append, List.length_nil]; omega)) ?_)
    refine Lib.hid ?_
    intro v3a w3b hO hsz
    have HO3b := Lib.hid hO
    clear hO hsz
    obtain ⟨c0, c1', c2, c3, c4, c5⟩ := (HM1.out.below HO3b.out.2.1).cells
    simp only [HL.out] at c0 c1' c2 c3 c4 c5
    have HF : Hid (BsPost w Y (.returned v3a) w3b) := Lib.hid ((HO3b.out.bs.since HW.out).as (by simp [HY.out]))
    obtain ⟨A9, c9, e9, _⟩ := HF.out
    simp only [Ending.returned.injEq] at e9
    subst e9
    go_wp2
    go_ret
    exact HF.out
  by_cases hk4 : k = 4
  · subst hk4
    have HY : Hid (bodyM ⟨(4 : Int), q, (f : Int), (t : Int), rp, l⟩ = Zq ++ Zf) := Lib.hid (by simp [bodyM, seqB, tgtB, repB, usB, HZq.out, HZf.out, HZt.out])
    obtain ⟨Y, hY⟩ : ∃ Y, bodyM ⟨(4 : Int), q, (f : Int), (t : Int), rp, l⟩ = Y := ⟨_, rfl⟩
    rw [hY] at HY ⊢
    clear hY
    go_enter Try.func13, Try.ntmps13
    have HW : Hid (Below w.heap.size w (w.alloc (.cells #[.int .i64 (4 : Int), .int .u32 (q : Int), .int .i64 (f : Int), .int .i64 (t : Int), .bool rp, .slice A n c] 25))) := Lib.hid (below1 w _)
    have HM1 := Lib.hid (HM.out _ rfl)
    have HW1 := Lib.hid (BOwn.start (w.alloc (.cells #[.int .i64 (4 : Int), .int .u32 (q : Int), .int .i64 (f : Int), .int .i64 (t : Int), .bool rp, .slice A n c] 25)))
    have HUr : Hid (UsOk (w.alloc (.cells #[.int .i64 (4 : Int), .int .u32 (q : Int), .int .i64 (f : Int), .int .i64 (t : Int), .bool rp, .slice A n c] 25)) ⟨A, c, l⟩) := Lib.hid (HU.out.below HW.out)
    go_wp2_with fail
    rw [HB.out]
    generalize hw1 : w.alloc (.cells #[.int .i64 (4 : Int), .int .u32 (q : Int), .int .i64 (f : Int), .int .i64 (t : Int), .bool rp, .slice A n c] 25) = wb at HW HM1 HW1 HUr ⊢
    clear hw1
    have HO0 := HW1
    refine (SQ.out _).mono ?_
    rintro e w1a h1
    obtain ⟨A1, c1, rfl, hr1, hn1, hc1, hm1, hb1⟩ := adds_gives h1
    have HR1a := Lib.hid hr1
    have HN1a := Lib.hid hn1
    have HO1a := Lib.hid (HO0.out.then_ hb1)
    clear h1 hr1 hn1 hc1 hm1 hb1
    go_wp2_with (at_builtin; refine wpList_append_b rfl (.tmp 8) (.tmp 12) rfl _ _ rfl HO1a.out HO1a.out.2.1.size A1 _ c1 _ rfl HN1a.out HR1a.out (by first | omega | (simp only [List.length_append, List.length_nil]; omega)) ?_)
    refine Lib.hid ?_
    intro v1a w1b hO hsz
    have HO1b := Lib.hid hO
    clear hO hsz
    obtain ⟨c0, c1', c2, c3, c4, c5⟩ := (HM1.out.below HO1b.out.2.1).cells
    simp only [HL.out] at c0 c1' c2 c3 c4 c5
    go_wp2_with fail
    refine (SF.out _).mono ?_
    rintro e w2a h1
    obtain ⟨A1, c1, rfl, hr1, hn1, hc1, hm1, hb1⟩ := adds_gives h1
    have HR2a := Lib.hid hr1
    have HN2a := Lib.hid hn1
    have HO2a := Lib.hid (HO1b.out.then_ hb1)
    clear h1 hr1 hn1 hc1 hm1 hb1
    go_wp2_with (at_builtin; refine wpList_append_b rfl (.tmp 14) (.tmp 18) rfl _ _ rfl HO2a.out HO2a.out.2.1.size A1 _ c1 _ rfl HN2a.out HR2a.out (by first | omega | (simp only [List.length_append, List.length_nil]; omega)) ?_)
    refine Lib.hid ?_
    intro v2a w2b hO hsz
    have HO2b := Lib.hid hO
    clear hO hsz
    obtain ⟨c0, c1', c2, c3, c4, c5⟩ := (HM1.out.below HO2b.out.2.1).cells
    simp only [HL.out] at c0 c1' c2 c3 c4 c5
    have HF : Hid (BsPost w Y (.returned v2a) w2b) := Lib.hid ((HO2b.out.bs.since HW.out).as (by simp [HY.out]))
    obtain ⟨A9, c9, e9, _⟩ := HF.out
    simp only [Ending.returned.injEq] at e9
    subst e9
    go_wp2
    go_ret
    exact HF.out
  by_cases hk5 : k = 5
  · subst hk5
    have HY : Hid (bodyM ⟨(5 : Int), q, (f : Int), (t : Int), rp, l⟩ = Zf ++ Zn ++ l.flatMap updB) := Lib.hid (by simp [bodyM, seqB, tgtB, repB, usB, HZf.out, HZn.out, HZr.out, HL.out])
    obtain ⟨Y, hY⟩ : ∃ Y, bodyM ⟨(5 : Int), q, (f : Int), (t : Int), rp, l⟩ = Y := ⟨_, rfl⟩
    rw [hY] at HY ⊢
    clear hY
    go_enter Try.func13, Try.ntmps13
    have HW : Hid (Below w.heap.size w (w.alloc (.cells #[.int .i64 (5 : Int), .int .u32 (q : Int), .int .i64 (f : Int), .int .i64 (t : Int), .bool rp, .slice A n c] 25))) := Lib.hid (below1 w _)
    have HM1 := Lib.hid (HM.out _ rfl)
    have HW1 := Lib.hid (BOwn.start (w.alloc (.cells #[.int .i64 (5 : Int), .int .u32 (q : Int), .int .i64 (f : Int), .int .i64 (t : Int), .bool rp, .slice A n c] 25)))
    have HUr : Hid (UsOk (w.alloc (.cells #[.int .i64 (5 : Int), .int .u32 (q : Int), .int .i64 (f : Int), .int .i64 (t : Int), .bool rp, .slice A n c] 25)) ⟨A, c, l⟩) := Lib.hid (HU.out.below HW.out)
    go_wp2_with fail
    rw [HB.out]
    generalize hw1 : w.alloc (.cells #[.int .i64 (5 : Int), .int .u32 (q : Int), .int .i64 (f : Int), .int .i64 (t : Int), .bool rp, .slice A n c] 25) = wb at HW HM1 HW1 HUr ⊢
    clear hw1
    have HO0 := HW1
    refine (SF.out _).mono ?_
    rintro e w1a h1
    obtain ⟨A1, c1, rfl, hr1, hn1, hc1, hm1, hb1⟩ := adds_gives h1
    have HR1a := Lib.hid hr1
    have HN1a := Lib.hid hn1
    have HO1a := Lib.hid (HO0.out.then_ hb1)
    clear h1 hr1 hn1 hc1 hm1 hb1
    go_wp2_with (at_builtin; refine wpList_append_b rfl (.tmp 14) (.tmp 18) rfl _ _ rfl HO1a.out HO1a.out.2.1.size A1 _ c1 _ rfl HN1a.out HR1a.out (by first | omega | (simp only [List.length_append, List.length_nil]; omega)) ?_)
    refine Lib.hid ?_
    intro v1a w1b hO hsz
    have HO1b := Lib.hid hO
    clear hO hsz
    obtain ⟨c0, c1', c2, c3, c4, c5⟩ := (HM1.out.below HO1b.out.2.1).cells
    simp only [HL.out] at c0 c1' c2 c3 c4 c5
    go_wp2_with fail
    refine (SN.out _).mono ?_
    rintro e w2a h1
    obtain ⟨A1, c1, rfl, hr1, hn1, hc1, hm1, hb1⟩ := adds_gives h1
    have HR2a := Lib.hid hr1
    have HN2a := Lib.hid hn1
    have HO2a := Lib.hid (HO1b.out.then_ hb1)
    clear h1 hr1 hn1 hc1 hm1 hb1
    go_wp2_with (at_builtin; refine wpList_append_b rfl (.tmp 45) (.tmp 50) rfl _ _ rfl HO2a.out HO2a.out.2.1.size A1 _ c1 _ rfl HN2a.out HR2a.out (by first | omega | (simp only [List.length_append, List.length_nil]; omega)) ?_)
    refine Lib.hid ?_
    intro v2a w2b hO hsz
    have HO2b := Lib.hid hO
    clear hO hsz
    obtain ⟨c0, c1', c2, c3, c4, c5⟩ := (HM1.out.below HO2b.out.2.1).cells
    simp only [HL.out] at c0 c1' c2 c3 c4 c5
    obtain ⟨HD, hHD⟩ : ∃ HD, Zf ++ Zn = HD := ⟨_, rfl⟩
    have lH : HD.length ≤ 40 := by rw [← hHD]; simp only [List.length_append, List.length_nil]; omega
    have HOD : Hid (BOwn wb wb.heap.size v2a HD w2b) := Lib.hid (HO2b.out.as (by simp [← hHD]))
    rw [hHD] at HY
    clear hHD
    go_wp2
    go_loopw [3, 4] (fun bv kv wr => ∃ j : Nat, j ≤ n ∧ kv = .int .i64 (j : Int) ∧ Hid (BOwn wb wb.heap.size bv (HD ++ (l.take j).flatMap updB) wr)) (fun _ kv _ => n - (RowKit.intOf kv).toNat)
    case atStart => exact ⟨0, Nat.zero_le _, rfl, Lib.hid (HOD.out.as (by simp))⟩
    case round =>
      clear c0 c1' c2 c3 c4 c5
      obtain ⟨j, hj, rfl, hO⟩ := hrel
      obtain ⟨c0, c1', c2, c3, c4, c5⟩ := (HM1.out.below hO.out.2.1).cells
      simp only [HL.out] at c0 c1' c2 c3 c4 c5
      by_cases hlt : j < n
      · have hjl : j < l.length := by rw [HL.out]; exact hlt
        have hs := (HUr.out.us.of_block hO.out.2.1)
        simp only [HL.out] at hs
        obtain ⟨b, off, rfl, hbl, u0, u1, u2⟩ := hs.at_ hlt hjl
        have hru := HE.out _ (List.getElem_mem hjl)
        have hwu := HWu.out _ (List.getElem_mem hjl)
        have hlen := upsB_length (l.take j) (fun u hu => HE.out u (List.mem_of_mem_take hu)) (fun u hu => HWu.out u (List.mem_of_mem_take hu))
        have hle := updB_length hru hwu
        have htk : (l.take j).length = j := by rw [List.length_take]; omega
        rw [htk] at hlen
        have HT : Hid ((l.take (j + 1)).flatMap updB = (l.take j).flatMap updB ++ updB l[j]) := Lib.hid (by rw [List.take_succ_eq_append_getElem hjl, List.flatMap_append]; simp)
        obtain ⟨u, hu⟩ : ∃ u, l[j] = u := ⟨_, rfl⟩
        rw [hu] at u0 u1 u2 hru hwu HT hle
        clear hu hs htk
        obtain ⟨un, ui, us⟩ := u
        have hr' : 0 ≤ un ∧ un < 8 ∧ (us = 0 ∨ us = 1 ∨ us = 2 ∨ us = 3) := by simpa [Up.right] using hru
        obtain ⟨h0, h8, hst⟩ := hr'
        have h3 : 0 ≤ us ∧ us ≤ 3 := by omega
        unfold Up.wide at hwu
        simp only at u0 u1 u2 hwu
        clear hru hst
        obtain ⟨un, rfl⟩ := Int.eq_ofNat_of_zero_le h0
        obtain ⟨us, rfl⟩ := Int.eq_ofNat_of_zero_le h3.1
        have HUB : Hid (updB ⟨(un : Int), ui, (us : Int)⟩ = numB un ++ numB ui ++ numB us) := Lib.hid rfl
        have U0 := Lib.hid u0
        have U1 := Lib.hid u1
        have U2 := Lib.hid u2
        have l0 := numB_le (n := un) (by omega)
        have l1 := numB_le (n := ui) (by omega)
        have l2 := numB_le (n := us) (by omega)
        have S0 := Lib.hid (fun W => rnum_any un (by omega) W)
        have S1 := Lib.hid (fun W => rnum_any ui (by omega) W)
        have S2 := Lib.hid (fun W => rnum_any us (by omega) W)
        obtain ⟨N0, hN0⟩ : ∃ Z, numB un = Z := ⟨_, rfl⟩
        obtain ⟨N1, hN1⟩ : ∃ Z, numB ui = Z := ⟨_, rfl⟩
        obtain ⟨N2, hN2⟩ : ∃ Z, numB us = Z := ⟨_, rfl⟩
        rw [hN0] at l0 S0 HUB
        rw [hN1] at l1 S1 HUB
        rw [hN2] at l2 S2 HUB
        obtain ⟨Yj, hY⟩ : ∃ Y, HD ++ (l.take j).flatMap updB = Y := ⟨_, rfl⟩
        have lY : Yj.length ≤ 40 + 27 * 16 := by rw [← hY, List.length_append]; omega
        have HYY := Lib.hid hY
        rw [hY] at hO
        have HOa := hO
        have q2 : (j : Int) < (n : Int) := by omega
        have q0 : (0 : Int) ≤ (j : Int) := by omega
        have un8 : (un : Int) < 18446744073709551616 := by omega
        have us8 : (us : Int) < 18446744073709551616 := by omega
        have ui8 : (ui : Int) < 18446744073709551616 := by omega
        clear hY hN0 hN1 hN2 hle hlen
        have HMx : Hid (∀ W, Below wb.heap.size wb W → W.cell? ⟨b, off + j * 3, none⟩ = some (.int .i64 (un : Int)) ∧ W.cell? ⟨b, off + j * 3 + 1, none⟩ = some (.int .u32 (ui : Int)) ∧ W.cell? ⟨b, off + j * 3 + 2, none⟩ = some (.int .i64 (us : Int))) := Lib.hid (fun W hW => by
          have h9 := (HUr.out.us.of_block hW)
          simp only [HL.out] at h9
          obtain ⟨b', off', e9, hb9, hx0, hx1, hx2⟩ := h9.at_ hlt hjl
          simp only [Option.some.injEq, Addr.mk.injEq] at e9
          obtain ⟨rfl, rfl, _⟩ := e9
          have w9 := (HUr.out.us.of_block hO.out.2.1)
          have hlw := hW
          obtain ⟨b8, off8, e8, hb8, y0, y1, y2⟩ := (by simpa only [HL.out] using w9 : SUp wr _ n l).at_ hlt hjl
          simp only [Option.some.injEq, Addr.mk.injEq] at e8
          obtain ⟨rfl, rfl, _⟩ := e8
          rw [U0.out] at y0
          rw [U1.out] at y1
          rw [U2.out] at y2
          simp only [Option.some.injEq, Value.int.injEq, true_and] at y0 y1 y2
          rw [hx0, hx1, hx2]
          simp [y0, y1, y2])
        go_wp2_with fail
        refine (S0.out _).mono ?_
        rintro e wr0a h1
        obtain ⟨A1, c1, rfl, hr1, hn1, hc1, hm1, hb1⟩ := adds_gives h1
        have HRr0a := Lib.hid hr1
        have HNr0a := Lib.hid hn1
        have HOr0a := Lib.hid (HOa.out.then_ hb1)
        clear h1 hr1 hn1 hc1 hm1 hb1
        go_wp2_with (at_builtin; refine wpList_append_b rfl (.tmp 59) (.tmp 67) rfl _ _ rfl HOr0a.out HOr0a.out.2.1.size A1 _ c1 _ rfl HNr0a.out HRr0a.out (by first | omega | (simp only [List.length_append, List.length_nil]; omega)) ?_)
        refine Lib.hid ?_
        intro vr0a wr0b hO hsz
        have HOr0b := Lib.hid hO
        clear hO hsz
        obtain ⟨d0, d1, d2, d3, d4, d5⟩ := (HM1.out.below HOr0b.out.2.1).cells
        simp only [HL.out] at d0 d1 d2 d3 d4 d5
        have HCx := HMx.out _ HOr0b.out.2.1
        obtain ⟨x0, x1, x2⟩ := HCx
        go_wp2_with fail
        refine (S1.out _).mono ?_
        rintro e wr1a h1
        obtain ⟨A1, c1, rfl, hr1, hn1, hc1, hm1, hb1⟩ := adds_gives h1
        have HRr1a := Lib.hid hr1
        have HNr1a := Lib.hid hn1
        have HOr1a := Lib.hid (HOr0b.out.then_ hb1)
        clear h1 hr1 hn1 hc1 hm1 hb1
        go_wp2_with (at_builtin; refine wpList_append_b rfl (.tmp 69) (.tmp 77) rfl _ _ rfl HOr1a.out HOr1a.out.2.1.size A1 _ c1 _ rfl HNr1a.out HRr1a.out (by first | omega | (simp only [List.length_append, List.length_nil]; omega)) ?_)
        refine Lib.hid ?_
        intro vr1a wr1b hO hsz
        have HOr1b := Lib.hid hO
        clear hO hsz
        obtain ⟨d0, d1, d2, d3, d4, d5⟩ := (HM1.out.below HOr1b.out.2.1).cells
        simp only [HL.out] at d0 d1 d2 d3 d4 d5
        have HCx := HMx.out _ HOr1b.out.2.1
        obtain ⟨x0, x1, x2⟩ := HCx
        go_wp2_with fail
        refine (S2.out _).mono ?_
        rintro e wr2a h1
        obtain ⟨A1, c1, rfl, hr1, hn1, hc1, hm1, hb1⟩ := adds_gives h1
        have HRr2a := Lib.hid hr1
        have HNr2a := Lib.hid hn1
        have HOr2a := Lib.hid (HOr1b.out.then_ hb1)
        clear h1 hr1 hn1 hc1 hm1 hb1
        go_wp2_with (at_builtin; refine wpList_append_b rfl (.tmp 79) (.tmp 87) rfl _ _ rfl HOr2a.out HOr2a.out.2.1.size A1 _ c1 _ rfl HNr2a.out HRr2a.out (by first | omega | (simp only [List.length_append, List.length_nil]; omega)) ?_)
        refine Lib.hid ?_
        intro vr2a wr2b hO hsz
        have HOr2b := Lib.hid hO
        clear hO hsz
        obtain ⟨d0, d1, d2, d3, d4, d5⟩ := (HM1.out.below HOr2b.out.2.1).cells
        simp only [HL.out] at d0 d1 d2 d3 d4 d5
        have HCx := HMx.out _ HOr2b.out.2.1
        obtain ⟨x0, x1, x2⟩ := HCx
        clear x0 x1 x2 d0 d1 d2 d3 d4 d5
        have HF : Hid (BOwn wb wb.heap.size vr2a (HD ++ (l.take (j + 1)).flatMap updB) wr2b) := Lib.hid (HOr2b.out.as (by simp [HT.out, HUB.out, ← HYY.out]))
        go_wp2
        go_roundw
        case rel => exact ⟨j + 1, by omega, by go_num, HF⟩
        case measure => simp [RowKit.intOf]; omega
      · obtain rfl : j = n := by omega
        have HF : Hid (BsPost w Y (.returned u3) wr) := Lib.hid (by
          have h1 := hO.out
          rw [List.take_of_length_le (by rw [HL.out]; exact Nat.le_refl _)] at h1
          rw [HY.out]
          exact h1.bs.since HW.out)
        obtain ⟨A9, c9, e9, _⟩ := HF.out
        simp only [Ending.returned.injEq] at e9
        subst e9
        go_wp2
        go_ret
        exact HF.out
  by_cases hk6 : k = 6
  · subst hk6
    have HY : Hid (bodyM ⟨(6 : Int), q, (f : Int), (t : Int), rp, l⟩ = Zf ++ Zr ++ Zn ++ l.flatMap updB) := Lib.hid (by simp [bodyM, seqB, tgtB, repB, usB, HZf.out, HZn.out, HZr.out, HL.out])
    obtain ⟨Y, hY⟩ : ∃ Y, bodyM ⟨(6 : Int), q, (f : Int), (t : Int), rp, l⟩ = Y := ⟨_, rfl⟩
    rw [hY] at HY ⊢
    clear hY
    go_enter Try.func13, Try.ntmps13
    have HW : Hid (Below w.heap.size w (w.alloc (.cells #[.int .i64 (6 : Int), .int .u32 (q : Int), .int .i64 (f : Int), .int .i64 (t : Int), .bool rp, .slice A n c] 25))) := Lib.hid (below1 w _)
    have HM1 := Lib.hid (HM.out _ rfl)
    have HW1 := Lib.hid (BOwn.start (w.alloc (.cells #[.int .i64 (6 : Int), .int .u32 (q : Int), .int .i64 (f : Int), .int .i64 (t : Int), .bool rp, .slice A n c] 25)))
    have HUr : Hid (UsOk (w.alloc (.cells #[.int .i64 (6 : Int), .int .u32 (q : Int), .int .i64 (f : Int), .int .i64 (t : Int), .bool rp, .slice A n c] 25)) ⟨A, c, l⟩) := Lib.hid (HU.out.below HW.out)
    go_wp2_with fail
    rw [HB.out]
    generalize hw1 : w.alloc (.cells #[.int .i64 (6 : Int), .int .u32 (q : Int), .int .i64 (f : Int), .int .i64 (t : Int), .bool rp, .slice A n c] 25) = wb at HW HM1 HW1 HUr ⊢
    clear hw1
    have HO0 := HW1
    refine (SF.out _).mono ?_
    rintro e w1a h1
    obtain ⟨A1, c1, rfl, hr1, hn1, hc1, hm1, hb1⟩ := adds_gives h1
    have HR1a := Lib.hid hr1
    have HN1a := Lib.hid hn1
    have HO1a := Lib.hid (HO0.out.then_ hb1)
    clear h1 hr1 hn1 hc1 hm1 hb1
    go_wp2_with (at_builtin; refine wpList_append_b rfl (.tmp 14) (.tmp 18) rfl _ _ rfl HO1a.out HO1a.out.2.1.size A1 _ c1 _ rfl HN1a.out HR1a.out (by first | omega | (simp only [List.length_append, List.length_nil]; omega)) ?_)
    refine Lib.hid ?_
    intro v1a w1b hO hsz
    have HO1b := Lib.hid hO
    clear hO hsz
    obtain ⟨c0, c1', c2, c3, c4, c5⟩ := (HM1.out.below HO1b.out.2.1).cells
    simp only [HL.out] at c0 c1' c2 c3 c4 c5
    go_wp2_with fail
    refine (SR.out _).mono ?_
    rintro e w2a h1
    obtain ⟨A1, c1, rfl, hr1, hn1, hc1, hm1, hb1⟩ := (id h1 : BGives _ _ _ _)
    have HR2a := Lib.hid hr1
    have HN2a := Lib.hid hn1
    have HO2a := Lib.hid (HO1b.out.then_ hb1)
    clear h1 hr1 hn1 hc1 hm1 hb1
    go_wp2_with (at_builtin; refine wpList_append_b rfl (.tmp 37) (.tmp 40) rfl _ _ rfl HO2a.out HO2a.out.2.1.size A1 _ c1 _ rfl HN2a.out HR2a.out (by first | omega | (simp only [List.length_append, List.length_nil]; omega)) ?_)
    refine Lib.hid ?_
    intro v2a w2b hO hsz
    have HO2b := Lib.hid hO
    clear hO hsz
    obtain ⟨c0, c1', c2, c3, c4, c5⟩ := (HM1.out.below HO2b.out.2.1).cells
    simp only [HL.out] at c0 c1' c2 c3 c4 c5
    go_wp2_with fail
    refine (SN.out _).mono ?_
    rintro e w3a h1
    obtain ⟨A1, c1, rfl, hr1, hn1, hc1, hm1, hb1⟩ := adds_gives h1
    have HR3a := Lib.hid hr1
    have HN3a := Lib.hid hn1
    have HO3a := Lib.hid (HO2b.out.then_ hb1)
    clear h1 hr1 hn1 hc1 hm1 hb1
    go_wp2_with (at_builtin; refine wpList_append_b rfl (.tmp 45) (.tmp 50) rfl _ _ rfl HO3a.out HO3a.out.2.1.size A1 _ c1 _ rfl HN3a.out HR3a.out (by first | omega | (simp only [List.length_append, List.length_nil]; omega)) ?_)
    refine Lib.hid ?_
    intro v3a w3b hO hsz
    have HO3b := Lib.hid hO
    clear hO hsz
    obtain ⟨c0, c1', c2, c3, c4, c5⟩ := (HM1.out.below HO3b.out.2.1).cells
    simp only [HL.out] at c0 c1' c2 c3 c4 c5
    obtain ⟨HD, hHD⟩ : ∃ HD, Zf ++ Zr ++ Zn = HD := ⟨_, rfl⟩
    have lH : HD.length ≤ 40 := by rw [← hHD]; simp only [List.length_append, List.length_nil]; omega
    have HOD : Hid (BOwn wb wb.heap.size v3a HD w3b) := Lib.hid (HO3b.out.as (by simp [← hHD]))
    rw [hHD] at HY
    clear hHD
    go_wp2
    go_loopw [3, 4] (fun bv kv wr => ∃ j : Nat, j ≤ n ∧ kv = .int .i64 (j : Int) ∧ Hid (BOwn wb wb.heap.size bv (HD ++ (l.take j).flatMap updB) wr)) (fun _ kv _ => n - (RowKit.intOf kv).toNat)
    case atStart => exact ⟨0, Nat.zero_le _, rfl, Lib.hid (HOD.out.as (by simp))⟩
    case round =>
      clear c0 c1' c2 c3 c4 c5
      obtain ⟨j, hj, rfl, hO⟩ := hrel
      obtain ⟨c0, c1', c2, c3, c4, c5⟩ := (HM1.out.below hO.out.2.1).cells
      simp only [HL.out] at c0 c1' c2 c3 c4 c5
      by_cases hlt : j < n
      · have hjl : j < l.length := by rw [HL.out]; exact hlt
        have hs := (HUr.out.us.of_block hO.out.2.1)
        simp only [HL.out] at hs
        obtain ⟨b, off, rfl, hbl, u0, u1, u2⟩ := hs.at_ hlt hjl
        have hru := HE.out _ (List.getElem_mem hjl)
        have hwu := HWu.out _ (List.getElem_mem hjl)
        have hlen := upsB_length (l.take j) (fun u hu => HE.out u (List.mem_of_mem_take hu)) (fun u hu => HWu.out u (List.mem_of_mem_take hu))
        have hle := updB_length hru hwu
        have htk : (l.take j).length = j := by rw [List.length_take]; omega
        rw [htk] at hlen
        have HT : Hid ((l.take (j + 1)).flatMap updB = (l.take j).flatMap updB ++ updB l[j]) := Lib.hid (by rw [List.take_succ_eq_append_getElem hjl, List.flatMap_append]; simp)
        obtain ⟨u, hu⟩ : ∃ u, l[j] = u := ⟨_, rfl⟩
        rw [hu] at u0 u1 u2 hru hwu HT hle
        clear hu hs htk
        obtain ⟨un, ui, us⟩ := u
        have hr' : 0 ≤ un ∧ un < 8 ∧ (us = 0 ∨ us = 1 ∨ us = 2 ∨ us = 3) := by simpa [Up.right] using hru
        obtain ⟨h0, h8, hst⟩ := hr'
        have h3 : 0 ≤ us ∧ us ≤ 3 := by omega
        unfold Up.wide at hwu
        simp only at u0 u1 u2 hwu
        clear hru hst
        obtain ⟨un, rfl⟩ := Int.eq_ofNat_of_zero_le h0
        obtain ⟨us, rfl⟩ := Int.eq_ofNat_of_zero_le h3.1
        have HUB : Hid (updB ⟨(un : Int), ui, (us : Int)⟩ = numB un ++ numB ui ++ numB us) := Lib.hid rfl
        have U0 := Lib.hid u0
        have U1 := Lib.hid u1
        have U2 := Lib.hid u2
        have l0 := numB_le (n := un) (by omega)
        have l1 := numB_le (n := ui) (by omega)
        have l2 := numB_le (n := us) (by omega)
        have S0 := Lib.hid (fun W => rnum_any un (by omega) W)
        have S1 := Lib.hid (fun W => rnum_any ui (by omega) W)
        have S2 := Lib.hid (fun W => rnum_any us (by omega) W)
        obtain ⟨N0, hN0⟩ : ∃ Z, numB un = Z := ⟨_, rfl⟩
        obtain ⟨N1, hN1⟩ : ∃ Z, numB ui = Z := ⟨_, rfl⟩
        obtain ⟨N2, hN2⟩ : ∃ Z, numB us = Z := ⟨_, rfl⟩
        rw [hN0] at l0 S0 HUB
        rw [hN1] at l1 S1 HUB
        rw [hN2] at l2 S2 HUB
        obtain ⟨Yj, hY⟩ : ∃ Y, HD ++ (l.take j).flatMap updB = Y := ⟨_, rfl⟩
        have lY : Yj.length ≤ 40 + 27 * 16 := by rw [← hY, List.length_append]; omega
        have HYY := Lib.hid hY
        rw [hY] at hO
        have HOa := hO
        have q2 : (j : Int) < (n : Int) := by omega
        have q0 : (0 : Int) ≤ (j : Int) := by omega
        have un8 : (un : Int) < 18446744073709551616 := by omega
        have us8 : (us : Int) < 18446744073709551616 := by omega
        have ui8 : (ui : Int) < 18446744073709551616 := by omega
        clear hY hN0 hN1 hN2 hle hlen
        have HMx : Hid (∀ W, Below wb.heap.size wb W → W.cell? ⟨b, off + j * 3, none⟩ = some (.int .i64 (un : Int)) ∧ W.cell? ⟨b, off + j * 3 + 1, none⟩ = some (.int .u32 (ui : Int)) ∧ W.cell? ⟨b, off + j * 3 + 2, none⟩ = some (.int .i64 (us : Int))) := Lib.hid (fun W hW => by
          have h9 := (HUr.out.us.of_block hW)
          simp only [HL.out] at h9
          obtain ⟨b', off', e9, hb9, hx0, hx1, hx2⟩ := h9.at_ hlt hjl
          simp only [Option.some.injEq, Addr.mk.injEq] at e9
          obtain ⟨rfl, rfl, _⟩ := e9
          have w9 := (HUr.out.us.of_block hO.out.2.1)
          have hlw := hW
          obtain ⟨b8, off8, e8, hb8, y0, y1, y2⟩ := (by simpa only [HL.out] using w9 : SUp wr _ n l).at_ hlt hjl
          simp only [Option.some.injEq, Addr.mk.injEq] at e8
          obtain ⟨rfl, rfl, _⟩ := e8
          rw [U0.out] at y0
          rw [U1.out] at y1
          rw [U2.out] at y2
          simp only [Option.some.injEq, Value.int.injEq, true_and] at y0 y1 y2
          rw [hx0, hx1, hx2]
          simp [y0, y1, y2])
        go_wp2_with fail
        refine (S0.out _).mono ?_
        rintro e wr0a h1
        obtain ⟨A1, c1, rfl, hr1, hn1, hc1, hm1, hb1⟩ := adds_gives h1
        have HRr0a := Lib.hid hr1
        have HNr0a := Lib.hid hn1
        have HOr0a := Lib.hid (HOa.out.then_ hb1)
        clear h1 hr1 hn1 hc1 hm1 hb1
        go_wp2_with (at_builtin; refine wpList_append_b rfl (.tmp 59) (.tmp 67) rfl _ _ rfl HOr0a.out HOr0a.out.2.1.size A1 _ c1 _ rfl HNr0a.out HRr0a.out (by first | omega | (simp only [List.length_append, List.length_nil]; omega)) ?_)
        refine Lib.hid ?_
        intro vr0a wr0b hO hsz
        have HOr0b := Lib.hid hO
        clear hO hsz
        obtain ⟨d0, d1, d2, d3, d4, d5⟩ := (HM1.out.below HOr0b.out.2.1).cells
        simp only [HL.out] at d0 d1 d2 d3 d4 d5
        have HCx := HMx.out _ HOr0b.out.2.1
        obtain ⟨x0, x1, x2⟩ := HCx
        go_wp2_with fail
        refine (S1.out _).mono ?_
        rintro e wr1a h1
        obtain ⟨A1, c1, rfl, hr1, hn1, hc1, hm1, hb1⟩ := adds_gives h1
        have HRr1a := Lib.hid hr1
        have HNr1a := Lib.hid hn1
        have HOr1a := Lib.hid (HOr0b.out.then_ hb1)
        clear h1 hr1 hn1 hc1 hm1 hb1
        go_wp2_with (at_builtin; refine wpList_append_b rfl (.tmp 69) (.tmp 77) rfl _ _ rfl HOr1a.out HOr1a.out.2.1.size A1 _ c1 _ rfl HNr1a.out HRr1a.out (by first | omega | (simp only [List.length_append, List.length_nil]; omega)) ?_)
        refine Lib.hid ?_
        intro vr1a wr1b hO hsz
        have HOr1b := Lib.hid hO
        clear hO hsz
        obtain ⟨d0, d1, d2, d3, d4, d5⟩ := (HM1.out.below HOr1b.out.2.1).cells
        simp only [HL.out] at d0 d1 d2 d3 d4 d5
        have HCx := HMx.out _ HOr1b.out.2.1
        obtain ⟨x0, x1, x2⟩ := HCx
        go_wp2_with fail
        refine (S2.out _).mono ?_
        rintro e wr2a h1
        obtain ⟨A1, c1, rfl, hr1, hn1, hc1, hm1, hb1⟩ := adds_gives h1
        have HRr2a := Lib.hid hr1
        have HNr2a := Lib.hid hn1
        have HOr2a := Lib.hid (HOr1b.out.then_ hb1)
        clear h1 hr1 hn1 hc1 hm1 hb1
        go_wp2_with (at_builtin; refine wpList_append_b rfl (.tmp 79) (.tmp 87) rfl _ _ rfl HOr2a.out HOr2a.out.2.1.size A1 _ c1 _ rfl HNr2a.out HRr2a.out (by first | omega | (simp only [List.length_append, List.length_nil]; omega)) ?_)
        refine Lib.hid ?_
        intro vr2a wr2b hO hsz
        have HOr2b := Lib.hid hO
        clear hO hsz
        obtain ⟨d0, d1, d2, d3, d4, d5⟩ := (HM1.out.below HOr2b.out.2.1).cells
        simp only [HL.out] at d0 d1 d2 d3 d4 d5
        have HCx := HMx.out _ HOr2b.out.2.1
        obtain ⟨x0, x1, x2⟩ := HCx
        clear x0 x1 x2 d0 d1 d2 d3 d4 d5
        have HF : Hid (BOwn wb wb.heap.size vr2a (HD ++ (l.take (j + 1)).flatMap updB) wr2b) := Lib.hid (HOr2b.out.as (by simp [HT.out, HUB.out, ← HYY.out]))
        go_wp2
        go_roundw
        case rel => exact ⟨j + 1, by omega, by go_num, HF⟩
        case measure => simp [RowKit.intOf]; omega
      · obtain rfl : j = n := by omega
        have HF : Hid (BsPost w Y (.returned u3) wr) := Lib.hid (by
          have h1 := hO.out
          rw [List.take_of_length_le (by rw [HL.out]; exact Nat.le_refl _)] at h1
          rw [HY.out]
          exact h1.bs.since HW.out)
        obtain ⟨A9, c9, e9, _⟩ := HF.out
        simp only [Ending.returned.injEq] at e9
        subst e9
        go_wp2
        go_ret
        exact HF.out
  exact absurd k1 (by omega)
end Go.Proofs.Ytjbemjnofnifaaa
