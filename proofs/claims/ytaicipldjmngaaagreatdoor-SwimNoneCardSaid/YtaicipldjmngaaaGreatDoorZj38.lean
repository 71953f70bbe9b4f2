import Derived.Test.YtaicipldjmngaaaGreatDoorZj36
import Derived.Test.YtaicipldjmngaaaGreatDoorZj37
import Derived.Test.YtaicipldjmngaaaGreatDoorZj32
namespace Go.Proofs.YtaicipldjmngaaaGreatDoor.sp
open Go.RowKit
set_option linter.unusedSimpArgs false
set_option linter.unusedVariables false
structure Bs (w : World) (A : Option Addr) (c : Nat) (xs : List UInt8) : Prop where
  rb : RB w A xs.length xs
  nil : A = none → c = 0
  le : xs.length ≤ c
  ty : TyB w A xs.length
theorem _root_.Go.Proofs.YtaicipldjmngaaaGreatDoor.TyB.but {S : Nat → Prop} {w w' : World} {A : Option Addr} {n : Nat} (h : TyB w A n) (hb : But S w w') (hs : ∀ b off, A = some ⟨b, off, none⟩ → ¬ S b) : TyB w' A n := fun hn => by
  obtain ⟨b, off, cur, e, hh⟩ := h hn
  exact ⟨b, off, cur, e, (hb.block b (block_lt hh) (hs b off e)).trans hh⟩
theorem _root_.Go.Proofs.YtaicipldjmngaaaGreatDoor.TyB.below {w w' : World} {A : Option Addr} {n : Nat} (h : TyB w A n) (hb : Below w.heap.size w w') : TyB w' A n := h.but (But.of_below (S := fun _ => False) hb) (fun _ _ _ h => h)
theorem Bs.below {w w' : World} {A : Option Addr} {c : Nat} {xs : List UInt8} (h : Bs w A c xs) (hb : Below w.heap.size w w') : Bs w' A c xs := ⟨h.rb.below hb, h.nil, h.le, h.ty.below hb⟩
theorem Bs.zero (w : World) : Bs w none 0 [] := ⟨RB.zero _ _, fun _ => rfl, Nat.le_refl _, fun h => absurd h (Nat.lt_irrefl _)⟩
def BsPost (w : World) (ys : List UInt8) (e : Ending) (w' : World) : Prop := ∃ A c, e = .returned (.slice A ys.length c) ∧ Bs w' A c ys ∧ (c ≤ maxLen ∧ ∀ b off, A = some ⟨b, off, none⟩ → w.heap.size ≤ b) ∧ Below w.heap.size w w'
theorem adds_bs {w w' : World} {m : Nat} {xs : List UInt8} {e : Ending} (h : Adds w w.heap.size m xs e w') : BsPost w xs e w' := by
  obtain ⟨v, rfl, hown, hb⟩ := h
  have hl : xs.length = m := by simpa using hown.1
  subst hl
  obtain ⟨A, c, rfl, hr, h1, h2, h3⟩ := RB.own hown
  exact ⟨A, c, rfl, ⟨hr, h1, h2, TyB.own hown⟩, ⟨h3, fun b off e => (hown.lt b (by rw [e]; rfl)).1⟩, hb⟩
theorem BsPost.since {w w1 w' : World} {ys : List UInt8} {e : Ending} (h : BsPost w1 ys e w') (hb : Below w.heap.size w w1) : BsPost w ys e w' := by
  obtain ⟨A, c, h1, h2, ⟨h3, h4⟩, h5⟩ := h
  exact ⟨A, c, h1, h2, ⟨h3, fun b off e => Nat.le_trans hb.size (h4 b off e)⟩, hb.trans (h5.mono hb.size)⟩
theorem BsPost.as {w w' : World} {ys zs : List UInt8} {e : Ending} (h : BsPost w ys e w') (e1 : ys = zs) : BsPost w zs e w' := e1 ▸ h
theorem _root_.Go.Proofs.YtaicipldjmngaaaGreatDoor.BGives.since {w w1 w' : World} {ys : List UInt8} {e : Ending} (h : BGives w1 ys e w') (hb : Below w.heap.size w w1) : BGives w ys e w' := by
  obtain ⟨A, c, h1, h2, h3, h4, h5, h6⟩ := h
  exact ⟨A, c, h1, h2, h3, h4, h5, hb.trans (h6.mono hb.size)⟩
theorem _root_.Go.Proofs.YtaicipldjmngaaaGreatDoor.BGives.as {w w' : World} {ys zs : List UInt8} {e : Ending} (h : BGives w ys e w') (e1 : ys = zs) : BGives w zs e w' := e1 ▸ h
theorem _root_.Go.Proofs.YtaicipldjmngaaaGreatDoor.BOwn.as {w w' : World} {B : Nat} {v : Value} {ys zs : List UInt8} (h : BOwn w B v ys w') (e1 : ys = zs) : BOwn w B v zs w' := e1 ▸ h
end Go.Proofs.YtaicipldjmngaaaGreatDoor.sp

namespace Go.Proofs.YtaicipldjmngaaaGreatDoor.sp
open Go.RowKit
set_option linter.unusedSimpArgs false
set_option linter.unusedVariables false
def partY (m : Ms) (p : Nat) : List UInt8 := match p with
  | 0 => numB m.seq
  | 1 => numB m.src.toNat
  | 2 => numB m.tgt.toNat
  | 3 => flagB m.rep
  | _ => numB m.us.length ++ m.us.flatMap updB
theorem body_parts {m : Ms} (h : m.Ok) : bodyM m = (partsL m.kind).flatMap (fun p => partY m p.toNat) := by
  obtain ⟨⟨k1, k6⟩, -, -, -, -, -, -, -, -⟩ := h
  obtain ⟨k, q, f, t, rp, l⟩ := m
  simp only at *
  by_cases c1 : k = 1
  · subst c1; simp [bodyM, seqB, tgtB, repB, usB, partsL, partY]
  by_cases c2 : k = 2
  · subst c2; simp [bodyM, seqB, tgtB, repB, usB, partsL, partY]
  by_cases c3 : k = 3
  · subst c3; simp [bodyM, seqB, tgtB, repB, usB, partsL, partY]
  by_cases c4 : k = 4
  · subst c4; simp [bodyM, seqB, tgtB, repB, usB, partsL, partY]
  by_cases c5 : k = 5
  · subst c5; simp [bodyM, seqB, tgtB, repB, usB, partsL, partY]
  by_cases c6 : k = 6
  · subst c6; simp [bodyM, seqB, tgtB, repB, usB, partsL, partY]
  exact absurd k1 (by omega)
theorem partY_length {m : Ms} (h : m.Ok) (hw : m.wide) (p : Nat) : (partY m p).length ≤ 9 + 27 * 16 := by
  obtain ⟨hq, hu⟩ := hw
  have hf := h.src
  have ht := h.tgt
  have hm := h.many
  unfold partY
  split
  · have := numB_le (n := m.seq) (by omega); omega
  · have := numB_le (n := m.src.toNat) (by omega); omega
  · have := numB_le (n := m.tgt.toNat) (by omega); omega
  · rw [flagB]
    have := numB_le (n := if m.rep then 1 else 0) (by cases m.rep <;> simp)
    omega
  · have b1 := numB_le (n := m.us.length) (by omega)
    have b2 := upsB_length m.us h.each hu
    rw [List.length_append]
    omega
theorem layNum {w : World} {A : Option Addr} {c : Nat} {xs : List UInt8} (h : Bs w A c xs) (N : Nat) (hN : N < 256 ^ 8) (hl : xs.length ≤ 100000) {L : Nat} (hL : xs.length = L) :
    Calls Tryz.prog 150 #[.slice A L c, .int .u64 (N : Int)] w (BsPost w (xs ++ numB N)) := by
  subst hL
  have s1 := apart_any A xs.length c w h.le h.nil (by omega)
  have s2 := num_any (.slice A xs.length xs.length) w.heap.size xs.length xs N hN w (.apart h.rb h.nil h.le _) (by omega) (Nat.le_refl _)
  obtain ⟨n, hn⟩ : ∃ n, xs.length = n := ⟨_, rfl⟩
  rw [hn] at s1 s2 ⊢
  obtain ⟨Z, hZ⟩ : ∃ Z, xs ++ numB N = Z := ⟨_, rfl⟩
  rw [hZ] at s2 ⊢
  clear hZ hn
  have S2 := Lib.hid s2
  clear h s2 hl
  go_enter Tryz.func150, Tryz.ntmps150
  go_wp2_with fail
  refine s1.mono ?_
  rintro e w1 ⟨rfl, rfl⟩
  go_wp2_with fail
  refine S2.out.mono ?_
  rintro e w2 h2
  have HH := Lib.hid (adds_bs h2)
  obtain ⟨A2, c2, rfl, _⟩ := adds_bs h2
  clear h2
  go_wp2
  go_ret
  exact HH.out
theorem layFlag {w : World} {A : Option Addr} {c : Nat} {xs : List UInt8} (h : Bs w A c xs) (is : Bool) (hl : xs.length ≤ 100000) {L : Nat} (hL : xs.length = L) :
    Calls Tryz.prog 151 #[.slice A L c, .bool is] w (BsPost w (xs ++ flagB is)) := by
  have s2 := layNum h (if is then 1 else 0) (by cases is <;> simp) hl hL
  rw [← flagB] at s2
  obtain ⟨Z, hZ⟩ : ∃ Z, xs ++ flagB is = Z := ⟨_, rfl⟩
  rw [hZ] at s2 ⊢
  clear hZ
  cases is
  all_goals
    have S2 := Lib.hid s2
    clear h s2 hl hL
    go_enter Tryz.func151, Tryz.ntmps151
    go_wp2_with fail
    refine S2.out.mono ?_
    rintro e w2 h2
    have HH := Lib.hid h2
    obtain ⟨A2, c2, rfl, _⟩ := h2
    go_wp2
    go_ret
    exact HH.out
set_option maxHeartbeats 8000000 in
set_option maxRecDepth 100000 in
theorem mlay_any (A : Option Addr) (c : Nat) (xs : List UInt8) (x : Mi) (p : Nat) (hp : p < 5) (w : World) (hB : Bs w A c xs) (hl : xs.length ≤ 10000) (h : UsOk w x.us) (hok : x.m.Ok) (hw : x.m.wide) :
    Calls Tryz.prog 103 #[.slice A xs.length c, miV x, .int .i64 (p : Int)] w (BsPost w (xs ++ partY x.m p)) := by
  have HU := Lib.hid h
  have HM : Hid (∀ T : TypeId, T = 87 → MiB (w.alloc (.cells #[.int .i64 x.kind, .int .u32 (x.seq : Int), .int .i64 x.src, .int .i64 x.tgt, .bool x.rep, .slice x.us.A x.us.l.length x.us.c] T)) w.heap.size x) := Lib.hid (fun T e => by rw [e]; exact MiB.new w x)
  obtain ⟨⟨k1, k6⟩, ⟨s0, s7⟩, ⟨t0, t7⟩, hm, he, -, -, -, -⟩ := hok
  obtain ⟨hq, hwu⟩ := hw
  have HE := Lib.hid he
  have HWu := Lib.hid hwu
  have HBs := Lib.hid hB
  unfold miV
  clear h he hwu hB
  obtain ⟨B, hB⟩ : ∃ B, w.heap.size = B := ⟨_, rfl⟩
  have HB := Lib.hid hB
  rw [hB] at HM
  clear hB
  obtain ⟨k, q, f, t, rp, Ax, cx, l⟩ := x
  simp only [Mi.m] at *
  obtain ⟨f, rfl⟩ := Int.eq_ofNat_of_zero_le s0
  obtain ⟨t, rfl⟩ := Int.eq_ofNat_of_zero_le t0
  obtain ⟨n, hn⟩ : ∃ n, l.length = n := ⟨_, rfl⟩
  have HL := Lib.hid hn
  obtain ⟨N0, hN0⟩ : ∃ n, xs.length = n := ⟨_, rfl⟩
  have HX := Lib.hid hN0
  rw [hn] at HM hm ⊢
  rw [hN0] at hl ⊢
  clear hn hN0
  have HW : Hid (∀ T, Below w.heap.size w (w.alloc (.cells #[.int .i64 k, .int .u32 (q : Int), .int .i64 (f : Int), .int .i64 (t : Int), .bool rp, .slice Ax n cx] T))) := Lib.hid (fun T => below1 w _)
  match p, hp with
  | 0, _ =>
    obtain ⟨Z, hZ⟩ : ∃ Z, xs ++ partY ⟨k, q, (f : Int), (t : Int), rp, l⟩ 0 = Z := ⟨_, rfl⟩
    rw [hZ]
    have S1 := Lib.hid (fun W (hb : Below w.heap.size w W) => (by rw [← hZ]; exact layNum (HBs.out.below hb) q (by omega) (by have := HX.out; omega) HX.out : Calls Tryz.prog 150 #[.slice A N0 c, .int .u64 (q : Int)] W (BsPost W Z)))
    clear hZ
    go_enter Tryz.func103, Tryz.ntmps103
    go_wp2_with fail
    refine (S1.out _ (HW.out _)).mono ?_
    rintro e w1 ⟨A1, c1, rfl, h1, h2, h3⟩
    have HF : Hid (BsPost w Z (.returned (.slice A1 Z.length c1)) w1) := Lib.hid (BsPost.since ⟨A1, c1, rfl, h1, h2, h3⟩ (HW.out _))
    clear h1 h2 h3
    go_wp2
    go_ret
    exact HF.out
  | 1, _ =>
    obtain ⟨Z, hZ⟩ : ∃ Z, xs ++ partY ⟨k, q, (f : Int), (t : Int), rp, l⟩ 1 = Z := ⟨_, rfl⟩
    rw [hZ]
    have S1 := Lib.hid (fun W (hb : Below w.heap.size w W) => (by rw [← hZ]; exact layNum (HBs.out.below hb) f (by omega) (by have := HX.out; omega) HX.out : Calls Tryz.prog 150 #[.slice A N0 c, .int .u64 (f : Int)] W (BsPost W Z)))
    clear hZ
    go_enter Tryz.func103, Tryz.ntmps103
    go_wp2_with fail
    refine (S1.out _ (HW.out _)).mono ?_
    rintro e w1 ⟨A1, c1, rfl, h1, h2, h3⟩
    have HF : Hid (BsPost w Z (.returned (.slice A1 Z.length c1)) w1) := Lib.hid (BsPost.since ⟨A1, c1, rfl, h1, h2, h3⟩ (HW.out _))
    clear h1 h2 h3
    go_wp2
    go_ret
    exact HF.out
  | 2, _ =>
    obtain ⟨Z, hZ⟩ : ∃ Z, xs ++ partY ⟨k, q, (f : Int), (t : Int), rp, l⟩ 2 = Z := ⟨_, rfl⟩
    rw [hZ]
    have S1 := Lib.hid (fun W (hb : Below w.heap.size w W) => (by rw [← hZ]; exact layNum (HBs.out.below hb) t (by omega) (by have := HX.out; omega) HX.out : Calls Tryz.prog 150 #[.slice A N0 c, .int .u64 (t : Int)] W (BsPost W Z)))
    clear hZ
    go_enter Tryz.func103, Tryz.ntmps103
    go_wp2_with fail
    refine (S1.out _ (HW.out _)).mono ?_
    rintro e w1 ⟨A1, c1, rfl, h1, h2, h3⟩
    have HF : Hid (BsPost w Z (.returned (.slice A1 Z.length c1)) w1) := Lib.hid (BsPost.since ⟨A1, c1, rfl, h1, h2, h3⟩ (HW.out _))
    clear h1 h2 h3
    go_wp2
    go_ret
    exact HF.out
  | 3, _ =>
    obtain ⟨Z, hZ⟩ : ∃ Z, xs ++ partY ⟨k, q, (f : Int), (t : Int), rp, l⟩ 3 = Z := ⟨_, rfl⟩
    rw [hZ]
    have S1 := Lib.hid (fun W (hb : Below w.heap.size w W) => (by rw [← hZ]; exact layFlag (HBs.out.below hb) rp (by have := HX.out; omega) HX.out : Calls Tryz.prog 151 #[.slice A N0 c, .bool rp] W (BsPost W Z)))
    clear hZ
    go_enter Tryz.func103, Tryz.ntmps103
    go_wp2_with fail
    refine (S1.out _ (HW.out _)).mono ?_
    rintro e w1 ⟨A1, c1, rfl, h1, h2, h3⟩
    have HF : Hid (BsPost w Z (.returned (.slice A1 Z.length c1)) w1) := Lib.hid (BsPost.since ⟨A1, c1, rfl, h1, h2, h3⟩ (HW.out _))
    clear h1 h2 h3
    go_wp2
    go_ret
    exact HF.out
  | 4, _ =>
    have HY : Hid (partY ⟨k, q, (f : Int), (t : Int), rp, l⟩ 4 = numB n ++ l.flatMap updB) := Lib.hid (by show numB l.length ++ _ = _; rw [HL.out])
    obtain ⟨Y, hY⟩ : ∃ Y, partY ⟨k, q, (f : Int), (t : Int), rp, l⟩ 4 = Y := ⟨_, rfl⟩
    rw [hY] at HY ⊢
    have ln := numB_le (n := n) (by omega)
    obtain ⟨Z, hZ⟩ : ∃ Z, numB n = Z := ⟨_, rfl⟩
    obtain ⟨D, hD⟩ : ∃ D, xs ++ Z = D := ⟨_, rfl⟩
    have S1 := Lib.hid (fun W (hb : Below w.heap.size w W) => (by rw [← hD, ← hZ]; exact layNum (HBs.out.below hb) n (by omega) (by have := HX.out; omega) HX.out : Calls Tryz.prog 150 #[.slice A N0 c, .int .u64 (n : Int)] W (BsPost W D)))
    rw [hZ] at HY ln
    have HD : Hid (xs ++ partY ⟨k, q, (f : Int), (t : Int), rp, l⟩ 4 = D ++ l.flatMap updB) := Lib.hid (by rw [hY, HY.out, ← hD, List.append_assoc])
    have lD : D.length ≤ 10010 := by rw [← hD, List.length_append]; have := HX.out; omega
    obtain ⟨R, hR⟩ : ∃ R, xs ++ Y = R := ⟨_, rfl⟩
    rw [hY, hR] at HD
    rw [hR]
    clear hZ hY hD hR
    go_enter Tryz.func103, Tryz.ntmps103
    go_wp2_with fail
    refine (S1.out _ (HW.out _)).mono ?_
    rw [HB.out]
    have HM1 := Lib.hid (HM.out _ rfl)
    have HW1 := Lib.hid (HW.out 87)
    generalize hw1 : w.alloc (.cells #[.int .i64 k, .int .u32 (q : Int), .int .i64 (f : Int), .int .i64 (t : Int), .bool rp, .slice Ax n cx] 87) = wb at HM1 HW1 ⊢
    have HUr : Hid (UsOk wb ⟨Ax, cx, l⟩) := Lib.hid (HU.out.below HW1.out)
    clear hw1
    rintro e w1 ⟨A1, c1, rfl, h1, h2, h3⟩
    have H2 := Lib.hid h2
    clear h2
    have HB1 := Lib.hid h3
    have HS1 := Lib.hid h1
    obtain ⟨c0, c1', c2, c3, c4, c5⟩ := (HM1.out.below h3).cells
    simp only [HL.out] at c0 c1' c2 c3 c4 c5
    clear h1 h3
    go_wp2
    go_loopw [0, 46] (fun bv kv wr => ∃ (j : Nat) (A2 : Option Addr) (c2 : Nat) (Yj : List UInt8), j ≤ n ∧ kv = .int .i64 (j : Int) ∧ Hid (Yj = D ++ (l.take j).flatMap updB) ∧ bv = .slice A2 Yj.length c2 ∧ Hid (Bs wr A2 c2 Yj) ∧ Hid (Below wb.heap.size wb wr) ∧ Hid (c2 ≤ maxLen ∧ ∀ b off, A2 = some ⟨b, off, none⟩ → wb.heap.size ≤ b)) (fun _ kv _ => n - (RowKit.intOf kv).toNat)
    case atStart => exact ⟨0, A1, c1, D, Nat.zero_le _, rfl, Lib.hid (by simp), rfl, HS1, HB1, H2⟩
    case round =>
      clear c0 c1' c2 c3 c4 c5
      obtain ⟨j, A2, c2, Yj, hj, rfl, hYj, rfl, hB2, hb2, hm2⟩ := hrel
      by_cases hlt : j < n
      · have hjl : j < l.length := by rw [HL.out]; exact hlt
        have hs := (HUr.out.us.of_block hb2.out)
        simp only [HL.out] at hs
        obtain ⟨b, off, rfl, hbl, u0, u1, u2⟩ := hs.at_ hlt hjl
        have hru := HE.out _ (List.getElem_mem hjl)
        have hwu := HWu.out _ (List.getElem_mem hjl)
        have hlen := upsB_length (l.take j) (fun u hu => HE.out u (List.mem_of_mem_take hu)) (fun u hu => HWu.out u (List.mem_of_mem_take hu))
        have htk : (l.take j).length = j := by rw [List.length_take]; omega
        rw [htk] at hlen
        have HT : Hid (D ++ (l.take (j + 1)).flatMap updB = Yj ++ updB l[j]) := Lib.hid (by rw [hYj.out, List.take_succ_eq_append_getElem hjl, List.flatMap_append]; simp)
        have lY : Yj.length ≤ 10010 + 27 * 16 := by rw [hYj.out, List.length_append]; omega
        obtain ⟨u, hu⟩ : ∃ u, l[j] = u := ⟨_, rfl⟩
        rw [hu] at u0 u1 u2 hru hwu HT
        clear hu hs htk hlen
        obtain ⟨un, ui, us⟩ := u
        have hr' : 0 ≤ un ∧ un < 8 ∧ (us = 0 ∨ us = 1 ∨ us = 2 ∨ us = 3) := by simpa [Up.right] using hru
        obtain ⟨h0, h8, hst⟩ := hr'
        have h3 : 0 ≤ us ∧ us ≤ 3 := by omega
        unfold Up.wide at hwu
        simp only at u0 u1 u2 hwu
        clear hru hst
        obtain ⟨un, rfl⟩ := Int.eq_ofNat_of_zero_le h0
        obtain ⟨us, rfl⟩ := Int.eq_ofNat_of_zero_le h3.1
        have HUB : Hid (updB ⟨(un : Int), ui, (us : Int)⟩ = numB un ++ numB ui ++ numB us) := Lib.hid rfl
        have q2 : (j : Int) < (n : Int) := by omega
        have q0 : (0 : Int) ≤ (j : Int) := by omega
        have un8 : (un : Int) < 18446744073709551616 := by omega
        have us8 : (us : Int) < 18446744073709551616 := by omega
        have ui8 : (ui : Int) < 18446744073709551616 := by omega
        obtain ⟨g, hg⟩ : ∃ g, wr.heap.size = g := ⟨_, rfl⟩
        have l0 := numB_le (n := un) (by omega)
        have l1 := numB_le (n := ui) (by omega)
        have l2 := numB_le (n := us) (by omega)
        obtain ⟨Y0, hY0⟩ : ∃ Y, Yj ++ numB un = Y := ⟨_, rfl⟩
        obtain ⟨Y1, hY1⟩ : ∃ Y, Y0 ++ numB ui = Y := ⟨_, rfl⟩
        obtain ⟨Y2, hY2⟩ : ∃ Y, Y1 ++ numB us = Y := ⟨_, rfl⟩
        have m0 : Y0.length ≤ 10010 + 27 * 16 + 9 := by rw [← hY0, List.length_append]; omega
        have m1 : Y1.length ≤ 10010 + 27 * 16 + 18 := by rw [← hY1, List.length_append]; omega
        have HT2 : Hid (Y2 = D ++ (l.take (j + 1)).flatMap updB) := Lib.hid (by rw [HT.out, HUB.out, ← hY2, ← hY1, ← hY0]; simp)
        have S0 := Lib.hid (fun (W : World) (A : Option Addr) (c : Nat) (h : Bs W A c Yj) => (by rw [← hY0]; exact layNum h un (by omega) (by omega) rfl : Calls Tryz.prog 150 #[.slice A Yj.length c, .int .u64 (un : Int)] W (BsPost W Y0)))
        have S1 := Lib.hid (fun (W : World) (A : Option Addr) (c : Nat) (h : Bs W A c Y0) => (by rw [← hY1]; exact layNum h ui (by omega) (by omega) rfl : Calls Tryz.prog 150 #[.slice A Y0.length c, .int .u64 (ui : Int)] W (BsPost W Y1)))
        have S2 := Lib.hid (fun (W : World) (A : Option Addr) (c : Nat) (h : Bs W A c Y1) => (by rw [← hY2]; exact layNum h us (by omega) (by omega) rfl : Calls Tryz.prog 150 #[.slice A Y1.length c, .int .u64 (us : Int)] W (BsPost W Y2)))
        clear hY0 hY1 hY2 HT HUB
        have HG := Lib.hid hg
        have HN : Hid (∀ T : TypeId, (wr.alloc (.cells #[.int .i64 (un : Int), .int .u32 (ui : Int), .int .i64 (us : Int)] T)).heap[g]? = some (.cells #[.int .i64 (un : Int), .int .u32 (ui : Int), .int .i64 (us : Int)] T (0, 0))) := Lib.hid (fun T => by rw [← hg]; exact heap_alloc_new wr _)
        have HBW : Hid (∀ T : TypeId, Below wr.heap.size wr (wr.alloc (.cells #[.int .i64 (un : Int), .int .u32 (ui : Int), .int .i64 (us : Int)] T))) := Lib.hid (fun T => below1 wr _)
        clear hg
        go_wp2_with fail
        rw [HG.out]
        have HN1 := Lib.hid (HN.out 63)
        have HW2 := Lib.hid (HBW.out 63)
        generalize hw2 : wr.alloc (.cells #[.int .i64 (un : Int), .int .u32 (ui : Int), .int .i64 (us : Int)] 63) = W2 at HN1 HW2 ⊢
        clear hw2
        refine (S0.out W2 A2 c2 (hB2.out.below HW2.out)).mono ?_
        rintro e W3 ⟨A3, c3, rfl, h1, hm3, h3⟩
        have HS3 := Lib.hid h1
        have HB3 := Lib.hid h3
        obtain ⟨x0, x1, x2⟩ := blk3 ((h3.block g (block_lt HN1.out)).trans HN1.out)
        clear h1 h3 hm3
        go_wp2_with fail
        refine (S1.out W3 A3 c3 HS3.out).mono ?_
        rintro e W4 ⟨A4, c4, rfl, h1, hm4, h3⟩
        have HS4 := Lib.hid h1
        have HB4 : Hid (Below W2.heap.size W2 W4) := Lib.hid (HB3.out.trans (h3.mono HB3.out.size))
        clear x0 x1 x2
        obtain ⟨x0, x1, x2⟩ := blk3 ((HB4.out.block g (block_lt HN1.out)).trans HN1.out)
        clear h1 h3 hm4
        go_wp2_with fail
        refine (S2.out W4 A4 c4 HS4.out).mono ?_
        rintro e W5 ⟨A5, c5, rfl, h1, hm5, h3⟩
        have HS5 := Lib.hid h1
        have HB5 : Hid (Below wb.heap.size wb W5) := Lib.hid (hb2.out.trans ((HW2.out.trans ((HB4.out.trans (h3.mono HB4.out.size)).mono HW2.out.size)).mono hb2.out.size))
        have hm5' : Hid (c5 ≤ maxLen ∧ ∀ b off, A5 = some ⟨b, off, none⟩ → wb.heap.size ≤ b) := Lib.hid ⟨hm5.1, fun b off e => by
          have h8 := hm5.2 b off e
          have h9 := (hb2.out.trans ((HW2.out.trans (HB4.out.mono HW2.out.size)).mono hb2.out.size)).size
          exact Nat.le_trans h9 h8⟩
        clear h1 h3 x0 x1 x2 hm5
        go_wp2
        go_roundw
        case rel => exact ⟨j + 1, A5, c5, Y2, by omega, by go_num, HT2, rfl, HS5, HB5, hm5'⟩
        case measure => simp [RowKit.intOf]; omega
      · obtain rfl : j = n := by omega
        have HF : Hid (BsPost w R (.returned (.slice A2 Yj.length c2)) wr) := Lib.hid (by
          have h1 := hYj.out
          rw [List.take_of_length_le (by rw [HL.out]; exact Nat.le_refl _), ← HD.out] at h1
          subst h1
          exact BsPost.since ⟨A2, c2, rfl, hB2.out, hm2.out, hb2.out⟩ HW1.out)
        go_wp2
        go_ret
        exact HF.out
end Go.Proofs.YtaicipldjmngaaaGreatDoor.sp

namespace Go.Proofs.YtaicipldjmngaaaGreatDoor.sp
open Go.RowKit
set_option linter.unusedSimpArgs false
set_option linter.unusedVariables false
def PutNo (w : World) (e : Ending) (w' : World) : Prop := e = .returned (.tuple #[.agg #[.int .u8 0, .slice none 0 0], .int .i64 2]) ∧ Below w.heap.size w w'
def PutYes (m : Ms) (w : World) (e : Ending) (w' : World) : Prop := ∃ A c, e = .returned (.tuple #[.agg #[.int .u8 m.kind, .slice A (bodyM m).length c], .int .i64 0]) ∧ Bs w' A c (bodyM m) ∧ c ≤ maxLen ∧ Below w.heap.size w w'
theorem put_setup {w w1 : World} {o : Obj} {a b : Value} {t : TypeId} (hb : Below ((w.alloc o).alloc (.cells #[a, b] t)).heap.size ((w.alloc o).alloc (.cells #[a, b] t)) w1) :
    Below w.heap.size w w1 ∧ w1.heap[w.heap.size + 1]? = some (.cells #[a, b] t (0, 0)) := by
  refine ⟨(below2 w _ _).trans (hb.mono (by simp; omega)), ?_⟩
  have := heap_alloc_new (w.alloc o) (.cells #[a, b] t)
  rw [World.size_alloc] at this
  exact (hb.block _ (by simp)).trans this
theorem blk2 {W : World} {X : Nat} {a b : Value} {t : TypeId} (h : W.heap[X]? = some (.cells #[a, b] t (0, 0))) : W.cell? ⟨X, 0, none⟩ = some a ∧ W.cell? ⟨X, 1, none⟩ = some b := by
  refine ⟨?_, ?_⟩ <;> (rw [cell_of_row _ _ _ _ _ _ h]; rfl)
theorem partsL_at (k : Int) {j : Nat} (hj : j < (partsL k).length) : ∃ p : Nat, p < 5 ∧ (partsL k)[j] = (p : Int) := by
  have : ∀ q ∈ partsL k, ∃ p : Nat, p < 5 ∧ q = (p : Int) := by
    unfold partsL
    intro q hq
    repeat' split at hq
    all_goals simp only [List.mem_cons, List.not_mem_nil, or_false] at hq
    · rcases hq with rfl | rfl | rfl
      · exact ⟨0, by decide, rfl⟩
      · exact ⟨1, by decide, rfl⟩
      · exact ⟨2, by decide, rfl⟩
    · rcases hq with rfl | rfl
      · exact ⟨0, by decide, rfl⟩
      · exact ⟨1, by decide, rfl⟩
    · rcases hq with rfl | rfl
      · exact ⟨1, by decide, rfl⟩
      · exact ⟨4, by decide, rfl⟩
    · rcases hq with rfl | rfl | rfl
      · exact ⟨1, by decide, rfl⟩
      · exact ⟨3, by decide, rfl⟩
      · exact ⟨4, by decide, rfl⟩
  exact this _ (List.getElem_mem hj)
theorem partsY_length {m : Ms} (h : m.Ok) (hw : m.wide) : ∀ l : List Int, (l.flatMap (fun p => partY m p.toNat)).length ≤ 441 * l.length
  | [] => by simp
  | p :: l => by
    have h1 := partsY_length h hw l
    have h2 := partY_length h hw p.toNat
    rw [List.flatMap_cons, List.length_append, List.length_cons]
    omega
set_option maxHeartbeats 4000000 in
theorem put_no (x : Mi) (w : World) (h : UsOk w x.us) (hr : x.m.right = false) :
    Calls Tryz.prog 58 #[miV x] w (PutNo w) := by
  have HU := Lib.hid h
  have S1 := Lib.hid (fun W (hb : Below w.heap.size w W) => right_any x W (HU.out.below hb) false hr)
  unfold miV at S1 ⊢
  obtain ⟨X, hX⟩ : ∃ X, w.heap.size = X := ⟨_, rfl⟩
  have HX := Lib.hid hX
  clear h hr hX
  go_enter Tryz.func58, Tryz.ntmps58
  go_wp2_with fail
  refine (S1.out _ (below2 w _ _)).mono ?_
  rintro e w1 ⟨rfl, hb⟩
  obtain ⟨hb1, hf⟩ := put_setup hb
  rw [HX.out] at hf
  rw [HX.out]
  obtain ⟨c0, c1⟩ := blk2 hf
  have g0 := blk_froz hf 0
  have g1 := blk_froz hf 1
  have HB := Lib.hid hb1
  clear hb hb1 hf
  go_wp2
  obtain ⟨d0, d1⟩ := set2 c0 c1 (.int .u8 0) (.slice none 0 0)
  refine bodyPost_ret (v := .tuple #[.agg #[.int .u8 0, .slice none 0 0], .int .i64 2]) (by simp [results, Tryz.results58, go_sem, d0, d1]) rfl ⟨rfl, ?_⟩
  exact (HB.out.setCell (p := ⟨X + 1, 0, none⟩) (by rw [HX.out]; exact Nat.le_succ X) _).setCell (p := ⟨X + 1, 1, none⟩) (by rw [HX.out]; exact Nat.le_succ X) _
set_option maxHeartbeats 8000000 in
set_option maxRecDepth 100000 in
theorem put_yes (x : Mi) (w : World) (h : UsOk w x.us) (hok : x.m.Ok) (hw : x.m.wide) :
    Calls Tryz.prog 58 #[miV x] w (PutYes x.m w) := by
  have HU := Lib.hid h
  have S1 := Lib.hid (fun W (hb : Below w.heap.size w W) => right_any x W (HU.out.below hb) true ((Ms.right_iff _).2 hok))
  have SL := Lib.hid (fun (W : World) (A : Option Addr) (c : Nat) (xs : List UInt8) (p : Nat) (hp : p < 5) (hB : Bs W A c xs) (hl : xs.length ≤ 10000) (hb : Below w.heap.size w W) => mlay_any A c xs x p hp W hB hl (HU.out.below hb) hok hw)
  have HY : Hid (bodyM x.m = (partsL x.m.kind).flatMap (fun p => partY x.m p.toNat)) := Lib.hid (body_parts hok)
  have HLn := Lib.hid (partsY_length hok hw)
  have hk : 1 ≤ x.kind ∧ x.kind ≤ 6 := hok.kind
  have HK : Hid (x.m.kind = x.kind) := Lib.hid rfl
  have ek : x.m.kind = x.kind := rfl
  unfold PutYes
  rw [ek]
  obtain ⟨Y, hY⟩ : ∃ Y, bodyM x.m = Y := ⟨_, rfl⟩
  obtain ⟨Z, hZ⟩ : ∃ Z, x.m = Z := ⟨_, rfl⟩
  rw [hY] at HY ⊢
  rw [hZ] at HY HLn HK
  have HZ := Lib.hid hZ
  rw [HK.out] at HY
  have hl3 := partsL_le x.kind
  have HM : Hid (∀ (T : TypeId) (o : Obj), T = 87 → MiB ((w.alloc (.cells #[.int .i64 x.kind, .int .u32 (x.seq : Int), .int .i64 x.src, .int .i64 x.tgt, .bool x.rep, .slice x.us.A x.us.l.length x.us.c] T)).alloc o) w.heap.size x) := Lib.hid (fun T o e => by rw [e]; exact (MiB.new w x).below (below1 _ _))
  unfold miV at S1 SL ⊢
  obtain ⟨X, hX⟩ : ∃ X, w.heap.size = X := ⟨_, rfl⟩
  have HX := Lib.hid hX
  rw [hX] at HM
  obtain ⟨k1, k6⟩ := hk
  clear h hX hok hw hY hZ ek
  generalize hPY : (fun w e w' => ∃ A c, e = Ending.returned (.tuple #[.agg #[.int .u8 x.kind, .slice A Y.length c], .int .i64 0]) ∧ Bs w' A c Y ∧ c ≤ maxLen ∧ Below w.heap.size w w' : World → Ending → World → Prop) = PY
  have HPY := Lib.hid hPY
  clear hPY
  show Calls _ _ _ w (fun e w' => ∃ A c, e = Ending.returned (.tuple #[.agg #[.int .u8 x.kind, .slice A Y.length c], .int .i64 0]) ∧ Bs w' A c Y ∧ c ≤ maxLen ∧ Below w.heap.size w w')
  have hP : (fun e w' => ∃ A c, e = Ending.returned (.tuple #[.agg #[.int .u8 x.kind, .slice A Y.length c], .int .i64 0]) ∧ Bs w' A c Y ∧ c ≤ maxLen ∧ Below w.heap.size w w') = PY w := by rw [← HPY.out]
  rw [hP]
  clear hP
  go_enter Tryz.func58, Tryz.ntmps58
  go_wp2_with fail
  refine (S1.out _ (below2 w _ _)).mono ?_
  rintro e w1 ⟨rfl, hb⟩
  obtain ⟨hb1, hf⟩ := put_setup hb
  have HM1 : Hid (MiB w1 X x) := Lib.hid ((HM.out _ _ rfl).below hb)
  rw [HX.out] at hf
  rw [HX.out]
  have HF := Lib.hid hf
  have HB := Lib.hid hb1
  obtain ⟨m0, m1, m2, m3, m4, m5⟩ := HM1.out.cells
  clear hb hb1 hf
  go_wp2_with fail
  refine (partsOf_any x.kind w1).mono ?_
  rintro e w2 ⟨A, c, rfl, hp, hb⟩
  have HP := Lib.hid hp
  have HB2 := Lib.hid hb
  obtain ⟨n, hn⟩ : ∃ n, (partsL x.kind).length = n := ⟨_, rfl⟩
  have HN := Lib.hid hn
  rw [hn] at hl3 ⊢
  clear hp hb hn m0 m1 m2 m3 m4 m5
  go_wp2
  go_loopw [4, 15] (fun bv kv wr => ∃ (j : Nat) (A2 : Option Addr) (c2 : Nat) (Yj : List UInt8), j ≤ n ∧ kv = .int .i64 (j : Int) ∧ Hid (Yj = ((partsL x.kind).take j).flatMap (fun p => partY Z p.toNat)) ∧ bv = .slice A2 Yj.length c2 ∧ Hid (Bs wr A2 c2 Yj) ∧ Hid (Below w2.heap.size w2 wr) ∧ Hid (c2 ≤ maxLen ∧ ∀ b off, A2 = some ⟨b, off, none⟩ → X + 2 ≤ b)) (fun _ kv _ => n - (RowKit.intOf kv).toNat)
  case atStart => exact ⟨0, none, 0, [], Nat.zero_le _, rfl, Lib.hid (by simp), rfl, Lib.hid (Bs.zero _), Lib.hid (Below.refl _ _), Lib.hid ⟨Nat.zero_le _, fun _ _ e => by cases e⟩⟩
  case round =>
    obtain ⟨j, A2, c2, Yj, hj, rfl, hYj, rfl, hB2, hb2, hm2⟩ := hrel
    have HBr : Hid (Below w1.heap.size w1 wr) := Lib.hid (HB2.out.trans (hb2.out.mono HB2.out.size))
    have HBw : Hid (Below w.heap.size w wr) := Lib.hid (HB.out.trans (HBr.out.mono HB.out.size))
    obtain ⟨m0, m1, m2, m3, m4, m5⟩ := (HM1.out.below HBr.out).cells
    by_cases hlt : j < n
    · have hjl : j < (partsL x.kind).length := by rw [HN.out]; exact hlt
      obtain ⟨b, off, rfl, hbl, hc⟩ := (HP.out.below hb2.out).at_ hjl
      obtain ⟨p, hp5, hpe⟩ := partsL_at x.kind hjl
      rw [hpe] at hc
      have q2 : (j : Int) < (n : Int) := by omega
      have q0 : (0 : Int) ≤ (j : Int) := by omega
      have lY : Yj.length ≤ 441 * j := by
        rw [hYj.out]
        have := HLn.out ((partsL x.kind).take j)
        rw [List.length_take] at this
        exact Nat.le_trans this (Nat.mul_le_mul_left _ (Nat.min_le_left _ _))
      obtain ⟨Yn, hYn⟩ : ∃ Yn, Yj ++ partY x.m p = Yn := ⟨_, rfl⟩
      have S2 := Lib.hid (SL.out wr A2 c2 Yj p hp5 hB2.out (by omega) HBw.out)
      rw [hYn] at S2
      have HYn : Hid (Yn = ((partsL x.kind).take (j + 1)).flatMap (fun p => partY Z p.toNat)) := Lib.hid (by
        rw [List.take_succ_eq_append_getElem hjl, List.flatMap_append, ← hYj.out, hpe, ← hYn, HZ.out]
        simp)
      clear hpe hYn lY
      go_wp2_with fail
      refine S2.out.mono ?_
      rintro e w3 ⟨A3, c3, rfl, h1, h2, h3⟩
      have HS3 := Lib.hid h1
      have HB3 := Lib.hid (hb2.out.trans (h3.mono hb2.out.size))
      have HM3 : Hid (c3 ≤ maxLen ∧ ∀ b off, A3 = some ⟨b, off, none⟩ → X + 2 ≤ b) := Lib.hid ⟨h2.1, fun b off e => by
        have h8 := h2.2 b off e
        have h9 := block_lt HF.out
        have h10 := HBr.out.size
        omega⟩
      clear h1 h2 h3
      go_wp2
      go_roundw
      case rel => exact ⟨j + 1, A3, c3, Yn, by omega, by go_num, HYn, rfl, HS3, HB3, HM3⟩
      case measure => simp [RowKit.intOf]; omega
    · obtain rfl : j = n := by omega
      have h1 := hYj.out
      rw [List.take_of_length_le (by rw [HN.out]; exact Nat.le_refl _), ← HY.out] at h1
      subst h1
      have hf := (HBr.out.block _ (block_lt HF.out)).trans HF.out
      obtain ⟨c0, c1⟩ := blk2 hf
      have g0 := blk_froz hf 0
      have g1 := blk_froz hf 1
      have k8 : x.kind < 256 := by omega
      clear hf
      go_wp2
      obtain ⟨d0, d1⟩ := set2 c0 c1 (.int .u8 x.kind) (.slice A2 Yj.length c2)
      refine bodyPost_ret (v := .tuple #[.agg #[.int .u8 x.kind, .slice A2 Yj.length c2], .int .i64 0]) (by simp [results, Tryz.results58, go_sem, d0, d1]) rfl ?_
      rw [← HPY.out]
      have hX1 : w.heap.size ≤ X + 1 := by rw [HX.out]; exact Nat.le_succ X
      have hbs : Below w.heap.size w ((wr.setCell ⟨X + 1, 0, none⟩ (.int .u8 x.kind)).setCell ⟨X + 1, 1, none⟩ (.slice A2 Yj.length c2)) := (HBw.out.setCell (p := ⟨X + 1, 0, none⟩) hX1 _).setCell (p := ⟨X + 1, 1, none⟩) hX1 _
      have hbut : But (· = X + 1) wr ((wr.setCell ⟨X + 1, 0, none⟩ (.int .u8 x.kind)).setCell ⟨X + 1, 1, none⟩ (.slice A2 Yj.length c2)) := (But.set (S := (· = X + 1)) wr (p := ⟨X + 1, 0, none⟩) rfl _).trans (But.set (S := (· = X + 1)) _ (p := ⟨X + 1, 1, none⟩) rfl _)
      refine ⟨A2, c2, rfl, ⟨hB2.out.rb.but hbut (fun b off e _ hb => ?_), hB2.out.nil, hB2.out.le, hB2.out.ty.but hbut (fun b off e hb => ?_)⟩, hm2.out.1, hbs⟩
      all_goals
        have := hm2.out.2 b off e
        omega
end Go.Proofs.YtaicipldjmngaaaGreatDoor.sp
