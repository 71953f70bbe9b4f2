/-
  Same and All of the document, where both are the same; the law's works, walked (layer 13).
-/
import Derived.Test.YtjbemjnofnifaaaZj38
import Derived.Test.YtjbemjnofnifaaaZj39
namespace Go.Proofs.Ytjbemjnofnifaaa
open Go.RowKit
set_option linter.unusedSimpArgs false
set_option linter.unusedVariables false

theorem Mi.fields {x y : Mi} (h : x.m = y.m) : y.kind = x.kind ∧ y.seq = x.seq ∧ y.src = x.src ∧ y.tgt = x.tgt ∧ y.rep = x.rep ∧ y.us.l = x.us.l := by
  obtain ⟨a, b, c, d, e, f⟩ := x
  obtain ⟨a', b', c', d', e', f'⟩ := y
  unfold Mi.m at h
  simp only [Ms.mk.injEq] at h
  simp only
  obtain ⟨h1, h2, h3, h4, h5, h6⟩ := h
  exact ⟨h1.symm, h2.symm, h3.symm, h4.symm, h5.symm, h6.symm⟩
set_option maxHeartbeats 4000000 in
theorem same_yes (x y : Mi) (hxy : x.m = y.m) (w : World) (hx : UsOk w x.us) (hy : UsOk w y.us) :
    Calls Try.prog 16 #[miV x, miV y] w fun e w' => e = .returned (.bool true) ∧ Below w.heap.size w w' := by
  obtain ⟨f1, f2, f3, f4, f5, f6⟩ := Mi.fields hxy
  have hsy : ∀ W, Below w.heap.size w W → SUp W y.us.A x.us.l.length x.us.l := fun W hW => by
    have := hy.us.of_block hW
    rwa [f6] at this
  have S1 := Lib.hid (fun W (hW : Below w.heap.size w W) => (sameU_any x.us.A x.us.l.length x.us.c x.us.l y.us.A x.us.l.length y.us.c x.us.l W (hx.us.of_block hW) (hsy W hW) hx.le hx.max).mono (fun e w' h => (⟨h.1.trans (by rw [show sameL x.us.l x.us.l = true from decide_eq_true rfl]), h.2⟩ : e = .returned (.bool true) ∧ Below W.heap.size W w')))
  have HBW := Lib.hid (below2 w)
  unfold miV
  rw [f1, f2, f3, f4, f5, f6]
  clear hxy f1 f2 f3 f4 f5 f6 hsy hx hy
  obtain ⟨A, hA⟩ : ∃ A, x.us.A = A := ⟨_, rfl⟩
  obtain ⟨n, hn⟩ : ∃ A, x.us.l.length = A := ⟨_, rfl⟩
  obtain ⟨c, hc⟩ : ∃ A, x.us.c = A := ⟨_, rfl⟩
  obtain ⟨k, hk⟩ : ∃ A, x.kind = A := ⟨_, rfl⟩
  obtain ⟨q, hq⟩ : ∃ A, x.seq = A := ⟨_, rfl⟩
  obtain ⟨f, hf⟩ : ∃ A, x.src = A := ⟨_, rfl⟩
  obtain ⟨t, ht⟩ : ∃ A, x.tgt = A := ⟨_, rfl⟩
  obtain ⟨r, hr⟩ : ∃ A, x.rep = A := ⟨_, rfl⟩
  rw [hA, hn, hc] at S1
  rw [hA, hn, hc, hk, hq, hf, ht, hr]
  clear hA hn hc hk hq hf ht hr
  go_enter Try.func16, Try.ntmps16
  go_wp2_with fail
  refine (S1.out _ (HBW.out _ _)).mono ?_
  rintro e w1 ⟨rfl, hb⟩
  have HB : Hid (Below w.heap.size w w1) := Lib.hid ((HBW.out _ _).trans (hb.mono (by simp; omega)))
  clear hb
  go_wp2
  go_ret
  exact ⟨rfl, HB.out⟩
def allR (b : Nat) (off : Nat) (c : Nat) (b2 : Nat) (off2 : Nat) (c2 : Nat) (n : Nat) (k : Nat) (x : Mi) (y : Mi) : Nat → Value → World → Prop
  | 0, v, _ => v = .slice (some ⟨b, off, none⟩) n c
  | 1, v, _ => v = .int .i64 (k : Int)
  | 2, v, _ => v = .pointer (some ⟨b, off + k * 6, none⟩)
  | 3, v, _ => v = .agg #[.int .i64 x.kind, .int .u32 (x.seq : Int), .int .i64 x.src, .int .i64 x.tgt, .bool x.rep, .slice x.us.A x.us.l.length x.us.c]
  | 4, v, _ => v = .slice (some ⟨b2, off2, none⟩) n c2
  | 5, v, _ => v = .int .i64 (k : Int)
  | 6, v, _ => v = .pointer (some ⟨b2, off2 + k * 6, none⟩)
  | 7, v, _ => v = .agg #[.int .i64 y.kind, .int .u32 (y.seq : Int), .int .i64 y.src, .int .i64 y.tgt, .bool y.rep, .slice y.us.A y.us.l.length y.us.c]
  | 8, v, _ => v = .bool true
  | 9, v, _ => v = .bool false
  | _, _, _ => True
theorem allR_stable (b : Nat) (off : Nat) (c : Nat) (b2 : Nat) (off2 : Nat) (c2 : Nat) (n : Nat) (k : Nat) (x : Mi) (y : Mi) : ∀ i v w w', allR b off c b2 off2 c2 n k x y i v w → Go.Rel.Grew w w' → allR b off c b2 off2 c2 n k x y i v w'
  | 0, _, _, _, h, _ | 1, _, _, _, h, _ | 2, _, _, _, h, _ | 3, _, _, _, h, _ | 4, _, _, _, h, _ | 5, _, _, _, h, _ | 6, _, _, _, h, _ | 7, _, _, _, h, _ | 8, _, _, _, h, _ | 9, _, _, _, h, _ => h
  | _ + 10, _, _, _, h, _ => h

/-- A message's cells in a slice. -/
theorem Mis.cells {w : World} {A : Option Addr} {n c : Nat} {l : List Mi} (h : Mis w A n c l) {k : Nat} (hk : k < n) (hk' : k < l.length) : ∃ b off, A = some ⟨b, off, none⟩ ∧ b < w.heap.size ∧ w.cell? ⟨b, off + k * 6, none⟩ = some (.int .i64 l[k].kind) ∧ w.cell? ⟨b, off + k * 6 + 1, none⟩ = some (.int .u32 (l[k].seq : Int)) ∧ w.cell? ⟨b, off + k * 6 + 2, none⟩ = some (.int .i64 l[k].src) ∧ w.cell? ⟨b, off + k * 6 + 3, none⟩ = some (.int .i64 l[k].tgt) ∧ w.cell? ⟨b, off + k * 6 + 4, none⟩ = some (.bool l[k].rep) ∧ w.cell? ⟨b, off + k * 6 + 5, none⟩ = some (.slice l[k].us.A l[k].us.l.length l[k].us.c) := by
  obtain ⟨b, off, e, hb, hc⟩ := h.at_.at_ hk hk'
  exact ⟨b, off, e, hb, hc 0 _ rfl, hc 1 _ rfl, hc 2 _ rfl, hc 3 _ rfl, hc 4 _ rfl, hc 5 _ rfl⟩
set_option maxHeartbeats 8000000 in
theorem all_yes (A A2 : Option Addr) (n c c2 : Nat) (l l2 : List Mi) (hll : l.map Mi.m = l2.map Mi.m) (w : World) (h : Mis w A n c l) (h2 : Mis w A2 n c2 l2) :
    Calls Try.prog 21 #[.slice A n c, .slice A2 n c2] w fun e w' => e = .returned (.bool true) ∧ Below w.heap.size w w' := by
  have hm : n ≤ maxLen := Nat.le_trans h.le h.max
  unfold maxLen at hm
  have HL := Lib.hid h.at_.1
  have HL2 := Lib.hid h2.at_.1
  have HI := Lib.hid h
  have HI2 := Lib.hid h2
  have HLL := Lib.hid hll
  clear h h2 hll
  go_enter Try.func21, Try.ntmps21
  go_wp2
  go_loopw [5] (fun kv wr => ∃ k : Nat, kv = .int .i64 (k : Int) ∧ k ≤ n ∧ Hid (Below w.heap.size w wr)) (fun kv _ => n - (RowKit.intOf kv).toNat)
  case atStart => exact ⟨0, rfl, Nat.zero_le _, Lib.hid (Below.refl _ _)⟩
  case round =>
    obtain ⟨k, rfl, hk, hbe⟩ := hrel
    by_cases hlt : k < n
    · have hkl : k < l.length := by rw [HL.out]; exact hlt
      have hkl2 : k < l2.length := by rw [HL2.out]; exact hlt
      obtain ⟨b, off, rfl, hbl, hx⟩ := (HI.out.below hbe.out).cells hlt hkl
      obtain ⟨b2, off2, rfl, hbl2, hy⟩ := (HI2.out.below hbe.out).cells hlt hkl2
      have hxy : l[k].m = l2[k].m := by
        have e : (l.map Mi.m)[k]? = (l2.map Mi.m)[k]? := by rw [HLL.out]
        simpa [List.getElem?_map, List.getElem?_eq_getElem hkl, List.getElem?_eq_getElem hkl2] using e
      have hux := (HI.out.ok _ (List.getElem_mem hkl)).1
      have huy := (HI2.out.ok _ (List.getElem_mem hkl2)).1
      obtain ⟨x, hxe⟩ : ∃ x, l[k] = x := ⟨_, rfl⟩
      obtain ⟨y, hye⟩ : ∃ x, l2[k] = x := ⟨_, rfl⟩
      rw [hxe] at hx hxy hux
      rw [hye] at hy hxy huy
      have HX : Hid (∀ w', Go.Rel.Grew wr w' → w'.cell? ⟨b, off + k * 6, none⟩ = some (.int .i64 x.kind) ∧ w'.cell? ⟨b, off + k * 6 + 1, none⟩ = some (.int .u32 (x.seq : Int)) ∧ w'.cell? ⟨b, off + k * 6 + 2, none⟩ = some (.int .i64 x.src) ∧ w'.cell? ⟨b, off + k * 6 + 3, none⟩ = some (.int .i64 x.tgt) ∧ w'.cell? ⟨b, off + k * 6 + 4, none⟩ = some (.bool x.rep) ∧ w'.cell? ⟨b, off + k * 6 + 5, none⟩ = some (.slice x.us.A x.us.l.length x.us.c)) := Lib.hid (fun w' hle => by
        obtain ⟨a0, a1, a2, a3, a4, a5⟩ := hx
        have hw := hbe.out.size
        have kk : ∀ i u, wr.cell? ⟨b, i, none⟩ = some u → w'.cell? ⟨b, i, none⟩ = some u := fun i u h => (Below.cell hle (p := ⟨b, i, none⟩) hbl).trans h
        exact ⟨kk _ _ a0, kk _ _ a1, kk _ _ a2, kk _ _ a3, kk _ _ a4, kk _ _ a5⟩)
      have HY : Hid (∀ w', Go.Rel.Grew wr w' → w'.cell? ⟨b2, off2 + k * 6, none⟩ = some (.int .i64 y.kind) ∧ w'.cell? ⟨b2, off2 + k * 6 + 1, none⟩ = some (.int .u32 (y.seq : Int)) ∧ w'.cell? ⟨b2, off2 + k * 6 + 2, none⟩ = some (.int .i64 y.src) ∧ w'.cell? ⟨b2, off2 + k * 6 + 3, none⟩ = some (.int .i64 y.tgt) ∧ w'.cell? ⟨b2, off2 + k * 6 + 4, none⟩ = some (.bool y.rep) ∧ w'.cell? ⟨b2, off2 + k * 6 + 5, none⟩ = some (.slice y.us.A y.us.l.length y.us.c)) := Lib.hid (fun w' hle => by
        obtain ⟨a0, a1, a2, a3, a4, a5⟩ := hy
        have kk : ∀ i u, wr.cell? ⟨b2, i, none⟩ = some u → w'.cell? ⟨b2, i, none⟩ = some u := fun i u h => (Below.cell hle (p := ⟨b2, i, none⟩) hbl2).trans h
        exact ⟨kk _ _ a0, kk _ _ a1, kk _ _ a2, kk _ _ a3, kk _ _ a4, kk _ _ a5⟩)
      have HSm : Hid (∀ w', Go.Rel.Grew wr w' → Calls Try.prog 16 #[.agg #[.int .i64 x.kind, .int .u32 (x.seq : Int), .int .i64 x.src, .int .i64 x.tgt, .bool x.rep, .slice x.us.A x.us.l.length x.us.c], .agg #[.int .i64 y.kind, .int .u32 (y.seq : Int), .int .i64 y.src, .int .i64 y.tgt, .bool y.rep, .slice y.us.A y.us.l.length y.us.c]] w' fun e w2 => e = .returned (.bool true) ∧ Below w'.heap.size w' w2) := Lib.hid (fun w' hle => same_yes x y hxy w' (hux.below (hbe.out.trans (Below.mono hle hbe.out.size))) (huy.below (hbe.out.trans (Below.mono hle hbe.out.size))))
      have q1 : (k : Int) < (n : Int) := by omega
      have q0 : (0 : Int) ≤ (k : Int) := by omega
      have HQ : Hid ((k : Int) < (n : Int) ∧ (0 : Int) ≤ (k : Int)) := Lib.hid ⟨q1, q0⟩
      have HBE : Hid (Below wr.heap.size wr wr.drew) := Lib.hid ((Below.refl _ _).drew)
      clear hx hy hxy hux huy hxe hye
      go_wp2
      refine Go.Rel.wp_region_grew (by kernel_rfl) (by kernel_rfl) (by kernel_rfl) (by kernel_rfl) (allR b off c b2 off2 c2 n k x y) (allR_stable b off c b2 off2 c2 n k x y) ?hs ?he
      case hs =>
        refine (.cons ?_ (.cons ?_ (.cons ?_ (.cons ?_ (.cons ?_ (.cons ?_ (.cons ?_ (.cons ?_ (.cons ?_ (.cons ?_ .nil))))))))))
        · intro a w' hle hs' hd K hK
          have f0 : a.tmps[0]? = some (.slice (some ⟨b, off, none⟩) n c) := hs'.2.2 0 (by kernel_rfl)
          unfold Go.Rel.stepOf
          go_simp
          exact hK _ _ (Go.Rel.Grew.refl _) rfl
        · intro a w' hle hs' hd K hK
          have f5 : a.tmps[5]? = some (.int .i64 (k : Int)) := hs'.2.2 5 (by kernel_rfl)
          unfold Go.Rel.stepOf
          go_simp
          exact hK _ _ (Go.Rel.Grew.refl _) rfl
        · intro a w' hle hs' hd K hK
          obtain ⟨_, t0, rfl⟩ := hd 0 17 (by kernel_rfl)
          obtain ⟨_, t1, rfl⟩ := hd 1 18 (by kernel_rfl)
          have q1 := HQ.out.1
          have q2 := HQ.out.2
          unfold Go.Rel.stepOf
          go_simp
          exact hK _ _ (Go.Rel.Grew.refl _) rfl
        · intro a w' hle hs' hd K hK
          obtain ⟨_, t2, rfl⟩ := hd 2 19 (by kernel_rfl)
          obtain ⟨x0, x1, x2, x3, x4, x5⟩ := HX.out w' hle
          unfold Go.Rel.stepOf
          go_simp
          exact hK _ _ (Go.Rel.Grew.refl _) rfl
        · intro a w' hle hs' hd K hK
          have f1 : a.tmps[1]? = some (.slice (some ⟨b2, off2, none⟩) n c2) := hs'.2.2 1 (by kernel_rfl)
          unfold Go.Rel.stepOf
          go_simp
          exact hK _ _ (Go.Rel.Grew.refl _) rfl
        · intro a w' hle hs' hd K hK
          have f5 : a.tmps[5]? = some (.int .i64 (k : Int)) := hs'.2.2 5 (by kernel_rfl)
          unfold Go.Rel.stepOf
          go_simp
          exact hK _ _ (Go.Rel.Grew.refl _) rfl
        · intro a w' hle hs' hd K hK
          obtain ⟨_, t4, rfl⟩ := hd 4 21 (by kernel_rfl)
          obtain ⟨_, t5, rfl⟩ := hd 5 22 (by kernel_rfl)
          have q1 := HQ.out.1
          have q2 := HQ.out.2
          unfold Go.Rel.stepOf
          go_simp
          exact hK _ _ (Go.Rel.Grew.refl _) rfl
        · intro a w' hle hs' hd K hK
          obtain ⟨_, t6, rfl⟩ := hd 6 23 (by kernel_rfl)
          obtain ⟨x0, x1, x2, x3, x4, x5⟩ := HY.out w' hle
          unfold Go.Rel.stepOf
          go_simp
          exact hK _ _ (Go.Rel.Grew.refl _) rfl
        · intro a w' hle hs' hd K hK
          obtain ⟨_, t3, rfl⟩ := hd 3 20 (by kernel_rfl)
          obtain ⟨_, t7, rfl⟩ := hd 7 24 (by kernel_rfl)
          unfold Go.Rel.stepOf
          go_simp
          refine (HSm.out w' hle).mono ?_
          rintro e w5 ⟨rfl, hb5⟩
          exact hK _ _ hb5 rfl
        · intro a w' hle hs' hd K hK
          obtain ⟨_, t8, rfl⟩ := hd 8 25 (by kernel_rfl)
          unfold Go.Rel.stepOf
          go_simp
          exact hK _ _ (Go.Rel.Grew.refl _) rfl
      case he =>
        intro a3 w3 hle hs' hR'
        have HB3 : Hid (Below w.heap.size w w3) := Lib.hid (hbe.out.trans (Below.mono hle hbe.out.size))
        clear hle
        obtain ⟨v17, s17, _⟩ := hR' 0 17 (by kernel_rfl)
        obtain ⟨v18, s18, _⟩ := hR' 1 18 (by kernel_rfl)
        obtain ⟨v19, s19, _⟩ := hR' 2 19 (by kernel_rfl)
        obtain ⟨v20, s20, _⟩ := hR' 3 20 (by kernel_rfl)
        obtain ⟨v21, s21, _⟩ := hR' 4 21 (by kernel_rfl)
        obtain ⟨v22, s22, _⟩ := hR' 5 22 (by kernel_rfl)
        obtain ⟨v23, s23, _⟩ := hR' 6 23 (by kernel_rfl)
        obtain ⟨v24, s24, _⟩ := hR' 7 24 (by kernel_rfl)
        obtain ⟨v25, s25, _⟩ := hR' 8 25 (by kernel_rfl)
        obtain ⟨_, s26, rfl⟩ := hR' 9 26 (by kernel_rfl)
        have e := hs'.shape
        simp only [List.toList_toArray, List.foldl, Go.Rel.reset, Array.getD_eq_getD_getElem?, s17, s18, s19, s20, s21, s22, s23, s24, s25, s26, Option.getD_some] at e
        simp at e
        clear hR' hs' s17 s18 s19 s20 s21 s22 s23 s24 s25 s26
        subst e
        go_wp2
        go_roundw
        case rel => exact ⟨k + 1, by go_num, by omega, HB3⟩
        case measure => simp [RowKit.intOf]; omega
    · obtain rfl : k = n := by omega
      go_wp2
      go_ret
      exact ⟨rfl, hbe.out⟩

/-! ### The law's works -/
theorem numB_1 : numB 1 = [1, 1] := by rw [numB, digs_pos (by omega), show 1 / 256 = 0 by rfl, digs_zero]; rfl
theorem numB_2 : numB 2 = [1, 2] := by rw [numB, digs_pos (by omega), show 2 / 256 = 0 by rfl, digs_zero]; rfl
theorem numB_5 : numB 5 = [1, 5] := by rw [numB, digs_pos (by omega), show 5 / 256 = 0 by rfl, digs_zero]; rfl
def pingM : Mi := ⟨1, 5, 1, 2, false, ⟨none, 0, []⟩⟩
theorem ping_ok : pingM.m.Ok := ⟨by decide, by decide, by decide, by decide, (fun u hu => by cases hu), (fun h => absurd h (by decide)), (fun _ => rfl), (fun _ => rfl), (fun h => absurd rfl h)⟩
theorem ping_body : bodyM pingM.m = [1, 5, 1, 1, 1, 2] := by
  have e : bodyM pingM.m = numB 5 ++ (numB 1 ++ (numB 2 ++ ([] ++ []))) := rfl
  rw [e, numB_5, numB_1, numB_2]
  rfl
theorem works_any (w : World) : Calls Try.prog 12 #[] w fun e w' => e = .returned (.bool true) ∧ Below w.heap.size w w' := by
  have s1 := put_yes pingM w (UsOk.none _) ping_ok ⟨by decide, fun u hu => by cases hu⟩
  unfold PutYes at s1
  rw [ping_body] at s1
  have hk : pingM.m.kind = 1 := rfl
  have hm : miV pingM = .agg #[.int .i64 1, .int .u32 5, .int .i64 1, .int .i64 2, .bool false, .slice none 0 0] := rfl
  rw [hk, hm] at s1
  clear hk hm
  have S1 := Lib.hid s1
  clear s1
  go_enter Try.func12, Try.ntmps12
  go_wp2_with fail
  refine S1.out.mono ?_
  rintro e w1 ⟨A, c, rfl, hr, _, hb⟩
  have hr3 : RB (w1.alloc (.cells #[.int .u8 1, .slice A 6 c] 28)) A 6 [1, 5, 1, 1, 1, 2] := hr.rb.below (below1 _ _)
  have k1 := own_conv hr3 c
  have HB := Lib.hid (hb.alloc hb.size (.cells #[.int .u8 1, .slice A 6 c] 28))
  clear hb hr hr3
  go_wp2
  go_ret
  exact ⟨rfl, HB.out⟩
end Go.Proofs.Ytjbemjnofnifaaa
