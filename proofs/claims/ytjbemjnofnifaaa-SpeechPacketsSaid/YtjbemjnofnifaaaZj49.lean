/-
  Pack of the document, walked (layer 13).
-/
import Derived.Test.YtjbemjnofnifaaaZj47
import Derived.Test.YtjbemjnofnifaaaZj48
import Derived.Test.YtjbemjnofnifaaaZj45
import Derived.Test.YtjbemjnofnifaaaZj18
import Derived.Test.YtjbemjnofnifaaaZj17
namespace Go.Proofs.Ytjbemjnofnifaaa
open Go.RowKit
set_option linter.unusedSimpArgs false
set_option linter.unusedVariables false

def rpkR (S : Nat → Prop) (b : Nat) (off : Nat) (c : Nat) (n : Nat) (k : Nat) (kd : Nat) (x : Mi) (u4 : Value) : Nat → Value → World → Prop
  | 0, v, _ => v = u4
  | 1, v, _ => v = .slice (some ⟨b, off, none⟩) n c
  | 2, v, _ => v = .int .i64 (k : Int)
  | 3, v, _ => v = .pointer (some ⟨b, off + k * 6, none⟩)
  | 4, v, _ => v = .pointer (some ⟨b, off + k * 6, none⟩)
  | 5, v, _ => v = .int .i64 (kd : Int)
  | 6, v, _ => v = .int .u8 (kd : Int)
  | 7, v, _ => v = .slice (some ⟨b, off, none⟩) n c
  | 8, v, _ => v = .int .i64 (k : Int)
  | 9, v, _ => v = .pointer (some ⟨b, off + k * 6, none⟩)
  | 10, v, _ => v = .agg #[.int .i64 (kd : Int), .int .u32 (x.seq : Int), .int .i64 x.src, .int .i64 x.tgt, .bool x.rep, .slice x.us.A x.us.l.length x.us.c]
  | 11, v, w => True
  | 12, v, w => True
  | 13, v, w => True
  | 14, v, w => True
  | 15, v, w => True
  | _, _, _ => True
theorem rpkR_stable (S : Nat → Prop) (b : Nat) (off : Nat) (c : Nat) (n : Nat) (k : Nat) (kd : Nat) (x : Mi) (u4 : Value) : ∀ i v w w', rpkR S b off c n k kd x u4 i v w → But S w w' → rpkR S b off c n k kd x u4 i v w'
  | 0, _, _, _, h, _ | 1, _, _, _, h, _ | 2, _, _, _, h, _ | 3, _, _, _, h, _ | 4, _, _, _, h, _ | 5, _, _, _, h, _ | 6, _, _, _, h, _ | 7, _, _, _, h, _ | 8, _, _, _, h, _ | 9, _, _, _, h, _ | 10, _, _, _, h, _ => h
  | 11, _, _, _, h, g => trivial
  | 12, _, _, _, h, g => trivial
  | 13, _, _, _, h, g => trivial
  | 14, _, _, _, h, g => trivial
  | 15, _, _, _, h, g => trivial
  | _ + 16, _, _, _, h, _ => h

set_option maxHeartbeats 8000000 in
set_option maxRecDepth 100000 in
theorem rmpack_any (A : Option Addr) (n c : Nat) (l : List Mi) (w : World) (h : Mis w A n c l) (hn : n ≤ 2199023255488) :
    Calls Try.prog 18 #[.slice A n c] w (PmPost w (l.map Mi.m)) := by
  have HL := Lib.hid h.at_.1
  have HI := Lib.hid h
  obtain ⟨g, hg⟩ : ∃ g, w.heap.size = g := ⟨_, rfl⟩
  have HG := Lib.hid hg
  obtain ⟨PO, hPO⟩ : ∃ PO, PmPost w (l.map Mi.m) = PO := ⟨_, rfl⟩
  rw [hPO]
  have HPO := Lib.hid hPO
  clear h hg hPO
  go_enter Try.func18, Try.ntmps18
  go_wp2
  go_loopw [4, 5] (fun lv kv wr => ∃ (k : Nat) (pre : List Item), k ≤ n ∧ kv = .int .i64 (k : Int) ∧ Hid (pre.map (fun it : Item => it.f) = ((l.take k).map Mi.m).map frM) ∧ Hid (∀ x ∈ l.take k, x.m.right = true) ∧ Hid (FRow wr g lv pre) ∧ Hid (Below w.heap.size w wr)) (fun _ kv _ => n - (RowKit.intOf kv).toNat)
  case atStart => exact ⟨0, [], Nat.zero_le _, rfl, Lib.hid (by simp), Lib.hid (fun x hx => by simp at hx), Lib.hid (FRow.nil _ _), Lib.hid (Below.refl _ _)⟩
  case round =>
    obtain ⟨k, pre, hk, rfl, hpre, hri, hrow, hbe⟩ := hrel
    have HPl : Hid (pre.length = k) := Lib.hid (by
      have := congrArg List.length hpre.out
      simp only [List.length_map, List.length_take] at this
      rw [this, HL.out]
      omega)
    by_cases hlt : k < n
    · have hkl : k < l.length := by rw [HL.out]; exact hlt
      obtain ⟨b, off, rfl, hbl0, a0, a1, a2, a3, a4, a5⟩ := HI.out.cells hlt hkl
      have hx := HI.out.ok _ (List.getElem_mem hkl)
      have HTk : Hid (l.take (k + 1) = l.take k ++ [l[k]]) := Lib.hid (List.take_succ_eq_append_getElem hkl)
      have HMem : Hid (l[k].m ∈ l.map Mi.m) := Lib.hid (List.mem_map.2 ⟨_, List.getElem_mem hkl, rfl⟩)
      obtain ⟨x, hxe⟩ : ∃ x, l[k] = x := ⟨_, rfl⟩
      rw [hxe] at a0 a1 a2 a3 a4 a5 hx HTk HMem
      have HXo := Lib.hid hx
      have q1 : (k : Int) < (n : Int) := by omega
      have q0 : (0 : Int) ≤ (k : Int) := by omega
      have HA : Hid (∀ W, Below w.heap.size w W → W.cell? ⟨b, off + k * 6, none⟩ = some (.int .i64 x.kind) ∧ W.cell? ⟨b, off + k * 6 + 1, none⟩ = some (.int .u32 (x.seq : Int)) ∧ W.cell? ⟨b, off + k * 6 + 2, none⟩ = some (.int .i64 x.src) ∧ W.cell? ⟨b, off + k * 6 + 3, none⟩ = some (.int .i64 x.tgt) ∧ W.cell? ⟨b, off + k * 6 + 4, none⟩ = some (.bool x.rep) ∧ W.cell? ⟨b, off + k * 6 + 5, none⟩ = some (.slice x.us.A x.us.l.length x.us.c)) := Lib.hid (fun W hW => by
        have kk : ∀ i u, w.cell? ⟨b, i, none⟩ = some u → W.cell? ⟨b, i, none⟩ = some u := fun i u h => (hW.cell (p := ⟨b, i, none⟩) hbl0).trans h
        exact ⟨kk _ _ a0, kk _ _ a1, kk _ _ a2, kk _ _ a3, kk _ _ a4, kk _ _ a5⟩)
      clear hxe hx a0 a1 a2 a3 a4 a5
      obtain ⟨a0, a1, a2, a3, a4, a5⟩ := HA.out wr hbe.out
      cases hr : x.m.right with
      | false =>
        have S1 := Lib.hid (rRight_any x wr (HXo.out.1.below hbe.out) false hr)
        have HF : Hid (∀ W, Below w.heap.size w W → PO (.returned (.tuple #[.slice none 0 0, .int .i64 2])) W) := Lib.hid (fun W hb => by rw [← HPO.out]; exact PmPost.bad HMem.out hr hb)
        unfold miV at S1
        clear hr
        go_wp2_with fail
        refine S1.out.mono ?_
        rintro e w2 ⟨rfl, hb⟩
        have HF2 := Lib.hid (HF.out _ (hbe.out.trans (hb.mono hbe.out.size)))
        clear hb a0 a1 a2 a3 a4 a5
        go_wp2
        exact HF2.out
      | true =>
        have hok := (Ms.right_iff _).1 hr
        have S1 := Lib.hid (rRight_any x wr (HXo.out.1.below hbe.out) true hr)
        have SB := Lib.hid (fun W (hb : Below w.heap.size w W) => rBody_any x W (HXo.out.1.below hb) hok HXo.out.2)
        have HRi : Hid (∀ y ∈ l.take (k + 1), y.m.right = true) := Lib.hid (fun y hy => by
          rw [HTk.out] at hy
          rcases List.mem_append.1 hy with hy | hy
          · exact hri.out y hy
          · obtain rfl := List.mem_singleton.1 hy
            exact hr)
        have hkf : x.kind = ((frM x.m).k.toNat : Int) := kindF hok
        have hk6 : x.kind ≤ 6 := hok.kind.2
        have hbl2 : (frM x.m).b.length ≤ 1000 := body_length hok HXo.out.2
        have HFx : Hid ((frM x.m).b = bodyM x.m) := Lib.hid rfl
        unfold miV at S1 SB
        have HTf : Hid (((l.take (k + 1)).map Mi.m).map frM = ((l.take k).map Mi.m).map frM ++ [frM x.m]) := Lib.hid (by rw [HTk.out]; simp)
        rw [← HFx.out] at SB
        obtain ⟨fr9, hf⟩ : ∃ f, frM x.m = f := ⟨_, rfl⟩
        rw [hf] at SB hbl2 HTf hkf
        obtain ⟨kd, hKe⟩ : ∃ K, fr9.k.toNat = K := ⟨_, rfl⟩
        have HKd := Lib.hid hKe
        rw [hKe] at hkf
        rw [hkf] at S1 SB a0 HA hk6
        clear hr hok hf HFx hkf hKe
        go_wp2_with fail
        refine S1.out.mono ?_
        rintro e w2 ⟨rfl, hb⟩
        have HB2 : Hid (Below w.heap.size w w2) := Lib.hid (hbe.out.trans (hb.mono hbe.out.size))
        have HOwn0 : Hid (FRow w2 g u4 pre) := Lib.hid (hrow.out.below hb)
        clear hb a0 a1 a2 a3 a4 a5
        have HGB : Hid (g ≤ w2.heap.size) := Lib.hid (by rw [← HG.out]; exact HB2.out.size)
        have HX : Hid (∀ w', Below g w2 w' → w'.cell? ⟨b, off + k * 6, none⟩ = some (.int .i64 (kd : Int)) ∧ w'.cell? ⟨b, off + k * 6 + 1, none⟩ = some (.int .u32 (x.seq : Int)) ∧ w'.cell? ⟨b, off + k * 6 + 2, none⟩ = some (.int .i64 x.src) ∧ w'.cell? ⟨b, off + k * 6 + 3, none⟩ = some (.int .i64 x.tgt) ∧ w'.cell? ⟨b, off + k * 6 + 4, none⟩ = some (.bool x.rep) ∧ w'.cell? ⟨b, off + k * 6 + 5, none⟩ = some (.slice x.us.A x.us.l.length x.us.c)) := Lib.hid (fun w' hb => HA.out w' (HB2.out.trans (by rw [← HG.out] at hb; exact hb)))
        have HBd : Hid (∀ w', Below g w2 w' → Calls Try.prog 13 #[.agg #[.int .i64 (kd : Int), .int .u32 (x.seq : Int), .int .i64 x.src, .int .i64 x.tgt, .bool x.rep, .slice x.us.A x.us.l.length x.us.c]] w' (BsPost w' fr9.b)) := Lib.hid (fun w' hb => SB.out w' (HB2.out.trans (by rw [← HG.out] at hb; exact hb)))
        have hpk := HPl.out
        have HQ : Hid ((k : Int) < (n : Int) ∧ (0 : Int) ≤ (k : Int) ∧ pre.length + 1 ≤ 4398046511104 ∧ fr9.b.length ≤ 1000) := Lib.hid ⟨q1, q0, by omega, hbl2⟩
        have HQK : Hid ((kd : Int) < 256) := Lib.hid (by omega)
        have HQW : Hid (IntKind.u8.wrap (kd : Int) = (kd : Int)) := Lib.hid (by
          have := HQK.out
          simp [IntKind.wrap, IntKind.signed, IntKind.bits]
          omega)
        have HFrow := Lib.hid (fun (a : Act) (ha : a.tmps[4]? = some u4) => PkJ.start (fr := fr9) HOwn0.out ha)
        clear hpk
        go_wp2
        refine Go.Rel.wp_region_acts (by kernel_rfl) (by kernel_rfl) (by kernel_rfl) (by kernel_rfl) (PkJ g u4 pre fr9 w2) (But (UpB g)) (fun _ _ _ h k => h.trans k) ((But.refl _ _).drew) (HFrow.out _ (by rfl)) (rpkR (UpB g) b off c n k kd x u4) (rpkR_stable (UpB g) b off c n k kd x u4) ?hsr ?her
        case hsr =>
          refine (.cons ?_ (.cons ?_ (.cons ?_ (.cons ?_ (.cons ?_ (.cons ?_ (.cons ?_ (.cons ?_ (.cons ?_ (.cons ?_ (.cons ?_ (.cons ?_ (.cons ?_ (.cons ?_ (.cons ?_ (.cons ?_ .nil))))))))))))))))
          · intro f a w' hI hf hanc hdesc hle hs' hd K hK
            have f4 : a.tmps[4]? = some (u4) := hI.slot (hdesc 40 15 (by kernel_rfl))
            unfold Go.Rel.stepOf
            go_simp
            exact hK _ _ (But.refl _ _) (hI.keep (j := 0) (t := 18) (by decide) (by decide) _) rfl
          · intro f a w' hI hf hanc hdesc hle hs' hd K hK
            have f0 : a.tmps[0]? = some (.slice (some ⟨b, off, none⟩) n c) := hs'.2.2 0 (by kernel_rfl)
            unfold Go.Rel.stepOf
            go_simp
            exact hK _ _ (But.refl _ _) (hI.keep (j := 1) (t := 19) (by decide) (by decide) _) rfl
          · intro f a w' hI hf hanc hdesc hle hs' hd K hK
            have f5 : a.tmps[5]? = some (.int .i64 (k : Int)) := hs'.2.2 5 (by kernel_rfl)
            unfold Go.Rel.stepOf
            go_simp
            exact hK _ _ (But.refl _ _) (hI.keep (j := 2) (t := 20) (by decide) (by decide) _) rfl
          · intro f a w' hI hf hanc hdesc hle hs' hd K hK
            obtain ⟨_, t1, rfl⟩ := hd 1 19 (by kernel_rfl)
            obtain ⟨_, t2, rfl⟩ := hd 2 20 (by kernel_rfl)
            have q1 := HQ.out.1
            have q2 := HQ.out.2.1
            unfold Go.Rel.stepOf
            go_simp
            exact hK _ _ (But.refl _ _) (hI.keep (j := 3) (t := 21) (by decide) (by decide) _) rfl
          · intro f a w' hI hf hanc hdesc hle hs' hd K hK
            obtain ⟨_, t3, rfl⟩ := hd 3 21 (by kernel_rfl)
            unfold Go.Rel.stepOf
            go_simp
            exact hK _ _ (But.refl _ _) (hI.keep (j := 4) (t := 22) (by decide) (by decide) _) rfl
          · intro f a w' hI hf hanc hdesc hle hs' hd K hK
            obtain ⟨_, t4, rfl⟩ := hd 4 22 (by kernel_rfl)
            obtain ⟨x0, x1, x2, x3, x4, x5⟩ := HX.out w' hI.bel
            unfold Go.Rel.stepOf
            go_simp
            exact hK _ _ (But.refl _ _) (hI.keep (j := 5) (t := 23) (by decide) (by decide) _) rfl
          · intro f a w' hI hf hanc hdesc hle hs' hd K hK
            obtain ⟨_, t5, rfl⟩ := hd 5 23 (by kernel_rfl)
            have q5 := HQK.out
            have hwr := HQW.out
            unfold Go.Rel.stepOf
            go_simp
            exact hK _ _ (But.refl _ _) (hI.keep (j := 6) (t := 24) (by decide) (by decide) _) rfl
          · intro f a w' hI hf hanc hdesc hle hs' hd K hK
            have f0 : a.tmps[0]? = some (.slice (some ⟨b, off, none⟩) n c) := hs'.2.2 0 (by kernel_rfl)
            unfold Go.Rel.stepOf
            go_simp
            exact hK _ _ (But.refl _ _) (hI.keep (j := 7) (t := 25) (by decide) (by decide) _) rfl
          · intro f a w' hI hf hanc hdesc hle hs' hd K hK
            have f5 : a.tmps[5]? = some (.int .i64 (k : Int)) := hs'.2.2 5 (by kernel_rfl)
            unfold Go.Rel.stepOf
            go_simp
            exact hK _ _ (But.refl _ _) (hI.keep (j := 8) (t := 26) (by decide) (by decide) _) rfl
          · intro f a w' hI hf hanc hdesc hle hs' hd K hK
            obtain ⟨_, t7, rfl⟩ := hd 7 25 (by kernel_rfl)
            obtain ⟨_, t8, rfl⟩ := hd 8 26 (by kernel_rfl)
            have q1 := HQ.out.1
            have q2 := HQ.out.2.1
            unfold Go.Rel.stepOf
            go_simp
            exact hK _ _ (But.refl _ _) (hI.keep (j := 9) (t := 27) (by decide) (by decide) _) rfl
          · intro f a w' hI hf hanc hdesc hle hs' hd K hK
            obtain ⟨_, t9, rfl⟩ := hd 9 27 (by kernel_rfl)
            obtain ⟨x0, x1, x2, x3, x4, x5⟩ := HX.out w' hI.bel
            unfold Go.Rel.stepOf
            go_simp
            exact hK _ _ (But.refl _ _) (hI.keep (j := 10) (t := 28) (by decide) (by decide) _) rfl
          · intro f a w' hI hf hanc hdesc hle hs' hd K hK
            obtain ⟨_, t10, rfl⟩ := hd 10 28 (by kernel_rfl)
            have z12 := hdesc 40 12 (by kernel_rfl)
            have z13 := hdesc 40 13 (by kernel_rfl)
            have z14 := hdesc 40 14 (by kernel_rfl)
            have z15 := hdesc 40 15 (by kernel_rfl)
            unfold Go.Rel.stepOf
            go_simp
            refine (HBd.out w' hI.bel).mono ?_
            rintro e w5 ⟨A5, c5, rfl, hbs5, _, hb5⟩
            exact hK _ _ (But.upB (hb5.mono (Nat.le_trans HGB.out hI.bel.size))) (hI.call HGB.out z12 z13 z14 z15 hbs5 hb5) trivial
          · intro f a w' hI hf hanc hdesc hle hs' hd K hK
            obtain ⟨_, t6, rfl⟩ := hd 6 24 (by kernel_rfl)
            obtain ⟨_, t11, h11⟩ := hd 11 29 (by kernel_rfl)
            have z11 := hanc 40 11 (by kernel_rfl)
            have z13 := hdesc 40 13 (by kernel_rfl)
            have z14 := hdesc 40 14 (by kernel_rfl)
            have z15 := hdesc 40 15 (by kernel_rfl)
            obtain ⟨A5, c5, rfl, hbs5⟩ := hI.body z11 z14 _ t11
            unfold Go.Rel.stepOf
            go_simp
            exact hK _ _ (But.refl _ _) (by have h9 := hI.build z11 z13 z14 z15 hbs5; rw [HKd.out] at h9; exact h9) trivial
          · intro f a w' hI hf hanc hdesc hle hs' hd K hK
            obtain ⟨_, t12, h12⟩ := hd 12 30 (by kernel_rfl)
            have z12 := hanc 40 12 (by kernel_rfl)
            have z14 := hdesc 40 14 (by kernel_rfl)
            have z15 := hdesc 40 15 (by kernel_rfl)
            obtain ⟨A5, c5, e5, hbs5⟩ := hI.bld z12 z14 _ t12
            rw [HKd.out] at e5
            subst e5
            unfold Go.Rel.stepOf
            go_simp
            exact hK _ _ (But.upB ((Below.refl _ _).alloc (Nat.le_trans HGB.out hI.bel.size) _)) (by have h9 := hI.lay HGB.out z14 z15 hbs5; rw [HKd.out] at h9; exact h9) trivial
          · intro f a w' hI hf hanc hdesc hle hs' hd K hK
            obtain ⟨_, t0, rfl⟩ := hd 0 18 (by kernel_rfl)
            obtain ⟨_, t13, h13⟩ := hd 13 31 (by kernel_rfl)
            have z13 := hanc 40 13 (by kernel_rfl)
            have z15 := hdesc 40 15 (by kernel_rfl)
            obtain ⟨v3, w3, hr3, hb3, hJ3⟩ := hI.append HGB.out z13 hf z15 HQ.out.2.2.1 HQ.out.2.2.2 _ t13
            exact acc_stepOf_append (.tmp 18) (.tmp 31) 55 rfl rfl (by simp [Act.eval, t0]) (by simp [Act.eval, t13]) hr3 (hK _ _ hb3 hJ3 trivial)
          · intro f a w' hI hf hanc hdesc hle hs' hd K hK
            obtain ⟨_, t14, h14⟩ := hd 14 32 (by kernel_rfl)
            have z14 := hanc 40 14 (by kernel_rfl)
            unfold Go.Rel.stepOf
            go_simp
            exact hK _ _ (But.refl _ _) (hI.set z14 t14) trivial
        case her =>
          intro f' a wz hall hJ hle hs' hR'
          obtain ⟨v4, s4, _⟩ := hR' 15 4 (by kernel_rfl)
          obtain ⟨it, hit, hrz⟩ := hJ.fin (hall 15 (by decide)) _ s4
          have HRz := Lib.hid hrz
          have HBz : Hid (Below w.heap.size w wz) := Lib.hid (HB2.out.trans (by have := hJ.bel; rw [← HG.out] at this; exact this))
          have HPn : Hid ((pre ++ [it]).map (fun it : Item => it.f) = ((l.take (k + 1)).map Mi.m).map frM) := Lib.hid (by rw [HTf.out, List.map_append, hpre.out, List.map_singleton, hit])
          clear hit hrz hJ hall hle
          obtain ⟨v18, s18, _⟩ := hR' 0 18 (by kernel_rfl)
          obtain ⟨v19, s19, _⟩ := hR' 1 19 (by kernel_rfl)
          obtain ⟨v20, s20, _⟩ := hR' 2 20 (by kernel_rfl)
          obtain ⟨v21, s21, _⟩ := hR' 3 21 (by kernel_rfl)
          obtain ⟨v22, s22, _⟩ := hR' 4 22 (by kernel_rfl)
          obtain ⟨v23, s23, _⟩ := hR' 5 23 (by kernel_rfl)
          obtain ⟨v24, s24, _⟩ := hR' 6 24 (by kernel_rfl)
          obtain ⟨v25, s25, _⟩ := hR' 7 25 (by kernel_rfl)
          obtain ⟨v26, s26, _⟩ := hR' 8 26 (by kernel_rfl)
          obtain ⟨v27, s27, _⟩ := hR' 9 27 (by kernel_rfl)
          obtain ⟨v28, s28, _⟩ := hR' 10 28 (by kernel_rfl)
          obtain ⟨v29, s29, _⟩ := hR' 11 29 (by kernel_rfl)
          obtain ⟨v30, s30, _⟩ := hR' 12 30 (by kernel_rfl)
          obtain ⟨v31, s31, _⟩ := hR' 13 31 (by kernel_rfl)
          obtain ⟨v32, s32, _⟩ := hR' 14 32 (by kernel_rfl)
          have e := hs'.shape
          simp only [List.toList_toArray, List.foldl, Go.Rel.reset, Array.getD_eq_getD_getElem?, s18, s19, s20, s21, s22, s23, s24, s25, s26, s27, s28, s29, s30, s31, s32, s4, Option.getD_some] at e
          simp at e
          clear hR' hs' s18 s19 s20 s21 s22 s23 s24 s25 s26 s27 s28 s29 s30 s31 s32 s4
          subst e
          go_wp2
          go_roundw
          case rel => exact ⟨k + 1, _, by omega, by go_num, HPn, HRi, HRz, HBz⟩
          case measure => simp [RowKit.intOf]; omega
    · obtain rfl : k = n := by omega
      have htk : l.take k = l := List.take_of_length_le (by rw [HL.out]; exact Nat.le_refl _)
      have h1 := hpre.out
      have h2 := hri.out
      rw [htk] at h1 h2
      have HR2 : Hid (∀ m ∈ l.map Mi.m, m.right = true) := Lib.hid (fun m hm => by
        obtain ⟨x, hx, rfl⟩ := List.mem_map.1 hm
        exact h2 x hx)
      obtain ⟨A2, c2, rfl, hfs, _, _⟩ := hrow.out.fs
      rw [h1, HPl.out] at hfs
      rw [HPl.out]
      have S1 := Lib.hid ((rpack_any A2 k c2 _ wr hfs (by omega)).mono (fun e w' h => PmPost.of HR2.out hbe.out h))
      rw [HPO.out] at S1
      clear h1 h2 htk hfs
      go_wp2_with fail
      refine S1.out.mono ?_
      intro e w2 h2
      have H2 := Lib.hid h2
      rw [← HPO.out] at h2
      rcases h2.2 with ⟨_, rfl⟩ | ⟨_, A3, c3, rfl, _⟩
      · clear h2
        go_wp2
        exact H2.out
      · clear h2
        obtain ⟨LL, hLL⟩ : ∃ LL, (encs ((l.map Mi.m).map frM)).length = LL := ⟨_, rfl⟩
        rw [hLL] at H2 ⊢
        clear hLL
        go_wp2
        exact H2.out
end Go.Proofs.Ytjbemjnofnifaaa

/-
  Any messages are packed, and any bytes are unpacked, as the document says, or refused: the law sodalitylaw13.SpeechPackets, walked.
-/
namespace Go.Proofs.Ytjbemjnofnifaaa
open Go.RowKit
set_option linter.unusedSimpArgs false
set_option linter.unusedVariables false

/-- Two answers that are the same bytes, or none. -/
theorem pm_as {w : World} {ms : List Ms} {e : Ending} {w' : World} (h : PmPost w ms e w') : ∃ (l : List UInt8) (A : Option Addr) (c : Nat), l = (if errPM ms = 0 then encs (ms.map frM) else []) ∧ e = .returned (.tuple #[.slice A l.length c, .int .i64 (errPM ms : Int)]) ∧ RB w' A l.length l ∧ Below w.heap.size w w' := by
  obtain ⟨hb, ⟨hne, rfl⟩ | ⟨h0, A, c, rfl, hr, _⟩⟩ := h
  · exact ⟨[], none, 0, by rw [if_neg hne], rfl, RB.zero _ _, hb⟩
  · exact ⟨_, A, c, by rw [if_pos h0], by rw [h0]; rfl, hr, hb⟩
set_option maxHeartbeats 8000000 in
theorem packets_walk (A : Option Addr) (n c : Nat) (l : List Mi) (B : Option Addr) (m d : Nat) (xs : List UInt8) (w : World) (h : Mis w A n c l) (hn : n ≤ 2199023255488) (hX : RB w B m xs) (hmd : m ≤ d) :
    Calls Try.prog 5 #[.slice A n c, .slice B m d] w fun e w' => e = .returned (.bool true) ∧ Below w.heap.size w w' := by
  obtain ⟨fs, r, hcut⟩ := cut_all xs
  have S1 := Lib.hid (mpack_any A n c l w h hn)
  have S2 := Lib.hid (fun W (hb : Below w.heap.size w W) => rmpack_any A n c l W (h.below hb) hn)
  have S3 := Lib.hid (fun W (hb : Below w.heap.size w W) => munpack_any B m d xs fs r hcut W (hX.below hb) hmd)
  have S4 := Lib.hid (fun W (hb : Below w.heap.size w W) => rmunpack_any B m d xs fs r hcut W (hX.below hb) hmd)
  clear h hX hmd hcut
  go_enter Try.func5, Try.ntmps5
  go_wp2_with fail
  refine S1.out.mono ?_
  rintro e w1 hp1
  obtain ⟨l1, A1, c1, hl1, rfl, hr1, hb1⟩ := pm_as hp1
  have HB1 := Lib.hid hb1
  have HR1 := Lib.hid hr1
  have s2 := S2.out w1 hb1
  obtain ⟨L, hL⟩ : ∃ L, l1.length = L := ⟨_, rfl⟩
  obtain ⟨E, hE⟩ : ∃ E, errPM (l.map Mi.m) = E := ⟨_, rfl⟩
  have HLl := Lib.hid hl1
  have HL := Lib.hid hL
  have HE := Lib.hid hE
  have S2' := Lib.hid s2
  rw [hL, hE]
  clear hp1 hb1 hr1 hl1 hL hE s2
  go_wp2_with fail
  refine S2'.out.mono ?_
  rintro e w2 hp2
  obtain ⟨l2, A2, c2, hl2, rfl, hr2, hb2⟩ := pm_as hp2
  obtain rfl : l2 = l1 := hl2.trans HLl.out.symm
  rw [HL.out] at hr2
  rw [HL.out, HE.out]
  have HB2 : Hid (Below w.heap.size w w2) := Lib.hid (HB1.out.trans (hb2.mono HB1.out.size))
  have HR12 : Hid (RB w2 A1 L l2) := Lib.hid (by have := HR1.out.below hb2; rwa [HL.out] at this)
  have HR2 := Lib.hid hr2
  have S3' := Lib.hid (S3.out w2 HB2.out)
  clear hp2 hb2 hr2 hl2
  go_wp2_with fail
  refine S3'.out.mono ?_
  rintro e w3 ⟨hb3, hp3⟩
  have HB23 := Lib.hid hb3
  have HB3 : Hid (Below w.heap.size w w3) := Lib.hid (HB2.out.trans (hb3.mono HB2.out.size))
  have S4' := Lib.hid (S4.out w3 HB3.out)
  clear hb3
  obtain ⟨st, hst⟩ : ∃ st : ByteArray, (⟨l2.toArray⟩ : ByteArray) = st := ⟨_, rfl⟩
  have HST := Lib.hid hst
  clear hst
  rcases hp3 with ⟨hne, rfl⟩ | ⟨h0, A3, c3, l3, rfl, hm3, hl3⟩
  · obtain ⟨U, hU⟩ : ∃ U, errUM xs fs r = U := ⟨_, rfl⟩
    have HU := Lib.hid hU
    rw [hU] at hne ⊢
    clear hU
    go_wp2_with fail
    refine S4'.out.mono ?_
    rintro e w4 ⟨hb4, hp4⟩
    rcases hp4 with ⟨_, rfl⟩ | ⟨h0, _⟩
    · have hb24 : Below w2.heap.size w2 w4 := HB23.out.trans (hb4.mono HB23.out.size)
      have HB4 : Hid (Below w.heap.size w w4) := Lib.hid (HB3.out.trans (hb4.mono HB3.out.size))
      have k1 := own_conv (HR12.out.below hb24) c1
      have k2 := own_conv (HR2.out.below hb24) c2
      rw [HST.out] at k1 k2
      rw [HU.out]
      have s5 := all_yes none none 0 0 0 [] [] rfl w4 ⟨SK.zero, (fun x hx => nomatch hx), Nat.le_refl _, Nat.zero_le _, fun _ => rfl⟩ ⟨SK.zero, (fun x hx => nomatch hx), Nat.le_refl _, Nat.zero_le _, fun _ => rfl⟩
      have S5 := Lib.hid s5
      clear hb4 hb24 s5 hne
      go_wp2_with fail
      refine S5.out.mono ?_
      rintro e w5 ⟨rfl, hb5⟩
      have HB5 : Hid (Below w.heap.size w w5) := Lib.hid (HB4.out.trans (hb5.mono HB4.out.size))
      clear hb5 k1 k2
      go_wp2_with fail
      refine (works_any w5).mono ?_
      rintro e w6 ⟨rfl, hb6⟩
      have HB6 : Hid (Below w.heap.size w w6) := Lib.hid (HB5.out.trans (hb6.mono HB5.out.size))
      clear hb6
      go_wp2
      go_ret
      exact ⟨rfl, HB6.out⟩
    · exact absurd (HU.out.symm.trans h0) hne
  · have HM3 := Lib.hid hm3
    have HL3 := Lib.hid hl3
    have HU := Lib.hid h0
    obtain ⟨n3, hn3⟩ : ∃ n3, l3.length = n3 := ⟨_, rfl⟩
    have HN3 := Lib.hid hn3
    rw [hn3]
    clear hm3 hl3 h0 hn3
    go_wp2_with fail
    refine S4'.out.mono ?_
    rintro e w4 ⟨hb4, hp4⟩
    rcases hp4 with ⟨hne, _⟩ | ⟨_, A4, c4, l4, rfl, hm4, hl4⟩
    · exact absurd HU.out hne
    · have hb24 : Below w2.heap.size w2 w4 := HB23.out.trans (hb4.mono HB23.out.size)
      have HB4 : Hid (Below w.heap.size w w4) := Lib.hid (HB3.out.trans (hb4.mono HB3.out.size))
      have k1 := own_conv (HR12.out.below hb24) c1
      have k2 := own_conv (HR2.out.below hb24) c2
      rw [HST.out] at k1 k2
      have hll : l3.map Mi.m = l4.map Mi.m := HL3.out.trans hl4.symm
      have hn4 : l4.length = n3 := by
        have := congrArg List.length hll
        simp only [List.length_map] at this
        rw [← this, HN3.out]
      have hm3' := HM3.out.below hb4
      rw [HN3.out] at hm3'
      rw [hn4] at hm4 ⊢
      have S5 := Lib.hid (all_yes A3 A4 n3 c3 c4 l3 l4 hll w4 hm3' hm4)
      clear hb4 hb24 hll hn4 hm3' hm4 hl4
      go_wp2_with fail
      refine S5.out.mono ?_
      rintro e w5 ⟨rfl, hb5⟩
      have HB5 : Hid (Below w.heap.size w w5) := Lib.hid (HB4.out.trans (hb5.mono HB4.out.size))
      clear hb5 k1 k2
      go_wp2_with fail
      refine (works_any w5).mono ?_
      rintro e w6 ⟨rfl, hb6⟩
      have HB6 : Hid (Below w.heap.size w w6) := Lib.hid (HB5.out.trans (hb6.mono HB5.out.size))
      clear hb6
      go_wp2
      go_ret
      exact ⟨rfl, HB6.out⟩
end Go.Proofs.Ytjbemjnofnifaaa

/-
  What comes into layer 13's laws: messages with their updates, lists of them, frames, bytes.
-/
namespace Go.Proofs.Ytjbemjnofnifaaa
open Go.Joins Go.ChangeShapes Go.WideShapes Go.ChangeAt Go.RowKit
set_option linter.unusedSimpArgs false

theorem wf64 {z : Int} (h : (Lit.int .i64 z).wf = true) : -9223372036854775808 ≤ z ∧ z ≤ 9223372036854775807 := by simpa [Lit.wf, IntKind.min, IntKind.max, IntKind.signed, IntKind.bits] using h
noncomputable def i64C : Came Try.prog 3 Int := Came.int Try.underlying3 (by kernel_rfl)
theorem wfu8 (z : Int) (h : (Lit.int .u8 z).wf = true) : 0 ≤ z ∧ z < ((256 : Nat) : Int) := by
  have : 0 ≤ z ∧ z ≤ 255 := by simpa [Lit.wf, IntKind.min, IntKind.max, IntKind.signed, IntKind.bits] using h
  omega
noncomputable def u8C : Came Try.prog 5 Nat := Came.nat Try.underlying5 (by kernel_rfl) 256 wfu8
theorem wfu32 (z : Int) (h : (Lit.int .u32 z).wf = true) : 0 ≤ z ∧ z < ((4294967296 : Nat) : Int) := by
  have : 0 ≤ z ∧ z ≤ 4294967295 := by simpa [Lit.wf, IntKind.min, IntKind.max, IntKind.signed, IntKind.bits] using h
  omega
noncomputable def u32C : Came Try.prog 22 Nat := Came.nat Try.underlying22 (by kernel_rfl) 4294967296 wfu32
noncomputable def boolC : Came Try.prog 4 Bool := Came.bool Try.underlying4 (by kernel_rfl)
noncomputable def upCm : Came Try.prog 66 Up :=
  (Came.struct (CameF.cons i64C (CameF.cons u32C (CameF.cons i64C (CameF.nil _)))) Try.underlying66 (by kernel_rfl) (by kernel_rfl)).re
    (fun x => ⟨x.1, x.2.1, x.2.2.1⟩) (fun x => [.int .i64 x.node, .int .u32 (x.inc : Int), .int .i64 x.st])
    (fun W N x => i64C.ok W N x.node ∧ u32C.ok W N x.inc ∧ i64C.ok W N x.st) (fun _ => rfl)
    (fun h => ⟨rfl, h.1, h.2.1, h.2.2.1⟩) (fun h hb => ⟨i64C.keep h.1 hb, u32C.keep h.2.1 hb, i64C.keep h.2.2 hb⟩)
noncomputable def msgC : Came Try.prog 25 Mi :=
  (Came.struct (CameF.cons i64C (CameF.cons u32C (CameF.cons i64C (CameF.cons i64C (CameF.cons boolC (CameF.cons (upCm.slice (by decide) Try.underlying23 (by kernel_rfl)) (CameF.nil _))))))) Try.underlying25 (by kernel_rfl) (by kernel_rfl)).re
    (fun x => ⟨x.1, x.2.1, x.2.2.1, x.2.2.2.1, x.2.2.2.2.1, x.2.2.2.2.2.1⟩) (fun x => [.int .i64 x.kind, .int .u32 (x.seq : Int), .int .i64 x.src, .int .i64 x.tgt, .bool x.rep, .slice x.us.A x.us.l.length x.us.c])
    (fun W N x => i64C.ok W N x.kind ∧ u32C.ok W N x.seq ∧ i64C.ok W N x.src ∧ i64C.ok W N x.tgt ∧ boolC.ok W N x.rep ∧ (upCm.slice (by decide) Try.underlying23 (by kernel_rfl)).ok W N x.us) (fun _ => rfl)
    (fun h => ⟨rfl, h.1, h.2.1, h.2.2.1, h.2.2.2.1, h.2.2.2.2.1, h.2.2.2.2.2.1⟩) (fun h hb => ⟨i64C.keep h.1 hb, u32C.keep h.2.1 hb, i64C.keep h.2.2.1 hb, i64C.keep h.2.2.2.1 hb, boolC.keep h.2.2.2.2.1 hb, (upCm.slice (by decide) Try.underlying23 (by kernel_rfl)).keep h.2.2.2.2.2 hb⟩)
structure Fi where
  k : Nat
  b : Sl Nat
noncomputable def frmC : Came Try.prog 28 Fi :=
  (Came.struct (CameF.cons u8C (CameF.cons (u8C.slice (by decide) Try.underlying26 (by kernel_rfl)) (CameF.nil _))) Try.underlying28 (by kernel_rfl) (by kernel_rfl)).re
    (fun x => ⟨x.1, x.2.1⟩) (fun x => [.int .u8 (x.k : Int), .slice x.b.A x.b.l.length x.b.c])
    (fun W N x => u8C.ok W N x.k ∧ (u8C.slice (by decide) Try.underlying26 (by kernel_rfl)).ok W N x.b) (fun _ => rfl)
    (fun h => ⟨rfl, h.1, h.2.1⟩) (fun h hb => ⟨u8C.keep h.1 hb, (u8C.slice (by decide) Try.underlying26 (by kernel_rfl)).keep h.2 hb⟩)
section
variable {W : World} {N : Nat}
theorem us_of {s : Sl Up} (h : (upCm.slice (by decide) Try.underlying23 (by kernel_rfl)).ok W N s) : UsOk W s ∧ ∀ u ∈ s.l, u.wide := by
  obtain ⟨h1, h2, h3, h4, h5, _⟩ := h
  refine ⟨⟨⟨h1.1, fun hn => ?_⟩, h3, h4, h5⟩, fun u hu => (h2 u hu).2.1⟩
  obtain ⟨b, off, e, hlt, hc⟩ := h1.2 hn
  exact ⟨b, off, e, hlt, fun j hj => ⟨hc j hj 0 _ rfl, hc j hj 1 _ rfl, hc j hj 2 _ rfl⟩⟩
theorem msg_of {x : Mi} (h : msgC.ok W N x) : x.ok W := by
  obtain ⟨_, h2, _, _, _, h6⟩ := h
  exact ⟨(us_of h6).1, h2, (us_of h6).2⟩
theorem mis_of {s : Sl Mi} (h : (msgC.slice (by decide) Try.underlying41 (by kernel_rfl)).ok W N s) : Mis W s.A s.l.length s.c s.l ∧ s.l.length ≤ 2199023255488 := by
  obtain ⟨h1, h2, h3, h4, h5, h6, _⟩ := h
  refine ⟨⟨h1, fun x hx => msg_of (h2 x hx), h3, h4, h5⟩, ?_⟩
  rw [show Try.prog.bytesOf 25 = 64 by kernel_rfl] at h6
  have : reachBytes = 140737488351232 := rfl
  omega
def bytesS (s : Sl Nat) : List UInt8 := s.l.map Nat.toUInt8
theorem bytesS_length (s : Sl Nat) : (bytesS s).length = s.l.length := by simp [bytesS]
theorem rb_of {s : Sl Nat} (h : (u8C.slice (by decide) Try.underlying26 (by kernel_rfl)).ok W N s) : RB W s.A s.l.length (bytesS s) ∧ s.l.length ≤ s.c ∧ (s.A = none → s.c = 0) ∧ s.l.length ≤ 140737488351232 := by
  obtain ⟨h1, h2, h3, h4, h5, h6, _⟩ := h
  refine ⟨⟨bytesS_length s, fun hn => ?_⟩, h3, h5, ?_⟩
  · obtain ⟨b, off, e, hlt, hc⟩ := h1.2 hn
    refine ⟨b, off, e, hlt, fun j hj => ?_⟩
    have hj' : j < s.l.length := by rw [bytesS_length] at hj; exact hj
    have h9 := hc j hj' 0 _ rfl
    have h8 : s.l[j] < 256 := h2 _ (List.getElem_mem hj')
    have e2 : ((bytesS s)[j].toNat : Int) = (s.l[j] : Int) := by
      simp only [bytesS, List.getElem_map]
      simp
      omega
    have e3 : j * u8C.k + 0 = j := by
      show j * 1 + 0 = j
      omega
    rw [Nat.add_assoc, e3] at h9
    rw [h9]
    show _ = some (Value.int .u8 _)
    rw [e2]
  · rw [show Try.prog.bytesOf 5 = 1 by kernel_rfl] at h6
    have : reachBytes = 140737488351232 := rfl
    omega
theorem frm_of {x : Fi} (h : frmC.ok W N x) : ∃ f : Fr, f.k.toNat = x.k ∧ f.b.length = x.b.l.length ∧ BodyAt W x.b.A x.b.c f.b := by
  obtain ⟨h1, h2⟩ := h
  obtain ⟨r1, r2, r3, r4⟩ := rb_of h2
  have h8 : x.k < 256 := h1
  refine ⟨⟨x.k.toUInt8, bytesS x.b⟩, by simp; omega, bytesS_length _, ?_⟩
  refine ⟨?_, by rw [bytesS_length]; exact r2, r3, by rw [bytesS_length]; exact r4⟩
  show RB W x.b.A (bytesS x.b).length (bytesS x.b)
  rw [bytesS_length]
  exact r1
end
end Go.Proofs.Ytjbemjnofnifaaa
