/-
  Any message has the document's frame, or is refused: the law sodalitylaw13.SpeechPuts, walked.
-/
import Derived.Test.YtjbemjnofnifaaaZj46
import Derived.Test.YtjbemjnofnifaaaZj47
namespace Go.Proofs.Ytjbemjnofnifaaa
open Go.RowKit
set_option linter.unusedSimpArgs false
set_option linter.unusedVariables false

def putA (X : Nat) (x : Mi) (r : Bool) : Nat → Value → World → Prop
  | 0, v, _ => v = .agg #[.int .i64 x.kind, .int .u32 (x.seq : Int), .int .i64 x.src, .int .i64 x.tgt, .bool x.rep, .slice x.us.A x.us.l.length x.us.c]
  | 1, v, _ => v = .bool r
  | 2, v, _ => v = .agg #[.int .i64 x.kind, .int .u32 (x.seq : Int), .int .i64 x.src, .int .i64 x.tgt, .bool x.rep, .slice x.us.A x.us.l.length x.us.c]
  | 3, v, _ => v = .bool r
  | 4, v, _ => v = .bool false
  | _, _, _ => True
theorem putA_stable (X : Nat) (x : Mi) (r : Bool) : ∀ i v w w', putA X x r i v w → Go.Rel.Grew w w' → putA X x r i v w'
  | 0, _, _, _, h, _ | 1, _, _, _, h, _ | 2, _, _, _, h, _ | 3, _, _, _, h, _ | 4, _, _, _, h, _ => h
  | _ + 5, _, _, _, h, _ => h
def putB (X : Nat) (G : Nat) (x : Mi) (kd : Nat) (A2 : Option Addr) (c2 : Nat) (Y : List UInt8) (st : ByteArray) : Nat → Value → World → Prop
  | 0, v, _ => v = .int .i64 0
  | 1, v, _ => v = .bool true
  | 2, v, _ => v = .bool true
  | 3, v, _ => v = .pointer (some ⟨G, 0, none⟩)
  | 4, v, _ => v = .int .u8 (kd : Int)
  | 5, v, _ => v = .int .i64 (kd : Int)
  | 6, v, _ => v = .pointer (some ⟨X, 0, none⟩)
  | 7, v, _ => v = .int .i64 (kd : Int)
  | 8, v, _ => v = .bool true
  | 9, v, _ => v = .bool true
  | 10, v, _ => v = .bool true
  | 11, v, _ => v = .pointer (some ⟨G, 1, none⟩)
  | 12, v, _ => v = .slice A2 Y.length c2
  | 13, v, _ => v = .string st
  | 14, v, _ => v = .agg #[.int .i64 (kd : Int), .int .u32 (x.seq : Int), .int .i64 x.src, .int .i64 x.tgt, .bool x.rep, .slice x.us.A x.us.l.length x.us.c]
  | 15, v, w => ∃ A c, v = .slice A Y.length c ∧ RB w A Y.length Y
  | 16, v, _ => v = .string st
  | 17, v, _ => v = .bool true
  | 18, v, _ => v = .bool true
  | 19, v, _ => v = .bool true
  | 20, v, _ => v = .bool true
  | 21, v, _ => v = .bool true
  | 22, v, _ => v = .bool true
  | _, _, _ => True
theorem putB_stable (X : Nat) (G : Nat) (x : Mi) (kd : Nat) (A2 : Option Addr) (c2 : Nat) (Y : List UInt8) (st : ByteArray) : ∀ i v w w', putB X G x kd A2 c2 Y st i v w → Go.Rel.Grew w w' → putB X G x kd A2 c2 Y st i v w'
  | 0, _, _, _, h, _ | 1, _, _, _, h, _ | 2, _, _, _, h, _ | 3, _, _, _, h, _ | 4, _, _, _, h, _ | 5, _, _, _, h, _ | 6, _, _, _, h, _ | 7, _, _, _, h, _ | 8, _, _, _, h, _ | 9, _, _, _, h, _ | 10, _, _, _, h, _ | 11, _, _, _, h, _ | 12, _, _, _, h, _ | 13, _, _, _, h, _ | 14, _, _, _, h, _ | 16, _, _, _, h, _ | 17, _, _, _, h, _ | 18, _, _, _, h, _ | 19, _, _, _, h, _ | 20, _, _, _, h, _ | 21, _, _, _, h, _ | 22, _, _, _, h, _ => h
  | 15, _, _, _, h, g => by obtain ⟨A, c, e, h⟩ := h; exact ⟨A, c, e, h.below g⟩
  | _ + 23, _, _, _, h, _ => h

set_option maxHeartbeats 8000000 in
set_option maxRecDepth 100000 in
theorem puts_no (x : Mi) (w : World) (h : x.ok w) (hr : x.m.right = false) :
    Calls Try.prog 3 #[miV x] w fun e w' => e = .returned (.bool true) ∧ Below w.heap.size w w' := by
  have S1 := Lib.hid (fun W (hb : Below w.heap.size w W) => put_no x W (h.1.below hb) hr)
  have SP := Lib.hid (fun W (hb : Below w.heap.size w W) => right_any x W (h.1.below hb) false hr)
  have SR := Lib.hid (fun W (hb : Below w.heap.size w W) => rRight_any x W (h.1.below hb) false hr)
  have HM := Lib.hid (fun (T : TypeId) (e : T = 25) => (by rw [e]; exact MiB.new w x : MiB (w.alloc (.cells #[.int .i64 x.kind, .int .u32 (x.seq : Int), .int .i64 x.src, .int .i64 x.tgt, .bool x.rep, .slice x.us.A x.us.l.length x.us.c] T)) w.heap.size x))
  have HW0 := Lib.hid (fun (o : Obj) => below1 w o)
  obtain ⟨X, hX⟩ : ∃ X, w.heap.size = X := ⟨_, rfl⟩
  have HXX := Lib.hid hX
  unfold miV at S1 SP SR ⊢
  clear h hr hX
  go_enter Try.func3, Try.ntmps3
  go_wp2_with fail
  refine (S1.out _ (HW0.out _)).mono ?_
  rintro e w1 ⟨rfl, hb⟩
  have hm1 := (HM.out _ rfl).below hb
  have HB1 : Hid (Below w.heap.size w w1) := Lib.hid ((HW0.out _).trans (hb.mono (by simp)))
  rw [HXX.out] at hm1 ⊢
  have HM1 := Lib.hid hm1
  obtain ⟨G, hG⟩ : ∃ G, w1.heap.size = G := ⟨_, rfl⟩
  have HGG := Lib.hid hG
  have HGn := Lib.hid (fun (cs : Array Value) (t : TypeId) => heap_alloc_new w1 (.cells cs t))
  have HB1o := Lib.hid (fun (o : Obj) => below1 w1 o)
  rw [hG] at HGn
  clear hb hm1 hG
  go_wp2
  rw [HGG.out]
  have HMa := Lib.hid (HM1.out.below (HB1o.out (.cells #[.int .u8 0, .slice none 0 0] 28)))
  have HGa := Lib.hid (HGn.out #[.int .u8 0, .slice none 0 0] 28)
  have HB2 := Lib.hid (HB1.out.trans ((HB1o.out (.cells #[.int .u8 0, .slice none 0 0] 28)).mono HB1.out.size))
  generalize w1.alloc (.cells #[.int .u8 0, .slice none 0 0] 28) = w2 at HMa HGa HB2 ⊢
  have HX : Hid (∀ w', Go.Rel.Grew w2 w' → w'.cell? ⟨X, 0, none⟩ = some (.int .i64 x.kind) ∧ w'.cell? ⟨X, 1, none⟩ = some (.int .u32 (x.seq : Int)) ∧ w'.cell? ⟨X, 2, none⟩ = some (.int .i64 x.src) ∧ w'.cell? ⟨X, 3, none⟩ = some (.int .i64 x.tgt) ∧ w'.cell? ⟨X, 4, none⟩ = some (.bool x.rep) ∧ w'.cell? ⟨X, 5, none⟩ = some (.slice x.us.A x.us.l.length x.us.c)) := Lib.hid (fun w' hle => (HMa.out.below hle).cells)
  have HRp := Lib.hid (fun w' (hle : Go.Rel.Grew w2 w') => SP.out w' (HB2.out.trans (Below.mono hle HB2.out.size)))
  have HRr := Lib.hid (fun w' (hle : Go.Rel.Grew w2 w') => SR.out w' (HB2.out.trans (Below.mono hle HB2.out.size)))
  refine Go.Rel.wp_region_grew (by kernel_rfl) (by kernel_rfl) (by kernel_rfl) (by kernel_rfl) (putA X x false) (putA_stable X x false) ?hsa ?hea
  case hsa =>
    refine (.cons ?_ (.cons ?_ (.cons ?_ (.cons ?_ (.cons ?_ .nil)))))
    · intro a w' hle hs' hd K hK
      have f1 : a.tmps[1]? = some (.pointer (some ⟨X, 0, none⟩)) := hs'.2.2 1 (by kernel_rfl)
      obtain ⟨x0, x1, x2, x3, x4, x5⟩ := HX.out w' hle
      unfold Go.Rel.stepOf
      go_simp
      exact hK _ _ (Go.Rel.Grew.refl _) rfl
    · intro a w' hle hs' hd K hK
      obtain ⟨_, t0, rfl⟩ := hd 0 10 (by kernel_rfl)
      unfold Go.Rel.stepOf
      go_simp
      refine (HRp.out w' hle).mono ?_
      rintro e w5 ⟨rfl, hb5⟩
      exact hK _ _ hb5 rfl
    · intro a w' hle hs' hd K hK
      have f1 : a.tmps[1]? = some (.pointer (some ⟨X, 0, none⟩)) := hs'.2.2 1 (by kernel_rfl)
      obtain ⟨x0, x1, x2, x3, x4, x5⟩ := HX.out w' hle
      unfold Go.Rel.stepOf
      go_simp
      exact hK _ _ (Go.Rel.Grew.refl _) rfl
    · intro a w' hle hs' hd K hK
      obtain ⟨_, t2, rfl⟩ := hd 2 12 (by kernel_rfl)
      unfold Go.Rel.stepOf
      go_simp
      refine (HRr.out w' hle).mono ?_
      rintro e w5 ⟨rfl, hb5⟩
      exact hK _ _ hb5 rfl
    · intro a w' hle hs' hd K hK
      obtain ⟨_, t1, rfl⟩ := hd 1 11 (by kernel_rfl)
      obtain ⟨_, t3, rfl⟩ := hd 3 13 (by kernel_rfl)
      unfold Go.Rel.stepOf
      go_simp
      exact hK _ _ (Go.Rel.Grew.refl _) rfl
  case hea =>
    intro aaa wa hle hs' hR'
    have HBa : Hid (Below w.heap.size w wa) := Lib.hid (HB2.out.trans (Below.mono hle HB2.out.size))
    have HLa := Lib.hid hle
    clear hle
    obtain ⟨v10, s10, _⟩ := hR' 0 10 (by kernel_rfl)
    obtain ⟨v11, s11, _⟩ := hR' 1 11 (by kernel_rfl)
    obtain ⟨v12, s12, _⟩ := hR' 2 12 (by kernel_rfl)
    obtain ⟨v13, s13, _⟩ := hR' 3 13 (by kernel_rfl)
    obtain ⟨_, s14, rfl⟩ := hR' 4 14 (by kernel_rfl)
    have e := hs'.shape
    simp only [List.toList_toArray, List.foldl, Go.Rel.reset, Array.getD_eq_getD_getElem?, s10, s11, s12, s13, s14, Option.getD_some] at e
    simp at e
    clear hR' hs' s10 s11 s12 s13 s14
    subst e
    obtain ⟨x0, x1, x2, x3, x4, x5⟩ := HX.out wa HLa.out
    go_wp2_with fail
    refine (HRr.out wa HLa.out).mono ?_
    rintro e w3 ⟨rfl, hb⟩
    have HB3 : Hid (Below w.heap.size w w3) := Lib.hid (HBa.out.trans (hb.mono HBa.out.size))
    have hf3 := (hb.block G (by have := Below.size HLa.out; have := block_lt HGa.out; omega)).trans ((Below.block HLa.out G (block_lt HGa.out)).trans HGa.out)
    obtain ⟨y0, y1⟩ := blk2 hf3
    clear hb hf3 x0 x1 x2 x3 x4 x5
    go_wp2_with fail
    refine (works_any w3).mono ?_
    rintro e w4 ⟨rfl, hb⟩
    have HB4 : Hid (Below w.heap.size w w4) := Lib.hid (HB3.out.trans (hb.mono HB3.out.size))
    clear hb y0 y1
    go_wp2
    go_ret
    exact ⟨rfl, HB4.out⟩
set_option maxHeartbeats 8000000 in
set_option maxRecDepth 100000 in
theorem puts_yes (x : Mi) (w : World) (h : x.ok w) (hok : x.m.Ok) :
    Calls Try.prog 3 #[miV x] w fun e w' => e = .returned (.bool true) ∧ Below w.heap.size w w' := by
  have hr : x.m.right = true := (Ms.right_iff _).2 hok
  have S1 := Lib.hid (fun W (hb : Below w.heap.size w W) => put_yes x W (h.1.below hb) hok h.2)
  have SP := Lib.hid (fun W (hb : Below w.heap.size w W) => right_any x W (h.1.below hb) true hr)
  have SR := Lib.hid (fun W (hb : Below w.heap.size w W) => rRight_any x W (h.1.below hb) true hr)
  have SB := Lib.hid (fun W (hb : Below w.heap.size w W) => rBody_any x W (h.1.below hb) hok h.2)
  have HM := Lib.hid (fun (T : TypeId) (e : T = 25) => (by rw [e]; exact MiB.new w x : MiB (w.alloc (.cells #[.int .i64 x.kind, .int .u32 (x.seq : Int), .int .i64 x.src, .int .i64 x.tgt, .bool x.rep, .slice x.us.A x.us.l.length x.us.c] T)) w.heap.size x))
  have HW0 := Lib.hid (fun (o : Obj) => below1 w o)
  have hkd : ∃ kd : Nat, x.kind = (kd : Int) := ⟨x.kind.toNat, by have := hok.kind.1; show x.kind = _; have h9 : x.m.kind = x.kind := rfl; omega⟩
  obtain ⟨kd, hkd⟩ := hkd
  have hkd6 : (kd : Int) ≤ 6 := by rw [← hkd]; exact hok.kind.2
  unfold PutYes at S1
  have ek : x.m.kind = x.kind := rfl
  rw [ek] at S1
  obtain ⟨Y, hY⟩ : ∃ Y, bodyM x.m = Y := ⟨_, rfl⟩
  rw [hY] at S1 SB
  obtain ⟨X, hX⟩ : ∃ X, w.heap.size = X := ⟨_, rfl⟩
  have HXX := Lib.hid hX
  unfold miV at S1 SP SR SB ⊢
  have HKd := Lib.hid hkd
  rw [hkd] at S1
  clear h hr hok hX ek hY hkd
  go_enter Try.func3, Try.ntmps3
  go_wp2_with fail
  rw [HKd.out]
  refine (S1.out _ (HW0.out _)).mono ?_
  rintro e w1 ⟨A2, c2, rfl, hbs, _, hb⟩
  have hm1 := (HM.out _ rfl).below (by rw [HKd.out]; exact hb)
  have HB1 : Hid (Below w.heap.size w w1) := Lib.hid ((HW0.out _).trans (hb.mono (by simp)))
  rw [HXX.out] at hm1 ⊢
  have HM1 := Lib.hid hm1
  have HBs := Lib.hid hbs
  obtain ⟨G, hG⟩ : ∃ G, w1.heap.size = G := ⟨_, rfl⟩
  have HGG := Lib.hid hG
  have HGn := Lib.hid (fun (cs : Array Value) (t : TypeId) => heap_alloc_new w1 (.cells cs t))
  have HB1o := Lib.hid (fun (o : Obj) => below1 w1 o)
  rw [hG] at HGn
  clear hb hm1 hG hbs
  go_wp2
  rw [HGG.out]
  have HMa := Lib.hid (HM1.out.below (HB1o.out (.cells #[.int .u8 (kd : Int), .slice A2 Y.length c2] 28)))
  have HGa := Lib.hid (HGn.out #[.int .u8 (kd : Int), .slice A2 Y.length c2] 28)
  have HB2 := Lib.hid (HB1.out.trans ((HB1o.out (.cells #[.int .u8 (kd : Int), .slice A2 Y.length c2] 28)).mono HB1.out.size))
  have HRa := Lib.hid (HBs.out.rb.below (HB1o.out (.cells #[.int .u8 (kd : Int), .slice A2 Y.length c2] 28)))
  generalize w1.alloc (.cells #[.int .u8 (kd : Int), .slice A2 Y.length c2] 28) = w2 at HMa HGa HB2 HRa ⊢
  have HX : Hid (∀ w', Go.Rel.Grew w2 w' → w'.cell? ⟨X, 0, none⟩ = some (.int .i64 x.kind) ∧ w'.cell? ⟨X, 1, none⟩ = some (.int .u32 (x.seq : Int)) ∧ w'.cell? ⟨X, 2, none⟩ = some (.int .i64 x.src) ∧ w'.cell? ⟨X, 3, none⟩ = some (.int .i64 x.tgt) ∧ w'.cell? ⟨X, 4, none⟩ = some (.bool x.rep) ∧ w'.cell? ⟨X, 5, none⟩ = some (.slice x.us.A x.us.l.length x.us.c)) := Lib.hid (fun w' hle => (HMa.out.below hle).cells)
  have HRp := Lib.hid (fun w' (hle : Go.Rel.Grew w2 w') => SP.out w' (HB2.out.trans (Below.mono hle HB2.out.size)))
  have HRr := Lib.hid (fun w' (hle : Go.Rel.Grew w2 w') => SR.out w' (HB2.out.trans (Below.mono hle HB2.out.size)))
  refine Go.Rel.wp_region_grew (by kernel_rfl) (by kernel_rfl) (by kernel_rfl) (by kernel_rfl) (putA X x true) (putA_stable X x true) ?hsb ?heb
  case hsb =>
    refine (.cons ?_ (.cons ?_ (.cons ?_ (.cons ?_ (.cons ?_ .nil)))))
    · intro a w' hle hs' hd K hK
      have f1 : a.tmps[1]? = some (.pointer (some ⟨X, 0, none⟩)) := hs'.2.2 1 (by kernel_rfl)
      obtain ⟨x0, x1, x2, x3, x4, x5⟩ := HX.out w' hle
      unfold Go.Rel.stepOf
      go_simp
      exact hK _ _ (Go.Rel.Grew.refl _) rfl
    · intro a w' hle hs' hd K hK
      obtain ⟨_, t0, rfl⟩ := hd 0 10 (by kernel_rfl)
      unfold Go.Rel.stepOf
      go_simp
      refine (HRp.out w' hle).mono ?_
      rintro e w5 ⟨rfl, hb5⟩
      exact hK _ _ hb5 rfl
    · intro a w' hle hs' hd K hK
      have f1 : a.tmps[1]? = some (.pointer (some ⟨X, 0, none⟩)) := hs'.2.2 1 (by kernel_rfl)
      obtain ⟨x0, x1, x2, x3, x4, x5⟩ := HX.out w' hle
      unfold Go.Rel.stepOf
      go_simp
      exact hK _ _ (Go.Rel.Grew.refl _) rfl
    · intro a w' hle hs' hd K hK
      obtain ⟨_, t2, rfl⟩ := hd 2 12 (by kernel_rfl)
      unfold Go.Rel.stepOf
      go_simp
      refine (HRr.out w' hle).mono ?_
      rintro e w5 ⟨rfl, hb5⟩
      exact hK _ _ hb5 rfl
    · intro a w' hle hs' hd K hK
      obtain ⟨_, t1, rfl⟩ := hd 1 11 (by kernel_rfl)
      obtain ⟨_, t3, rfl⟩ := hd 3 13 (by kernel_rfl)
      unfold Go.Rel.stepOf
      go_simp
      exact hK _ _ (Go.Rel.Grew.refl _) rfl
  case heb =>
    intro aab wa hle hs' hR'
    have HBa : Hid (Below w.heap.size w wa) := Lib.hid (HB2.out.trans (Below.mono hle HB2.out.size))
    have HLa := Lib.hid hle
    clear hle
    obtain ⟨v10, s10, _⟩ := hR' 0 10 (by kernel_rfl)
    obtain ⟨v11, s11, _⟩ := hR' 1 11 (by kernel_rfl)
    obtain ⟨v12, s12, _⟩ := hR' 2 12 (by kernel_rfl)
    obtain ⟨v13, s13, _⟩ := hR' 3 13 (by kernel_rfl)
    obtain ⟨_, s14, rfl⟩ := hR' 4 14 (by kernel_rfl)
    have e := hs'.shape
    simp only [List.toList_toArray, List.foldl, Go.Rel.reset, Array.getD_eq_getD_getElem?, s10, s11, s12, s13, s14, Option.getD_some] at e
    simp at e
    clear hR' hs' s10 s11 s12 s13 s14
    subst e
    obtain ⟨x0, x1, x2, x3, x4, x5⟩ := HX.out wa HLa.out
    go_wp2_with fail
    refine (HRr.out wa HLa.out).mono ?_
    rintro e w3 ⟨rfl, hb⟩
    have hL3 : Below w2.heap.size w2 w3 := Below.trans HLa.out (hb.mono (Below.size HLa.out))
    have HL3 := Lib.hid hL3
    have HB3 : Hid (Below w.heap.size w w3) := Lib.hid (HB2.out.trans (hL3.mono HB2.out.size))
    clear hb hL3 x0 x1 x2 x3 x4 x5 HX
    have HX : Hid (∀ w', Go.Rel.Grew w3 w' → w'.cell? ⟨X, 0, none⟩ = some (.int .i64 (kd : Int)) ∧ w'.cell? ⟨X, 1, none⟩ = some (.int .u32 (x.seq : Int)) ∧ w'.cell? ⟨X, 2, none⟩ = some (.int .i64 x.src) ∧ w'.cell? ⟨X, 3, none⟩ = some (.int .i64 x.tgt) ∧ w'.cell? ⟨X, 4, none⟩ = some (.bool x.rep) ∧ w'.cell? ⟨X, 5, none⟩ = some (.slice x.us.A x.us.l.length x.us.c)) := Lib.hid (fun w' hle => by
      have h9 := (HMa.out.below (Below.trans HL3.out (Below.mono hle (Below.size HL3.out)))).cells
      rwa [HKd.out] at h9)
    have HG : Hid (∀ w', Go.Rel.Grew w3 w' → w'.cell? ⟨G, 0, none⟩ = some (.int .u8 (kd : Int)) ∧ w'.cell? ⟨G, 1, none⟩ = some (.slice A2 Y.length c2)) := Lib.hid (fun w' hle => blk2 ((Below.block (Below.trans HL3.out (Below.mono hle (Below.size HL3.out))) G (block_lt HGa.out)).trans HGa.out))
    have HRg : Hid (∀ w', Go.Rel.Grew w3 w' → RB w' A2 Y.length Y) := Lib.hid (fun w' hle => HRa.out.below (Below.trans HL3.out (Below.mono hle (Below.size HL3.out))))
    have HBd := Lib.hid (fun w' (hle : Go.Rel.Grew w3 w') => SB.out w' (HB3.out.trans (Below.mono hle HB3.out.size)))
    rw [HKd.out] at HBd
    obtain ⟨st, hst⟩ : ∃ st : ByteArray, (⟨Y.toArray⟩ : ByteArray) = st := ⟨_, rfl⟩
    have HST := Lib.hid hst
    have HQK : Hid ((kd : Int) ≤ 6) := Lib.hid hkd6
    have HQW : Hid (IntKind.i64.wrap (kd : Int) = (kd : Int)) := Lib.hid (by
      have := HQK.out
      simp [IntKind.wrap, IntKind.signed, IntKind.bits]
      omega)
    clear hst
    go_wp2
    refine Go.Rel.wp_region_grew (by kernel_rfl) (by kernel_rfl) (by kernel_rfl) (by kernel_rfl) (putB X G x kd A2 c2 Y st) (putB_stable X G x kd A2 c2 Y st) ?hsc ?hec
    case hsc =>
      refine (.cons ?_ (.cons ?_ (.cons ?_ (.cons ?_ (.cons ?_ (.cons ?_ (.cons ?_ (.cons ?_ (.cons ?_ (.cons ?_ (.cons ?_ (.cons ?_ (.cons ?_ (.cons ?_ (.cons ?_ (.cons ?_ (.cons ?_ (.cons ?_ (.cons ?_ (.cons ?_ (.cons ?_ (.cons ?_ (.cons ?_ .nil)))))))))))))))))))))))
      · intro a w' hle hs' hd K hK
        have f4 : a.tmps[4]? = some (.int .i64 0) := hs'.2.2 4 (by kernel_rfl)
        unfold Go.Rel.stepOf
        go_simp
        exact hK _ _ (Go.Rel.Grew.refl _) rfl
      · intro a w' hle hs' hd K hK
        obtain ⟨_, t0, rfl⟩ := hd 0 34 (by kernel_rfl)
        unfold Go.Rel.stepOf
        go_simp
        exact hK _ _ (Go.Rel.Grew.refl _) rfl
      · intro a w' hle hs' hd K hK
        obtain ⟨_, t1, rfl⟩ := hd 1 35 (by kernel_rfl)
        unfold Go.Rel.stepOf
        go_simp
        exact hK _ _ (Go.Rel.Grew.refl _) rfl
      · intro a w' hle hs' hd K hK
        obtain ⟨_, tg, rfl⟩ := hd 2 36 (by kernel_rfl)
        have f3 : a.tmps[3]? = some (.pointer (some ⟨G, 0, none⟩)) := hs'.2.2 3 (by kernel_rfl)
        unfold Go.Rel.stepOf
        go_simp
        exact hK _ _ (Go.Rel.Grew.refl _) rfl
      · intro a w' hle hs' hd K hK
        obtain ⟨_, tg, rfl⟩ := hd 2 36 (by kernel_rfl)
        obtain ⟨_, t3, rfl⟩ := hd 3 37 (by kernel_rfl)
        obtain ⟨y0, y1⟩ := HG.out w' hle
        unfold Go.Rel.stepOf
        go_simp
        exact hK _ _ (Go.Rel.Grew.refl _) rfl
      · intro a w' hle hs' hd K hK
        obtain ⟨_, tg, rfl⟩ := hd 2 36 (by kernel_rfl)
        obtain ⟨_, t4, rfl⟩ := hd 4 38 (by kernel_rfl)
        have q5 := HQK.out
        have hwr := HQW.out
        unfold Go.Rel.stepOf
        go_simp
        exact hK _ _ (Go.Rel.Grew.refl _) rfl
      · intro a w' hle hs' hd K hK
        obtain ⟨_, tg, rfl⟩ := hd 2 36 (by kernel_rfl)
        have f1 : a.tmps[1]? = some (.pointer (some ⟨X, 0, none⟩)) := hs'.2.2 1 (by kernel_rfl)
        unfold Go.Rel.stepOf
        go_simp
        exact hK _ _ (Go.Rel.Grew.refl _) rfl
      · intro a w' hle hs' hd K hK
        obtain ⟨_, tg, rfl⟩ := hd 2 36 (by kernel_rfl)
        obtain ⟨_, t6, rfl⟩ := hd 6 40 (by kernel_rfl)
        obtain ⟨x0, x1, x2, x3, x4, x5⟩ := HX.out w' hle
        unfold Go.Rel.stepOf
        go_simp
        exact hK _ _ (Go.Rel.Grew.refl _) rfl
      · intro a w' hle hs' hd K hK
        obtain ⟨_, tg, rfl⟩ := hd 2 36 (by kernel_rfl)
        obtain ⟨_, t5, rfl⟩ := hd 5 39 (by kernel_rfl)
        obtain ⟨_, t7, rfl⟩ := hd 7 41 (by kernel_rfl)
        unfold Go.Rel.stepOf
        go_simp
        exact hK _ _ (Go.Rel.Grew.refl _) rfl
      · intro a w' hle hs' hd K hK
        obtain ⟨_, t2, rfl⟩ := hd 2 36 (by kernel_rfl)
        obtain ⟨_, t8, rfl⟩ := hd 8 42 (by kernel_rfl)
        unfold Go.Rel.stepOf
        go_simp
        exact hK _ _ (Go.Rel.Grew.refl _) rfl
      · intro a w' hle hs' hd K hK
        obtain ⟨_, t9, rfl⟩ := hd 9 43 (by kernel_rfl)
        unfold Go.Rel.stepOf
        go_simp
        exact hK _ _ (Go.Rel.Grew.refl _) rfl
      · intro a w' hle hs' hd K hK
        obtain ⟨_, tg, rfl⟩ := hd 10 44 (by kernel_rfl)
        have f3 : a.tmps[3]? = some (.pointer (some ⟨G, 0, none⟩)) := hs'.2.2 3 (by kernel_rfl)
        unfold Go.Rel.stepOf
        go_simp
        exact hK _ _ (Go.Rel.Grew.refl _) rfl
      · intro a w' hle hs' hd K hK
        obtain ⟨_, tg, rfl⟩ := hd 10 44 (by kernel_rfl)
        obtain ⟨_, t11, rfl⟩ := hd 11 45 (by kernel_rfl)
        obtain ⟨y0, y1⟩ := HG.out w' hle
        unfold Go.Rel.stepOf
        go_simp
        exact hK _ _ (Go.Rel.Grew.refl _) rfl
      · intro a w' hle hs' hd K hK
        obtain ⟨_, tg, rfl⟩ := hd 10 44 (by kernel_rfl)
        obtain ⟨_, t12, rfl⟩ := hd 12 46 (by kernel_rfl)
        have k1 := own_conv (HRg.out w' hle) c2
        rw [HST.out] at k1
        unfold Go.Rel.stepOf
        go_simp
        exact hK _ _ (Go.Rel.Grew.refl _) rfl
      · intro a w' hle hs' hd K hK
        obtain ⟨_, tg, rfl⟩ := hd 10 44 (by kernel_rfl)
        have f1 : a.tmps[1]? = some (.pointer (some ⟨X, 0, none⟩)) := hs'.2.2 1 (by kernel_rfl)
        obtain ⟨x0, x1, x2, x3, x4, x5⟩ := HX.out w' hle
        unfold Go.Rel.stepOf
        go_simp
        exact hK _ _ (Go.Rel.Grew.refl _) rfl
      · intro a w' hle hs' hd K hK
        obtain ⟨_, tg, rfl⟩ := hd 10 44 (by kernel_rfl)
        obtain ⟨_, t14, rfl⟩ := hd 14 48 (by kernel_rfl)
        unfold Go.Rel.stepOf
        go_simp
        refine (HBd.out w' hle).mono ?_
        rintro e w5 ⟨A5, c5, rfl, hbs5, _, hb5⟩
        exact hK _ _ hb5 ⟨A5, c5, rfl, hbs5.rb⟩
      · intro a w' hle hs' hd K hK
        obtain ⟨_, tg, rfl⟩ := hd 10 44 (by kernel_rfl)
        obtain ⟨_, t15, A9, c9, rfl, h9⟩ := hd 15 49 (by kernel_rfl)
        have k1 := own_conv h9 c9
        rw [HST.out] at k1
        unfold Go.Rel.stepOf
        go_simp
        exact hK _ _ (Go.Rel.Grew.refl _) rfl
      · intro a w' hle hs' hd K hK
        obtain ⟨_, tg, rfl⟩ := hd 10 44 (by kernel_rfl)
        obtain ⟨_, t13, rfl⟩ := hd 13 47 (by kernel_rfl)
        obtain ⟨_, t16, rfl⟩ := hd 16 50 (by kernel_rfl)
        unfold Go.Rel.stepOf
        go_simp
        exact hK _ _ (Go.Rel.Grew.refl _) rfl
      · intro a w' hle hs' hd K hK
        obtain ⟨_, t10, rfl⟩ := hd 10 44 (by kernel_rfl)
        obtain ⟨_, t17, rfl⟩ := hd 17 51 (by kernel_rfl)
        unfold Go.Rel.stepOf
        go_simp
        exact hK _ _ (Go.Rel.Grew.refl _) rfl
      · intro a w' hle hs' hd K hK
        obtain ⟨_, t18, rfl⟩ := hd 18 52 (by kernel_rfl)
        unfold Go.Rel.stepOf
        go_simp
        exact hK _ _ (Go.Rel.Grew.refl _) rfl
      · intro a w' hle hs' hd K hK
        obtain ⟨_, tg, rfl⟩ := hd 19 53 (by kernel_rfl)
        unfold Go.Rel.stepOf
        go_simp
        refine (works_any w').mono ?_
        rintro e w5 ⟨rfl, hb5⟩
        exact hK _ _ hb5 rfl
      · intro a w' hle hs' hd K hK
        obtain ⟨_, t19, rfl⟩ := hd 19 53 (by kernel_rfl)
        obtain ⟨_, t20, rfl⟩ := hd 20 54 (by kernel_rfl)
        unfold Go.Rel.stepOf
        go_simp
        exact hK _ _ (Go.Rel.Grew.refl _) rfl
      · intro a w' hle hs' hd K hK
        obtain ⟨_, t21, rfl⟩ := hd 21 55 (by kernel_rfl)
        unfold Go.Rel.stepOf
        go_simp
        exact hK _ _ (Go.Rel.Grew.refl _) rfl
    case hec =>
      intro aac wc hle hs' hR'
      have HBc : Hid (Below w.heap.size w wc) := Lib.hid (HB3.out.trans (Below.mono hle HB3.out.size))
      clear hle
      obtain ⟨v34, s34, _⟩ := hR' 0 34 (by kernel_rfl)
      obtain ⟨v35, s35, _⟩ := hR' 1 35 (by kernel_rfl)
      obtain ⟨v36, s36, _⟩ := hR' 2 36 (by kernel_rfl)
      obtain ⟨v37, s37, _⟩ := hR' 3 37 (by kernel_rfl)
      obtain ⟨v38, s38, _⟩ := hR' 4 38 (by kernel_rfl)
      obtain ⟨v39, s39, _⟩ := hR' 5 39 (by kernel_rfl)
      obtain ⟨v40, s40, _⟩ := hR' 6 40 (by kernel_rfl)
      obtain ⟨v41, s41, _⟩ := hR' 7 41 (by kernel_rfl)
      obtain ⟨v42, s42, _⟩ := hR' 8 42 (by kernel_rfl)
      obtain ⟨v43, s43, _⟩ := hR' 9 43 (by kernel_rfl)
      obtain ⟨v44, s44, _⟩ := hR' 10 44 (by kernel_rfl)
      obtain ⟨v45, s45, _⟩ := hR' 11 45 (by kernel_rfl)
      obtain ⟨v46, s46, _⟩ := hR' 12 46 (by kernel_rfl)
      obtain ⟨v47, s47, _⟩ := hR' 13 47 (by kernel_rfl)
      obtain ⟨v48, s48, _⟩ := hR' 14 48 (by kernel_rfl)
      obtain ⟨v49, s49, _⟩ := hR' 15 49 (by kernel_rfl)
      obtain ⟨v50, s50, _⟩ := hR' 16 50 (by kernel_rfl)
      obtain ⟨v51, s51, _⟩ := hR' 17 51 (by kernel_rfl)
      obtain ⟨v52, s52, _⟩ := hR' 18 52 (by kernel_rfl)
      obtain ⟨v53, s53, _⟩ := hR' 19 53 (by kernel_rfl)
      obtain ⟨v54, s54, _⟩ := hR' 20 54 (by kernel_rfl)
      obtain ⟨v55, s55, _⟩ := hR' 21 55 (by kernel_rfl)
      obtain ⟨_, s2, rfl⟩ := hR' 22 2 (by kernel_rfl)
      have e := hs'.shape
      simp only [List.toList_toArray, List.foldl, Go.Rel.reset, Array.getD_eq_getD_getElem?, s34, s35, s36, s37, s38, s39, s40, s41, s42, s43, s44, s45, s46, s47, s48, s49, s50, s51, s52, s53, s54, s55, s2, Option.getD_some] at e
      simp at e
      clear hR' hs' s34 s35 s36 s37 s38 s39 s40 s41 s42 s43 s44 s45 s46 s47 s48 s49 s50 s51 s52 s53 s54 s55 s2
      subst e
      go_wp2
      go_ret
      exact ⟨rfl, HBc.out⟩
theorem puts_walk (x : Mi) (w : World) (h : x.ok w) :
    Calls Try.prog 3 #[miV x] w fun e w' => e = .returned (.bool true) ∧ Below w.heap.size w w' := by
  cases hr : x.m.right with
  | false => exact puts_no x w h hr
  | true => exact puts_yes x w h ((Ms.right_iff _).1 hr)
end Go.Proofs.Ytjbemjnofnifaaa
