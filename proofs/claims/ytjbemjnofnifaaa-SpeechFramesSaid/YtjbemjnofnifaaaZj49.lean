/-
  A frame is told as a message just if it is one that a message makes: the law sodalitylaw13.SpeechFrames, walked.
-/
import Derived.Test.YtjbemjnofnifaaaZj46
import Derived.Test.YtjbemjnofnifaaaZj47
import Derived.Test.YtjbemjnofnifaaaZj48
import Derived.Test.YtjbemjnofnifaaaZj18
import Derived.Test.YtjbemjnofnifaaaZj17
namespace Go.Proofs.Ytjbemjnofnifaaa
open Go.RowKit
set_option linter.unusedSimpArgs false
set_option linter.unusedVariables false

set_option maxHeartbeats 8000000 in
theorem frames_walk (f : Fr) (A : Option Addr) (n c : Nat) (w : World) (hB : BodyAt w A c f.b) (hn : f.b.length = n) :
    Calls Try.prog 8 #[frIn f.k.toNat A n c] w fun e w' => e = .returned (.bool true) ∧ Below w.heap.size w w' := by
  have S1 := Lib.hid (fun W (hb : Below w.heap.size w W) => get_fr f A n c W (hB.below hb) hn)
  have HBody := Lib.hid (fun W (hb : Below w.heap.size w W) => (hB.below hb : BodyAt W A c f.b))
  obtain ⟨E, hE⟩ : ∃ E, errM f = E := ⟨_, rfl⟩
  have HEE := Lib.hid hE
  rw [hE] at S1
  obtain ⟨K, hK⟩ : ∃ K, f.k.toNat = K := ⟨_, rfl⟩
  have HK := Lib.hid hK
  have HLn := Lib.hid hn
  rw [hK] at S1 ⊢
  unfold frIn at S1 ⊢
  have HW0 := Lib.hid (fun (o : Obj) => below1 w o)
  have HF0 := Lib.hid (fun (cs : Array Value) (t : TypeId) => heap_alloc_new w (.cells cs t))
  obtain ⟨X, hX⟩ : ∃ X, w.heap.size = X := ⟨_, rfl⟩
  have HX := Lib.hid hX
  clear hB hn hE hK hX
  go_enter Try.func8, Try.ntmps8
  go_wp2_with fail
  refine (S1.out _ (HW0.out _)).mono ?_
  rintro e w1 ⟨x, rfl, hxm, hxu, hb⟩
  have hf0 := (hb.block w.heap.size (by simp)).trans (HF0.out _ _)
  have HB1 : Hid (Below w.heap.size w w1) := Lib.hid ((HW0.out _).trans (hb.mono (by simp)))
  rw [HX.out] at hf0 ⊢
  have HF1 := Lib.hid hf0
  have HXm := Lib.hid hxm
  have HXu := Lib.hid hxu
  unfold miV
  have HB1o := Lib.hid (fun (o : Obj) => below1 w1 o)
  clear hb hf0 hxm hxu
  by_cases hE0 : E = 0
  · subst hE0
    have hxf : x.m = msF f := by rw [HXm.out, if_pos rfl]
    obtain ⟨hok, hwide, hfr⟩ := msF_back HEE.out
    rw [← hxf] at hok hwide hfr
    have S2 := Lib.hid (fun W (hW : Below w1.heap.size w1 W) => put_yes x W (HXu.out.1.below hW) hok hwide)
    unfold PutYes miV at S2
    have hbm : bodyM x.m = f.b := by rw [← hfr]; rfl
    have hkm : x.m.kind = (K : Int) := by rw [kindF hok, hfr, HK.out]
    rw [hbm, hkm, HLn.out] at S2
    clear hxf hok hwide hfr hbm hkm
    go_wp2_with fail
    refine (S2.out _ (HB1o.out _)).mono ?_
    rintro e w5 ⟨A2, c2, rfl, hbs, _, hb⟩
    have hb5 : Below w1.heap.size w1 w5 := (HB1o.out _).trans (hb.mono (by simp))
    have HB5 : Hid (Below w.heap.size w w5) := Lib.hid (HB1.out.trans (hb5.mono HB1.out.size))
    have hf5 := (hb5.block X (block_lt HF1.out)).trans HF1.out
    have HBg : Hid (BodyAt w5 A2 c2 f.b) := Lib.hid ⟨hbs.rb, hbs.le, hbs.nil, (HBody.out w (Below.refl _ _)).2.2.2⟩
    have HBf : Hid (BodyAt w5 A c f.b) := Lib.hid (HBody.out w5 HB5.out)
    obtain ⟨a0, a1⟩ := blk2 hf5
    have hz5 : X < w5.heap.size := block_lt hf5
    have HS3 : Hid (∀ (T1 T2 T3 : TypeId), Calls Try.prog 22 #[.slice (some ⟨w5.heap.size + 1, 0, none⟩) 1 1, .slice (some ⟨w5.heap.size + 1 + 1, 0, none⟩) 1 1] (((w5.alloc (.cells #[.int .u8 (K : Int), .slice A2 n c2] T1)).alloc (.cells #[.int .u8 (K : Int), .slice A n c] T2)).alloc (.cells #[.int .u8 (K : Int), .slice A2 n c2] T3)) fun e w' => e = .returned (.bool true) ∧ Below (w5.heap.size + 1 + 1 + 1) (((w5.alloc (.cells #[.int .u8 (K : Int), .slice A2 n c2] T1)).alloc (.cells #[.int .u8 (K : Int), .slice A n c] T2)).alloc (.cells #[.int .u8 (K : Int), .slice A2 n c2] T3)) w') := Lib.hid (fun T1 T2 T3 => by
      have r1 := (RFs.one (f := f) (HBf.out.below (below1 w5 (.cells #[.int .u8 (K : Int), .slice A2 n c2] T1))) T2).below (below1 _ (.cells #[.int .u8 (K : Int), .slice A2 n c2] T3))
      have r2 := RFs.one (f := f) (HBg.out.below (below2 w5 (.cells #[.int .u8 (K : Int), .slice A2 n c2] T1) (.cells #[.int .u8 (K : Int), .slice A n c] T2))) T3
      rw [HK.out, HLn.out] at r1 r2
      simp only [World.size_alloc] at r1 r2
      have h9 := same_any _ _ 1 1 1 [f] _ r1 r2 (by decide)
      simp only [World.size_alloc] at h9
      exact h9)
    have HB9 : Hid (∀ (o p q : Obj), Below w5.heap.size w5 (((w5.alloc o).alloc p).alloc q)) := Lib.hid (fun o p q => (below2 w5 o p).alloc (by simp; omega) q)
    clear hb hbs hb5 hf5
    go_wp2_with fail
    refine (HS3.out _ _ _).mono ?_
    rintro e w6 ⟨rfl, hb⟩
    have HB6 : Hid (Below w.heap.size w w6) := Lib.hid (HB5.out.trans (((HB9.out _ _ _).trans (hb.mono (by omega))).mono HB5.out.size))
    clear hb a0 a1 hz5
    go_wp2_with fail
    refine (works_any w6).mono ?_
    rintro e w7 ⟨rfl, hb⟩
    have HB7 : Hid (Below w.heap.size w w7) := Lib.hid (HB6.out.trans (hb.mono HB6.out.size))
    clear hb
    go_wp2
    go_ret
    exact ⟨rfl, HB7.out⟩
  · have E1 : ((E : Int) != 0) = true := by rw [bne_iff_ne]; omega
    have HB2 : Hid (∀ o, Below w.heap.size w (w1.alloc o)) := Lib.hid (fun o => HB1.out.trans ((HB1o.out o).mono HB1.out.size))
    clear hE0
    go_wp2_with fail
    refine (works_any _).mono ?_
    rintro e w2 ⟨rfl, hb⟩
    have HB3 : Hid (Below w.heap.size w w2) := Lib.hid ((HB2.out _).trans (hb.mono (HB2.out _).size))
    clear hb
    go_wp2
    go_ret
    exact ⟨rfl, HB3.out⟩
end Go.Proofs.Ytjbemjnofnifaaa

/-
  What comes into layer 13's laws: messages with their updates, lists of them, frames, bytes.
-/
namespace Go.Proofs.Ytjbemjnofnifaaa
open Go.Joins Go.ChangeShapes Go.WideShapes Go.ChangeAt Go.RowKit
set_option linter.unusedSimpArgs false

theorem wf64 {z : Int} (h : (Lit.int .i64 z).wf = true) : -9223372036854775808 ≤ z ∧ z ≤ 9223372036854775807 := by simpa [Lit.wf, IntKind.min, IntKind.max, IntKind.signed, IntKind.bits] using h
noncomputable def i64C : Came Try.prog 3 Int := Came.int Try.underlying3 (by kernel_rfl)
theorem wfu8 (z : Int) (h : (Lit.int .u8 z).wf = true) : 0 ≤ z ∧ z < ((256 : Nat) : Int) := by
  have : 0 ≤ z ∧ z ≤ 255 := by simpa [Lit.wf, IntKind.min, IntKind.max, IntKind.signed, IntKind.bits] using h
  omega
noncomputable def u8C : Came Try.prog 5 Nat := Came.nat Try.underlying5 (by kernel_rfl) 256 wfu8
theorem wfu32 (z : Int) (h : (Lit.int .u32 z).wf = true) : 0 ≤ z ∧ z < ((4294967296 : Nat) : Int) := by
  have : 0 ≤ z ∧ z ≤ 4294967295 := by simpa [Lit.wf, IntKind.min, IntKind.max, IntKind.signed, IntKind.bits] using h
  omega
noncomputable def u32C : Came Try.prog 22 Nat := Came.nat Try.underlying22 (by kernel_rfl) 4294967296 wfu32
noncomputable def boolC : Came Try.prog 4 Bool := Came.bool Try.underlying4 (by kernel_rfl)
noncomputable def upCm : Came Try.prog 66 Up :=
  (Came.struct (CameF.cons i64C (CameF.cons u32C (CameF.cons i64C (CameF.nil _)))) Try.underlying66 (by kernel_rfl) (by kernel_rfl)).re
    (fun x => ⟨x.1, x.2.1, x.2.2.1⟩) (fun x => [.int .i64 x.node, .int .u32 (x.inc : Int), .int .i64 x.st])
    (fun W N x => i64C.ok W N x.node ∧ u32C.ok W N x.inc ∧ i64C.ok W N x.st) (fun _ => rfl)
    (fun h => ⟨rfl, h.1, h.2.1, h.2.2.1⟩) (fun h hb => ⟨i64C.keep h.1 hb, u32C.keep h.2.1 hb, i64C.keep h.2.2 hb⟩)
noncomputable def msgC : Came Try.prog 25 Mi :=
  (Came.struct (CameF.cons i64C (CameF.cons u32C (CameF.cons i64C (CameF.cons i64C (CameF.cons boolC (CameF.cons (upCm.slice (by decide) Try.underlying23 (by kernel_rfl)) (CameF.nil _))))))) Try.underlying25 (by kernel_rfl) (by kernel_rfl)).re
    (fun x => ⟨x.1, x.2.1, x.2.2.1, x.2.2.2.1, x.2.2.2.2.1, x.2.2.2.2.2.1⟩) (fun x => [.int .i64 x.kind, .int .u32 (x.seq : Int), .int .i64 x.src, .int .i64 x.tgt, .bool x.rep, .slice x.us.A x.us.l.length x.us.c])
    (fun W N x => i64C.ok W N x.kind ∧ u32C.ok W N x.seq ∧ i64C.ok W N x.src ∧ i64C.ok W N x.tgt ∧ boolC.ok W N x.rep ∧ (upCm.slice (by decide) Try.underlying23 (by kernel_rfl)).ok W N x.us) (fun _ => rfl)
    (fun h => ⟨rfl, h.1, h.2.1, h.2.2.1, h.2.2.2.1, h.2.2.2.2.1, h.2.2.2.2.2.1⟩) (fun h hb => ⟨i64C.keep h.1 hb, u32C.keep h.2.1 hb, i64C.keep h.2.2.1 hb, i64C.keep h.2.2.2.1 hb, boolC.keep h.2.2.2.2.1 hb, (upCm.slice (by decide) Try.underlying23 (by kernel_rfl)).keep h.2.2.2.2.2 hb⟩)
structure Fi where
  k : Nat
  b : Sl Nat
noncomputable def frmC : Came Try.prog 28 Fi :=
  (Came.struct (CameF.cons u8C (CameF.cons (u8C.slice (by decide) Try.underlying26 (by kernel_rfl)) (CameF.nil _))) Try.underlying28 (by kernel_rfl) (by kernel_rfl)).re
    (fun x => ⟨x.1, x.2.1⟩) (fun x => [.int .u8 (x.k : Int), .slice x.b.A x.b.l.length x.b.c])
    (fun W N x => u8C.ok W N x.k ∧ (u8C.slice (by decide) Try.underlying26 (by kernel_rfl)).ok W N x.b) (fun _ => rfl)
    (fun h => ⟨rfl, h.1, h.2.1⟩) (fun h hb => ⟨u8C.keep h.1 hb, (u8C.slice (by decide) Try.underlying26 (by kernel_rfl)).keep h.2 hb⟩)
section
variable {W : World} {N : Nat}
theorem us_of {s : Sl Up} (h : (upCm.slice (by decide) Try.underlying23 (by kernel_rfl)).ok W N s) : UsOk W s ∧ ∀ u ∈ s.l, u.wide := by
  obtain ⟨h1, h2, h3, h4, h5, _⟩ := h
  refine ⟨⟨⟨h1.1, fun hn => ?_⟩, h3, h4, h5⟩, fun u hu => (h2 u hu).2.1⟩
  obtain ⟨b, off, e, hlt, hc⟩ := h1.2 hn
  exact ⟨b, off, e, hlt, fun j hj => ⟨hc j hj 0 _ rfl, hc j hj 1 _ rfl, hc j hj 2 _ rfl⟩⟩
theorem msg_of {x : Mi} (h : msgC.ok W N x) : x.ok W := by
  obtain ⟨_, h2, _, _, _, h6⟩ := h
  exact ⟨(us_of h6).1, h2, (us_of h6).2⟩
theorem mis_of {s : Sl Mi} (h : (msgC.slice (by decide) Try.underlying41 (by kernel_rfl)).ok W N s) : Mis W s.A s.l.length s.c s.l ∧ s.l.length ≤ 2199023255488 := by
  obtain ⟨h1, h2, h3, h4, h5, h6, _⟩ := h
  refine ⟨⟨h1, fun x hx => msg_of (h2 x hx), h3, h4, h5⟩, ?_⟩
  rw [show Try.prog.bytesOf 25 = 64 by kernel_rfl] at h6
  have : reachBytes = 140737488351232 := rfl
  omega
def bytesS (s : Sl Nat) : List UInt8 := s.l.map Nat.toUInt8
theorem bytesS_length (s : Sl Nat) : (bytesS s).length = s.l.length := by simp [bytesS]
theorem rb_of {s : Sl Nat} (h : (u8C.slice (by decide) Try.underlying26 (by kernel_rfl)).ok W N s) : RB W s.A s.l.length (bytesS s) ∧ s.l.length ≤ s.c ∧ (s.A = none → s.c = 0) ∧ s.l.length ≤ 140737488351232 := by
  obtain ⟨h1, h2, h3, h4, h5, h6, _⟩ := h
  refine ⟨⟨bytesS_length s, fun hn => ?_⟩, h3, h5, ?_⟩
  · obtain ⟨b, off, e, hlt, hc⟩ := h1.2 hn
    refine ⟨b, off, e, hlt, fun j hj => ?_⟩
    have hj' : j < s.l.length := by rw [bytesS_length] at hj; exact hj
    have h9 := hc j hj' 0 _ rfl
    have h8 : s.l[j] < 256 := h2 _ (List.getElem_mem hj')
    have e2 : ((bytesS s)[j].toNat : Int) = (s.l[j] : Int) := by
      simp only [bytesS, List.getElem_map]
      simp
      omega
    have e3 : j * u8C.k + 0 = j := by
      show j * 1 + 0 = j
      omega
    rw [Nat.add_assoc, e3] at h9
    rw [h9]
    show _ = some (Value.int .u8 _)
    rw [e2]
  · rw [show Try.prog.bytesOf 5 = 1 by kernel_rfl] at h6
    have : reachBytes = 140737488351232 := rfl
    omega
theorem frm_of {x : Fi} (h : frmC.ok W N x) : ∃ f : Fr, f.k.toNat = x.k ∧ f.b.length = x.b.l.length ∧ BodyAt W x.b.A x.b.c f.b := by
  obtain ⟨h1, h2⟩ := h
  obtain ⟨r1, r2, r3, r4⟩ := rb_of h2
  have h8 : x.k < 256 := h1
  refine ⟨⟨x.k.toUInt8, bytesS x.b⟩, by simp; omega, bytesS_length _, ?_⟩
  refine ⟨?_, by rw [bytesS_length]; exact r2, r3, by rw [bytesS_length]; exact r4⟩
  show RB W x.b.A (bytesS x.b).length (bytesS x.b)
  rw [bytesS_length]
  exact r1
end
end Go.Proofs.Ytjbemjnofnifaaa
