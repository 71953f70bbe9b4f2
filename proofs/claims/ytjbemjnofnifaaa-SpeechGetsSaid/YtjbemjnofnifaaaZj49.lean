/-
  Any frame is the message that the document tells, or is refused for its reason: the law sodalitylaw13.SpeechGets, walked.
-/
import Derived.Test.YtjbemjnofnifaaaZj48
import Derived.Test.YtjbemjnofnifaaaZj18
import Derived.Test.YtjbemjnofnifaaaZj17
namespace Go.Proofs.Ytjbemjnofnifaaa
open Go.RowKit
set_option linter.unusedSimpArgs false
set_option linter.unusedVariables false

set_option maxHeartbeats 8000000 in
theorem gets_walk (f : Fr) (A : Option Addr) (n c : Nat) (w : World) (hB : BodyAt w A c f.b) (hn : f.b.length = n) :
    Calls Try.prog 4 #[frIn f.k.toNat A n c] w fun e w' => e = .returned (.bool true) ∧ Below w.heap.size w w' := by
  obtain ⟨K, hK⟩ : ∃ K, f.k.toNat = K := ⟨_, rfl⟩
  obtain ⟨E, hE⟩ : ∃ E, errM f = E := ⟨_, rfl⟩
  obtain ⟨M, hM⟩ : ∃ M, (if errM f = 0 then msF f else msNone) = M := ⟨_, rfl⟩
  have S1 := Lib.hid (fun W (hb : Below w.heap.size w W) => get_fr f A n c W (hB.below hb) hn)
  have S2 := Lib.hid (fun W (hb : Below w.heap.size w W) => rget_fr f A n c W (hB.below hb) hn)
  rw [hM, hE, hK] at S1 S2
  rw [hK]
  unfold frIn at S1 S2 ⊢
  have HW0 := Lib.hid (fun (o : Obj) => below1 w o)
  have HF0 := Lib.hid (fun (cs : Array Value) (t : TypeId) => heap_alloc_new w (.cells cs t))
  obtain ⟨X, hX⟩ : ∃ X, w.heap.size = X := ⟨_, rfl⟩
  have HX := Lib.hid hX
  clear hB hn hK hE hM hX
  go_enter Try.func4, Try.ntmps4
  go_wp2_with fail
  refine (S1.out _ (HW0.out _)).mono ?_
  rintro e w1 ⟨x, rfl, hxm, hxu, hb⟩
  have hf0 := (hb.block w.heap.size (by simp)).trans (HF0.out _ _)
  have HB1 : Hid (Below w.heap.size w w1) := Lib.hid ((HW0.out _).trans (hb.mono (by simp)))
  rw [HX.out] at hf0 ⊢
  have HF1 := Lib.hid hf0
  have HXm := Lib.hid hxm
  have HXu := Lib.hid hxu
  unfold miV
  obtain ⟨Xx, hXx⟩ : ∃ X, w1.heap.size = X := ⟨_, rfl⟩
  have HXx := Lib.hid hXx
  have HMx : Hid (∀ T : TypeId, T = 25 → MiB (w1.alloc (.cells #[.int .i64 x.kind, .int .u32 (x.seq : Int), .int .i64 x.src, .int .i64 x.tgt, .bool x.rep, .slice x.us.A x.us.l.length x.us.c] T)) Xx x) := Lib.hid (fun T e => by rw [e, ← hXx]; exact MiB.new w1 x)
  have HB1o := Lib.hid (fun (o : Obj) => below1 w1 o)
  have hf1 := fun (o : Obj) => ((below1 w1 o).block X (block_lt hf0)).trans hf0
  obtain ⟨a0, a1⟩ := blk2 hf0
  have hz : X < w1.heap.size := block_lt hf0
  obtain ⟨a0', a1'⟩ := blk2 (hf1 (.cells #[.int .i64 x.kind, .int .u32 (x.seq : Int), .int .i64 x.src, .int .i64 x.tgt, .bool x.rep, .slice x.us.A x.us.l.length x.us.c] 25))
  clear hb hf0 hxm hxu hXx hf1
  go_wp2_with fail
  rw [HXx.out]
  refine (S2.out _ (HB1.out.trans ((HB1o.out _).mono HB1.out.size))).mono ?_
  rintro e w2 ⟨y, rfl, hym, hyu, hb⟩
  have hm2 := (HMx.out _ rfl).below hb
  have HM2 := Lib.hid hm2
  have HU2 : Hid (UsOk w2 x.us ∧ UsOk w2 y.us ∧ x.m = y.m) := Lib.hid ⟨(HXu.out.1.below (HB1o.out _)).below hb, hyu.1, HXm.out.trans hym.symm⟩
  have HB2 : Hid (Below w.heap.size w w2) := Lib.hid (HB1.out.trans (((HB1o.out _).trans (hb.mono (by simp))).mono HB1.out.size))
  have HB2o := Lib.hid (fun (o : Obj) => below1 w2 o)
  unfold miV
  obtain ⟨m0, m1, m2, m3, m4, m5⟩ := hm2.cells
  obtain ⟨n0, n1, n2, n3, n4, n5⟩ := (hm2.below (below1 w2 (.cells #[.int .i64 y.kind, .int .u32 (y.seq : Int), .int .i64 y.src, .int .i64 y.tgt, .bool y.rep, .slice y.us.A y.us.l.length y.us.c] 25))).cells
  have hz2 : Xx < w2.heap.size := hm2.lt
  have S3 := Lib.hid (fun W (hW : Below w2.heap.size w2 W) => same_yes x y HU2.out.2.2 W (HU2.out.1.below hW) (HU2.out.2.1.below hW))
  unfold miV at S3
  clear hb hm2 hym hyu a0 a1 hz a0' a1'
  go_wp2_with fail
  refine (S3.out _ (HB2o.out _)).mono ?_
  rintro e w3 ⟨rfl, hb⟩
  have HB3 : Hid (Below w.heap.size w w3) := Lib.hid (HB2.out.trans (((HB2o.out _).trans (hb.mono (by simp))).mono HB2.out.size))
  clear hb m0 m1 m2 m3 m4 m5 n0 n1 n2 n3 n4 n5 hz2
  go_wp2_with fail
  refine (works_any w3).mono ?_
  rintro e w4 ⟨rfl, hb⟩
  have HB4 : Hid (Below w.heap.size w w4) := Lib.hid (HB3.out.trans (hb.mono HB3.out.size))
  clear hb
  go_wp2
  go_ret
  exact ⟨rfl, HB4.out⟩
end Go.Proofs.Ytjbemjnofnifaaa

/-
  What comes into layer 13's laws: messages with their updates, lists of them, frames, bytes.
-/
namespace Go.Proofs.Ytjbemjnofnifaaa
open Go.Joins Go.ChangeShapes Go.WideShapes Go.ChangeAt Go.RowKit
set_option linter.unusedSimpArgs false

theorem wf64 {z : Int} (h : (Lit.int .i64 z).wf = true) : -9223372036854775808 ≤ z ∧ z ≤ 9223372036854775807 := by simpa [Lit.wf, IntKind.min, IntKind.max, IntKind.signed, IntKind.bits] using h
noncomputable def i64C : Came Try.prog 3 Int := Came.int Try.underlying3 (by kernel_rfl)
theorem wfu8 (z : Int) (h : (Lit.int .u8 z).wf = true) : 0 ≤ z ∧ z < ((256 : Nat) : Int) := by
  have : 0 ≤ z ∧ z ≤ 255 := by simpa [Lit.wf, IntKind.min, IntKind.max, IntKind.signed, IntKind.bits] using h
  omega
noncomputable def u8C : Came Try.prog 5 Nat := Came.nat Try.underlying5 (by kernel_rfl) 256 wfu8
theorem wfu32 (z : Int) (h : (Lit.int .u32 z).wf = true) : 0 ≤ z ∧ z < ((4294967296 : Nat) : Int) := by
  have : 0 ≤ z ∧ z ≤ 4294967295 := by simpa [Lit.wf, IntKind.min, IntKind.max, IntKind.signed, IntKind.bits] using h
  omega
noncomputable def u32C : Came Try.prog 22 Nat := Came.nat Try.underlying22 (by kernel_rfl) 4294967296 wfu32
noncomputable def boolC : Came Try.prog 4 Bool := Came.bool Try.underlying4 (by kernel_rfl)
noncomputable def upCm : Came Try.prog 66 Up :=
  (Came.struct (CameF.cons i64C (CameF.cons u32C (CameF.cons i64C (CameF.nil _)))) Try.underlying66 (by kernel_rfl) (by kernel_rfl)).re
    (fun x => ⟨x.1, x.2.1, x.2.2.1⟩) (fun x => [.int .i64 x.node, .int .u32 (x.inc : Int), .int .i64 x.st])
    (fun W N x => i64C.ok W N x.node ∧ u32C.ok W N x.inc ∧ i64C.ok W N x.st) (fun _ => rfl)
    (fun h => ⟨rfl, h.1, h.2.1, h.2.2.1⟩) (fun h hb => ⟨i64C.keep h.1 hb, u32C.keep h.2.1 hb, i64C.keep h.2.2 hb⟩)
noncomputable def msgC : Came Try.prog 25 Mi :=
  (Came.struct (CameF.cons i64C (CameF.cons u32C (CameF.cons i64C (CameF.cons i64C (CameF.cons boolC (CameF.cons (upCm.slice (by decide) Try.underlying23 (by kernel_rfl)) (CameF.nil _))))))) Try.underlying25 (by kernel_rfl) (by kernel_rfl)).re
    (fun x => ⟨x.1, x.2.1, x.2.2.1, x.2.2.2.1, x.2.2.2.2.1, x.2.2.2.2.2.1⟩) (fun x => [.int .i64 x.kind, .int .u32 (x.seq : Int), .int .i64 x.src, .int .i64 x.tgt, .bool x.rep, .slice x.us.A x.us.l.length x.us.c])
    (fun W N x => i64C.ok W N x.kind ∧ u32C.ok W N x.seq ∧ i64C.ok W N x.src ∧ i64C.ok W N x.tgt ∧ boolC.ok W N x.rep ∧ (upCm.slice (by decide) Try.underlying23 (by kernel_rfl)).ok W N x.us) (fun _ => rfl)
    (fun h => ⟨rfl, h.1, h.2.1, h.2.2.1, h.2.2.2.1, h.2.2.2.2.1, h.2.2.2.2.2.1⟩) (fun h hb => ⟨i64C.keep h.1 hb, u32C.keep h.2.1 hb, i64C.keep h.2.2.1 hb, i64C.keep h.2.2.2.1 hb, boolC.keep h.2.2.2.2.1 hb, (upCm.slice (by decide) Try.underlying23 (by kernel_rfl)).keep h.2.2.2.2.2 hb⟩)
structure Fi where
  k : Nat
  b : Sl Nat
noncomputable def frmC : Came Try.prog 28 Fi :=
  (Came.struct (CameF.cons u8C (CameF.cons (u8C.slice (by decide) Try.underlying26 (by kernel_rfl)) (CameF.nil _))) Try.underlying28 (by kernel_rfl) (by kernel_rfl)).re
    (fun x => ⟨x.1, x.2.1⟩) (fun x => [.int .u8 (x.k : Int), .slice x.b.A x.b.l.length x.b.c])
    (fun W N x => u8C.ok W N x.k ∧ (u8C.slice (by decide) Try.underlying26 (by kernel_rfl)).ok W N x.b) (fun _ => rfl)
    (fun h => ⟨rfl, h.1, h.2.1⟩) (fun h hb => ⟨u8C.keep h.1 hb, (u8C.slice (by decide) Try.underlying26 (by kernel_rfl)).keep h.2 hb⟩)
section
variable {W : World} {N : Nat}
theorem us_of {s : Sl Up} (h : (upCm.slice (by decide) Try.underlying23 (by kernel_rfl)).ok W N s) : UsOk W s ∧ ∀ u ∈ s.l, u.wide := by
  obtain ⟨h1, h2, h3, h4, h5, _⟩ := h
  refine ⟨⟨⟨h1.1, fun hn => ?_⟩, h3, h4, h5⟩, fun u hu => (h2 u hu).2.1⟩
  obtain ⟨b, off, e, hlt, hc⟩ := h1.2 hn
  exact ⟨b, off, e, hlt, fun j hj => ⟨hc j hj 0 _ rfl, hc j hj 1 _ rfl, hc j hj 2 _ rfl⟩⟩
theorem msg_of {x : Mi} (h : msgC.ok W N x) : x.ok W := by
  obtain ⟨_, h2, _, _, _, h6⟩ := h
  exact ⟨(us_of h6).1, h2, (us_of h6).2⟩
theorem mis_of {s : Sl Mi} (h : (msgC.slice (by decide) Try.underlying41 (by kernel_rfl)).ok W N s) : Mis W s.A s.l.length s.c s.l ∧ s.l.length ≤ 2199023255488 := by
  obtain ⟨h1, h2, h3, h4, h5, h6, _⟩ := h
  refine ⟨⟨h1, fun x hx => msg_of (h2 x hx), h3, h4, h5⟩, ?_⟩
  rw [show Try.prog.bytesOf 25 = 64 by kernel_rfl] at h6
  have : reachBytes = 140737488351232 := rfl
  omega
def bytesS (s : Sl Nat) : List UInt8 := s.l.map Nat.toUInt8
theorem bytesS_length (s : Sl Nat) : (bytesS s).length = s.l.length := by simp [bytesS]
theorem rb_of {s : Sl Nat} (h : (u8C.slice (by decide) Try.underlying26 (by kernel_rfl)).ok W N s) : RB W s.A s.l.length (bytesS s) ∧ s.l.length ≤ s.c ∧ (s.A = none → s.c = 0) ∧ s.l.length ≤ 140737488351232 := by
  obtain ⟨h1, h2, h3, h4, h5, h6, _⟩ := h
  refine ⟨⟨bytesS_length s, fun hn => ?_⟩, h3, h5, ?_⟩
  · obtain ⟨b, off, e, hlt, hc⟩ := h1.2 hn
    refine ⟨b, off, e, hlt, fun j hj => ?_⟩
    have hj' : j < s.l.length := by rw [bytesS_length] at hj; exact hj
    have h9 := hc j hj' 0 _ rfl
    have h8 : s.l[j] < 256 := h2 _ (List.getElem_mem hj')
    have e2 : ((bytesS s)[j].toNat : Int) = (s.l[j] : Int) := by
      simp only [bytesS, List.getElem_map]
      simp
      omega
    have e3 : j * u8C.k + 0 = j := by
      show j * 1 + 0 = j
      omega
    rw [Nat.add_assoc, e3] at h9
    rw [h9]
    show _ = some (Value.int .u8 _)
    rw [e2]
  · rw [show Try.prog.bytesOf 5 = 1 by kernel_rfl] at h6
    have : reachBytes = 140737488351232 := rfl
    omega
theorem frm_of {x : Fi} (h : frmC.ok W N x) : ∃ f : Fr, f.k.toNat = x.k ∧ f.b.length = x.b.l.length ∧ BodyAt W x.b.A x.b.c f.b := by
  obtain ⟨h1, h2⟩ := h
  obtain ⟨r1, r2, r3, r4⟩ := rb_of h2
  have h8 : x.k < 256 := h1
  refine ⟨⟨x.k.toUInt8, bytesS x.b⟩, by simp; omega, bytesS_length _, ?_⟩
  refine ⟨?_, by rw [bytesS_length]; exact r2, r3, by rw [bytesS_length]; exact r4⟩
  show RB W x.b.A (bytesS x.b).length (bytesS x.b)
  rw [bytesS_length]
  exact r1
end
end Go.Proofs.Ytjbemjnofnifaaa
