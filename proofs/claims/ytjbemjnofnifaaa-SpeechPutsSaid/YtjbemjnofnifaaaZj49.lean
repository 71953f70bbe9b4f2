/-
  What comes into layer 13's laws: messages with their updates, lists of them, frames, bytes.
-/
import Derived.Test.YtjbemjnofnifaaaZj18
import Derived.Test.YtjbemjnofnifaaaZj17
namespace Go.Proofs.Ytjbemjnofnifaaa
open Go.Joins Go.ChangeShapes Go.WideShapes Go.ChangeAt Go.RowKit
set_option linter.unusedSimpArgs false

theorem wf64 {z : Int} (h : (Lit.int .i64 z).wf = true) : -9223372036854775808 ≤ z ∧ z ≤ 9223372036854775807 := by simpa [Lit.wf, IntKind.min, IntKind.max, IntKind.signed, IntKind.bits] using h
noncomputable def i64C : Came Try.prog 3 Int := Came.int Try.underlying3 (by kernel_rfl)
theorem wfu8 (z : Int) (h : (Lit.int .u8 z).wf = true) : 0 ≤ z ∧ z < ((256 : Nat) : Int) := by
  have : 0 ≤ z ∧ z ≤ 255 := by simpa [Lit.wf, IntKind.min, IntKind.max, IntKind.signed, IntKind.bits] using h
  omega
noncomputable def u8C : Came Try.prog 5 Nat := Came.nat Try.underlying5 (by kernel_rfl) 256 wfu8
theorem wfu32 (z : Int) (h : (Lit.int .u32 z).wf = true) : 0 ≤ z ∧ z < ((4294967296 : Nat) : Int) := by
  have : 0 ≤ z ∧ z ≤ 4294967295 := by simpa [Lit.wf, IntKind.min, IntKind.max, IntKind.signed, IntKind.bits] using h
  omega
noncomputable def u32C : Came Try.prog 22 Nat := Came.nat Try.underlying22 (by kernel_rfl) 4294967296 wfu32
noncomputable def boolC : Came Try.prog 4 Bool := Came.bool Try.underlying4 (by kernel_rfl)
noncomputable def upCm : Came Try.prog 66 Up :=
  (Came.struct (CameF.cons i64C (CameF.cons u32C (CameF.cons i64C (CameF.nil _)))) Try.underlying66 (by kernel_rfl) (by kernel_rfl)).re
    (fun x => ⟨x.1, x.2.1, x.2.2.1⟩) (fun x => [.int .i64 x.node, .int .u32 (x.inc : Int), .int .i64 x.st])
    (fun W N x => i64C.ok W N x.node ∧ u32C.ok W N x.inc ∧ i64C.ok W N x.st) (fun _ => rfl)
    (fun h => ⟨rfl, h.1, h.2.1, h.2.2.1⟩) (fun h hb => ⟨i64C.keep h.1 hb, u32C.keep h.2.1 hb, i64C.keep h.2.2 hb⟩)
noncomputable def msgC : Came Try.prog 25 Mi :=
  (Came.struct (CameF.cons i64C (CameF.cons u32C (CameF.cons i64C (CameF.cons i64C (CameF.cons boolC (CameF.cons (upCm.slice (by decide) Try.underlying23 (by kernel_rfl)) (CameF.nil _))))))) Try.underlying25 (by kernel_rfl) (by kernel_rfl)).re
    (fun x => ⟨x.1, x.2.1, x.2.2.1, x.2.2.2.1, x.2.2.2.2.1, x.2.2.2.2.2.1⟩) (fun x => [.int .i64 x.kind, .int .u32 (x.seq : Int), .int .i64 x.src, .int .i64 x.tgt, .bool x.rep, .slice x.us.A x.us.l.length x.us.c])
    (fun W N x => i64C.ok W N x.kind ∧ u32C.ok W N x.seq ∧ i64C.ok W N x.src ∧ i64C.ok W N x.tgt ∧ boolC.ok W N x.rep ∧ (upCm.slice (by decide) Try.underlying23 (by kernel_rfl)).ok W N x.us) (fun _ => rfl)
    (fun h => ⟨rfl, h.1, h.2.1, h.2.2.1, h.2.2.2.1, h.2.2.2.2.1, h.2.2.2.2.2.1⟩) (fun h hb => ⟨i64C.keep h.1 hb, u32C.keep h.2.1 hb, i64C.keep h.2.2.1 hb, i64C.keep h.2.2.2.1 hb, boolC.keep h.2.2.2.2.1 hb, (upCm.slice (by decide) Try.underlying23 (by kernel_rfl)).keep h.2.2.2.2.2 hb⟩)
structure Fi where
  k : Nat
  b : Sl Nat
noncomputable def frmC : Came Try.prog 28 Fi :=
  (Came.struct (CameF.cons u8C (CameF.cons (u8C.slice (by decide) Try.underlying26 (by kernel_rfl)) (CameF.nil _))) Try.underlying28 (by kernel_rfl) (by kernel_rfl)).re
    (fun x => ⟨x.1, x.2.1⟩) (fun x => [.int .u8 (x.k : Int), .slice x.b.A x.b.l.length x.b.c])
    (fun W N x => u8C.ok W N x.k ∧ (u8C.slice (by decide) Try.underlying26 (by kernel_rfl)).ok W N x.b) (fun _ => rfl)
    (fun h => ⟨rfl, h.1, h.2.1⟩) (fun h hb => ⟨u8C.keep h.1 hb, (u8C.slice (by decide) Try.underlying26 (by kernel_rfl)).keep h.2 hb⟩)
section
variable {W : World} {N : Nat}
theorem us_of {s : Sl Up} (h : (upCm.slice (by decide) Try.underlying23 (by kernel_rfl)).ok W N s) : UsOk W s ∧ ∀ u ∈ s.l, u.wide := by
  obtain ⟨h1, h2, h3, h4, h5, _⟩ := h
  refine ⟨⟨⟨h1.1, fun hn => ?_⟩, h3, h4, h5⟩, fun u hu => (h2 u hu).2.1⟩
  obtain ⟨b, off, e, hlt, hc⟩ := h1.2 hn
  exact ⟨b, off, e, hlt, fun j hj => ⟨hc j hj 0 _ rfl, hc j hj 1 _ rfl, hc j hj 2 _ rfl⟩⟩
theorem msg_of {x : Mi} (h : msgC.ok W N x) : x.ok W := by
  obtain ⟨_, h2, _, _, _, h6⟩ := h
  exact ⟨(us_of h6).1, h2, (us_of h6).2⟩
theorem mis_of {s : Sl Mi} (h : (msgC.slice (by decide) Try.underlying41 (by kernel_rfl)).ok W N s) : Mis W s.A s.l.length s.c s.l ∧ s.l.length ≤ 2199023255488 := by
  obtain ⟨h1, h2, h3, h4, h5, h6, _⟩ := h
  refine ⟨⟨h1, fun x hx => msg_of (h2 x hx), h3, h4, h5⟩, ?_⟩
  rw [show Try.prog.bytesOf 25 = 64 by kernel_rfl] at h6
  have : reachBytes = 140737488351232 := rfl
  omega
def bytesS (s : Sl Nat) : List UInt8 := s.l.map Nat.toUInt8
theorem bytesS_length (s : Sl Nat) : (bytesS s).length = s.l.length := by simp [bytesS]
theorem rb_of {s : Sl Nat} (h : (u8C.slice (by decide) Try.underlying26 (by kernel_rfl)).ok W N s) : RB W s.A s.l.length (bytesS s) ∧ s.l.length ≤ s.c ∧ (s.A = none → s.c = 0) ∧ s.l.length ≤ 140737488351232 := by
  obtain ⟨h1, h2, h3, h4, h5, h6, _⟩ := h
  refine ⟨⟨bytesS_length s, fun hn => ?_⟩, h3, h5, ?_⟩
  · obtain ⟨b, off, e, hlt, hc⟩ := h1.2 hn
    refine ⟨b, off, e, hlt, fun j hj => ?_⟩
    have hj' : j < s.l.length := by rw [bytesS_length] at hj; exact hj
    have h9 := hc j hj' 0 _ rfl
    have h8 : s.l[j] < 256 := h2 _ (List.getElem_mem hj')
    have e2 : ((bytesS s)[j].toNat : Int) = (s.l[j] : Int) := by
      simp only [bytesS, List.getElem_map]
      simp
      omega
    have e3 : j * u8C.k + 0 = j := by
      show j * 1 + 0 = j
      omega
    rw [Nat.add_assoc, e3] at h9
    rw [h9]
    show _ = some (Value.int .u8 _)
    rw [e2]
  · rw [show Try.prog.bytesOf 5 = 1 by kernel_rfl] at h6
    have : reachBytes = 140737488351232 := rfl
    omega
theorem frm_of {x : Fi} (h : frmC.ok W N x) : ∃ f : Fr, f.k.toNat = x.k ∧ f.b.length = x.b.l.length ∧ BodyAt W x.b.A x.b.c f.b := by
  obtain ⟨h1, h2⟩ := h
  obtain ⟨r1, r2, r3, r4⟩ := rb_of h2
  have h8 : x.k < 256 := h1
  refine ⟨⟨x.k.toUInt8, bytesS x.b⟩, by simp; omega, bytesS_length _, ?_⟩
  refine ⟨?_, by rw [bytesS_length]; exact r2, r3, by rw [bytesS_length]; exact r4⟩
  show RB W x.b.A (bytesS x.b).length (bytesS x.b)
  rw [bytesS_length]
  exact r1
end
end Go.Proofs.Ytjbemjnofnifaaa
