/-
  Pack of the program, walked (layer 13).
-/
import Derived.Test.YtjbemjnofnifaaaZj48
import Derived.Test.YtjbemjnofnifaaaZj18
import Derived.Test.YtjbemjnofnifaaaZj17
namespace Go.Proofs.Ytjbemjnofnifaaa
open Go.RowKit
set_option linter.unusedSimpArgs false
set_option linter.unusedVariables false

/-- What is wrong with messages that are to be a packet. -/
noncomputable def errPM (ms : List Ms) : Nat := if ∀ m ∈ ms, m.right = true then errPack (ms.map frM) else 2
/-- What Pack and the document's Pack answer. -/
def PmPost (w : World) (ms : List Ms) (e : Ending) (w' : World) : Prop :=
  Below w.heap.size w w' ∧ ((errPM ms ≠ 0 ∧ e = .returned (.tuple #[.slice none 0 0, .int .i64 (errPM ms : Int)])) ∨
    (errPM ms = 0 ∧ ∃ A c, e = .returned (.tuple #[.slice A (encs (ms.map frM)).length c, .int .i64 0]) ∧ RB w' A (encs (ms.map frM)).length (encs (ms.map frM)) ∧ (A = none → c = 0) ∧ (encs (ms.map frM)).length ≤ c))
theorem PmPost.bad {w w' : World} {ms : List Ms} {m : Ms} (hm : m ∈ ms) (hr : m.right = false) (hb : Below w.heap.size w w') : PmPost w ms (.returned (.tuple #[.slice none 0 0, .int .i64 2])) w' := by
  have e : errPM ms = 2 := by
    unfold errPM
    rw [if_neg (fun h => by have := h m hm; rw [hr] at this; cases this)]
  exact ⟨hb, .inl ⟨by rw [e]; decide, by rw [e]; rfl⟩⟩
theorem PmPost.of {w W w' : World} {ms : List Ms} {e : Ending} (hr : ∀ m ∈ ms, m.right = true) (hb : Below w.heap.size w W) (h : PackPost W (ms.map frM) e w') : PmPost w ms e w' := by
  have e1 : errPM ms = errPack (ms.map frM) := by unfold errPM; rw [if_pos hr]
  unfold PmPost
  rw [e1]
  exact ⟨hb.trans (h.1.mono hb.size), h.2⟩
theorem kindF {m : Ms} (h : m.Ok) : m.kind = ((frM m).k.toNat : Int) := (kind_back h).symm
set_option maxHeartbeats 8000000 in
theorem mpack_any (A : Option Addr) (n c : Nat) (l : List Mi) (w : World) (h : Mis w A n c l) (hn : n ≤ 2199023255488) :
    Calls Try.prog 17 #[.slice A n c] w (PmPost w (l.map Mi.m)) := by
  have HL := Lib.hid h.at_.1
  have HI := Lib.hid h
  obtain ⟨g, hg⟩ : ∃ g, w.heap.size = g := ⟨_, rfl⟩
  have HG := Lib.hid hg
  obtain ⟨PO, hPO⟩ : ∃ PO, PmPost w (l.map Mi.m) = PO := ⟨_, rfl⟩
  rw [hPO]
  have HPO := Lib.hid hPO
  clear h hg hPO
  go_enter Try.func17, Try.ntmps17
  go_wp2
  go_loopw [4, 11] (fun lv kv wr => ∃ (k : Nat) (pre : List Item), k ≤ n ∧ kv = .int .i64 (k : Int) ∧ Hid (pre.map (fun it : Item => it.f) = ((l.take k).map Mi.m).map frM) ∧ Hid (∀ x ∈ l.take k, x.m.right = true) ∧ Hid (FRow wr g lv pre) ∧ Hid (Below w.heap.size w wr)) (fun _ kv _ => n - (RowKit.intOf kv).toNat)
  case atStart => exact ⟨0, [], Nat.zero_le _, rfl, Lib.hid (by simp), Lib.hid (fun x hx => by simp at hx), Lib.hid (FRow.nil _ _), Lib.hid (Below.refl _ _)⟩
  case round =>
    obtain ⟨k, pre, hk, rfl, hpre, hri, hrow, hbe⟩ := hrel
    have HPl : Hid (pre.length = k) := Lib.hid (by
      have := congrArg List.length hpre.out
      simp only [List.length_map, List.length_take] at this
      rw [this, HL.out]
      omega)
    by_cases hlt : k < n
    · have hkl : k < l.length := by rw [HL.out]; exact hlt
      obtain ⟨b, off, rfl, hbl, a0, a1, a2, a3, a4, a5⟩ := (HI.out.below hbe.out).cells hlt hkl
      have hx := (HI.out.below hbe.out).ok _ (List.getElem_mem hkl)
      have HTk : Hid (l.take (k + 1) = l.take k ++ [l[k]]) := Lib.hid (List.take_succ_eq_append_getElem hkl)
      have HMem : Hid (l[k].m ∈ l.map Mi.m) := Lib.hid (List.mem_map.2 ⟨_, List.getElem_mem hkl, rfl⟩)
      obtain ⟨x, hxe⟩ : ∃ x, l[k] = x := ⟨_, rfl⟩
      rw [hxe] at a0 a1 a2 a3 a4 a5 hx HTk HMem
      have HX := Lib.hid hx
      have q1 : (k : Int) < (n : Int) := by omega
      have q0 : (0 : Int) ≤ (k : Int) := by omega
      clear hxe hx
      cases hr : x.m.right with
      | false =>
        have S1 := Lib.hid (fun W (hb : Below wr.heap.size wr W) => put_no x W (HX.out.1.below hb) hr)
        have HB0 := Lib.hid (fun (o : Obj) => below1 wr o)
        have HF : Hid (∀ W, Below w.heap.size w W → PO (.returned (.tuple #[.slice none 0 0, .int .i64 2])) W) := Lib.hid (fun W hb => by rw [← HPO.out]; exact PmPost.bad HMem.out hr hb)
        unfold miV at S1
        clear hr
        go_wp2_with fail
        refine (S1.out _ (HB0.out _)).mono ?_
        rintro e w2 ⟨rfl, hb⟩
        have HB2 : Hid (Below w.heap.size w w2) := Lib.hid (hbe.out.trans (((HB0.out _).trans (hb.mono (by simp))).mono hbe.out.size))
        clear hb a0 a1 a2 a3 a4 a5
        have HF2 := Lib.hid (HF.out _ (HB2.out.alloc HB2.out.size (.cells #[.int .u8 0, .slice none 0 0] 28)))
        go_wp2
        exact HF2.out
      | true =>
        have hok := (Ms.right_iff _).1 hr
        have S1 := Lib.hid (fun W (hb : Below wr.heap.size wr W) => put_yes x W (HX.out.1.below hb) hok HX.out.2)
        have HB0 := Lib.hid (fun (o : Obj) => below1 wr o)
        have HRi : Hid (∀ y ∈ l.take (k + 1), y.m.right = true) := Lib.hid (fun y hy => by
          rw [HTk.out] at hy
          rcases List.mem_append.1 hy with hy | hy
          · exact hri.out y hy
          · obtain rfl := List.mem_singleton.1 hy
            exact hr)
        have hkf := kindF hok
        have hbl2 := body_length hok HX.out.2
        have HFx : Hid ((frM x.m).b = bodyM x.m) := Lib.hid rfl
        unfold miV PutYes at S1
        have ek : x.m.kind = x.kind := rfl
        have HTf : Hid (((l.take (k + 1)).map Mi.m).map frM = ((l.take k).map Mi.m).map frM ++ [frM x.m]) := Lib.hid (by rw [HTk.out]; simp)
        rw [hkf] at S1
        rw [← HFx.out] at S1 hbl2
        obtain ⟨f, hf⟩ : ∃ f, frM x.m = f := ⟨_, rfl⟩
        rw [hf] at S1 hbl2 HTf
        clear hr hok hkf ek hf HFx
        go_wp2_with fail
        refine (S1.out _ (HB0.out _)).mono ?_
        rintro e w2 ⟨A2, c2, rfl, hbs, _, hb⟩
        have HB2 : Hid (Below w.heap.size w w2) := Lib.hid (hbe.out.trans (((HB0.out _).trans (hb.mono (by simp))).mono hbe.out.size))
        have HR2 : Hid (FRow w2 g u4 pre) := Lib.hid (hrow.out.below ((HB0.out _).trans (hb.mono (by simp))))
        have HIt : Hid (itOk w2 ⟨0, f, A2, c2⟩) := Lib.hid ⟨⟨hbs.rb, hbs.le, hbs.nil, by show f.b.length ≤ _; omega⟩, hbs.ty⟩
        clear hb hbs a0 a1 a2 a3 a4 a5
        have HX3 : Hid (∀ (T T2 : TypeId), (((w2.alloc (.cells #[.int .u8 (f.k.toNat : Int), .slice A2 f.b.length c2] T)).alloc (.cells #[.int .u8 (f.k.toNat : Int), .slice A2 f.b.length c2] T2))).heap[w2.heap.size + 1]? = some (.cells #[.int .u8 (f.k.toNat : Int), .slice A2 f.b.length c2] T2 (0, 0))) := Lib.hid (fun T T2 => by
          have h9 := heap_alloc_new (w2.alloc (.cells #[.int .u8 (f.k.toNat : Int), .slice A2 f.b.length c2] T)) (.cells #[.int .u8 (f.k.toNat : Int), .slice A2 f.b.length c2] T2)
          rwa [World.size_alloc] at h9)
        have HB9 := Lib.hid (fun (o p : Obj) => below2 w2 o p)
        have HS9 : Hid (g ≤ w2.heap.size) := Lib.hid (by rw [← HG.out]; exact HB2.out.size)
        have hpk := HPl.out
        have HQk : Hid (pre.length + 1 ≤ 4398046511104) := Lib.hid (by omega)
        clear hpk
        go_wp2_with (at_builtin; refine wpList_append_fr rfl (.tmp 23) (.tmp 25) rfl g u4 pre rfl (HR2.out.below (HB9.out _ _)) (w2.heap.size + 1) ⟨0, f, A2, c2⟩ 28 rfl (HX3.out _ _) (HIt.out.below (HB9.out _ _)) HQk.out (by simp; exact Nat.le_trans HS9.out (by omega)) ?_)
        refine Lib.hid ?_
        intro v3 w3 hr3 hb3
        have HR3 := Lib.hid hr3
        have HB3 : Hid (Below w.heap.size w w3) := Lib.hid ((HB2.out.trans ((HB9.out _ _).mono HB2.out.size)).trans (by rw [← HG.out] at hb3; exact hb3))
        have HPn : Hid ((pre ++ [(⟨0, f, A2, c2⟩ : Item)]).map (fun it : Item => it.f) = ((l.take (k + 1)).map Mi.m).map frM) := Lib.hid (by rw [HTf.out, List.map_append, hpre.out]; rfl)
        clear hr3 hb3
        go_wp2
        go_roundw
        case rel => exact ⟨k + 1, _, by omega, by go_num, HPn, HRi, HR3, HB3⟩
        case measure => simp [RowKit.intOf]; omega
    · obtain rfl : k = n := by omega
      have htk : l.take k = l := List.take_of_length_le (by rw [HL.out]; exact Nat.le_refl _)
      have h1 := hpre.out
      have h2 := hri.out
      rw [htk] at h1 h2
      have HR2 : Hid (∀ m ∈ l.map Mi.m, m.right = true) := Lib.hid (fun m hm => by
        obtain ⟨x, hx, rfl⟩ := List.mem_map.1 hm
        exact h2 x hx)
      obtain ⟨A2, c2, rfl, hfs, _, _⟩ := hrow.out.fs
      rw [h1, HPl.out] at hfs
      rw [HPl.out]
      have S1 := Lib.hid ((pack_any A2 k c2 _ wr hfs (by omega)).mono (fun e w' h => PmPost.of HR2.out hbe.out h))
      rw [HPO.out] at S1
      clear h1 h2 htk hfs
      go_wp2_with fail
      refine S1.out.mono ?_
      intro e w2 h2
      have H2 := Lib.hid h2
      rw [← HPO.out] at h2
      rcases h2.2 with ⟨_, rfl⟩ | ⟨_, A3, c3, rfl, _⟩
      · clear h2
        go_wp2
        exact H2.out
      · clear h2
        obtain ⟨LL, hLL⟩ : ∃ LL, (encs ((l.map Mi.m).map frM)).length = LL := ⟨_, rfl⟩
        rw [hLL] at H2 ⊢
        clear hLL
        go_wp2
        exact H2.out
end Go.Proofs.Ytjbemjnofnifaaa

/-
  What is packed is unpacked as it was: the law sodalitylaw13.SpeechBack, walked.
-/
namespace Go.Proofs.Ytjbemjnofnifaaa
open Go.RowKit
set_option linter.unusedSimpArgs false
set_option linter.unusedVariables false

theorem errPM_zero {ms : List Ms} (h : errPM ms = 0) : (∀ m ∈ ms, m.right = true) ∧ errPack (ms.map frM) = 0 := by
  unfold errPM at h
  split at h
  · rename_i hr
    exact ⟨hr, h⟩
  · cases h
set_option maxHeartbeats 8000000 in
theorem back_walk (A : Option Addr) (n c : Nat) (l : List Mi) (w : World) (h : Mis w A n c l) (hn : n ≤ 2199023255488) :
    Calls Try.prog 6 #[.slice A n c] w fun e w' => e = .returned (.bool true) ∧ Below w.heap.size w w' := by
  have S1 := Lib.hid (mpack_any A n c l w h hn)
  have HI := Lib.hid h
  have HL := Lib.hid h.at_.1
  clear h
  go_enter Try.func6, Try.ntmps6
  go_wp2_with fail
  refine S1.out.mono ?_
  rintro e w1 ⟨hb, hp⟩
  have HB1 := Lib.hid hb
  clear hb
  rcases hp with ⟨hne, rfl⟩ | ⟨h0, A1, c1, rfl, hr, hnil, hle⟩
  · obtain ⟨E, hE⟩ : ∃ E, errPM (l.map Mi.m) = E := ⟨_, rfl⟩
    rw [hE] at hne ⊢
    have E1 : ((E : Int) != 0) = true := by rw [bne_iff_ne]; omega
    clear hE hne
    go_wp2_with fail
    refine (works_any w1).mono ?_
    rintro e w2 ⟨rfl, hb⟩
    have HB2 : Hid (Below w.heap.size w w2) := Lib.hid (HB1.out.trans (hb.mono HB1.out.size))
    clear hb
    go_wp2
    go_ret
    exact ⟨rfl, HB2.out⟩
  · obtain ⟨hri, hep⟩ := errPM_zero h0
    have hall : ∀ m ∈ l.map Mi.m, m.Ok ∧ m.wide := fun m hm => by
      refine ⟨(Ms.right_iff m).1 (hri m hm), ?_⟩
      obtain ⟨x, hx, rfl⟩ := List.mem_map.1 hm
      exact (HI.out.ok x hx).2
    obtain ⟨hcut, hun, hes, hms⟩ := packM_back hall hep
    have S2 := Lib.hid (munpack_any A1 _ c1 _ _ _ hcut w1 hr hle)
    have HUM : Hid (errUM (encs ((l.map Mi.m).map frM)) ((l.map Mi.m).map frM) [] = 0) := Lib.hid (by unfold errUM; rw [if_neg (fun h => h hun), hes])
    have HMs := Lib.hid hms
    obtain ⟨L, hL⟩ : ∃ L, (encs ((l.map Mi.m).map frM)).length = L := ⟨_, rfl⟩
    rw [hL] at S2 ⊢
    clear h0 hri hep hall hcut hun hes hms hr hnil hle hL
    go_wp2_with fail
    refine S2.out.mono ?_
    rintro e w2 ⟨hb, hp⟩
    have HB2 : Hid (Below w.heap.size w w2) := Lib.hid (HB1.out.trans (hb.mono HB1.out.size))
    have HI2 := Lib.hid (HI.out.below (HB2.out))
    clear hb
    rcases hp with ⟨hne, _⟩ | ⟨_, A3, c3, l3, rfl, hmi, hml⟩
    · exact absurd HUM.out hne
    · have hll : l.map Mi.m = l3.map Mi.m := by rw [hml, HMs.out]
      have hn3 : l3.length = n := by
        have := congrArg List.length hll
        simp only [List.length_map] at this
        rw [← this, HL.out]
      rw [hn3] at hmi ⊢
      have S3 := Lib.hid (all_yes A A3 n c c3 l l3 hll w2 HI2.out hmi)
      clear hmi hml hll hn3
      go_wp2_with fail
      refine S3.out.mono ?_
      rintro e w3 ⟨rfl, hb⟩
      have HB3 : Hid (Below w.heap.size w w3) := Lib.hid (HB2.out.trans (hb.mono HB2.out.size))
      clear hb
      go_wp2_with fail
      refine (works_any w3).mono ?_
      rintro e w4 ⟨rfl, hb⟩
      have HB4 : Hid (Below w.heap.size w w4) := Lib.hid (HB3.out.trans (hb.mono HB3.out.size))
      clear hb
      go_wp2
      go_ret
      exact ⟨rfl, HB4.out⟩
end Go.Proofs.Ytjbemjnofnifaaa

/-
  What comes into layer 13's laws: messages with their updates, lists of them, frames, bytes.
-/
namespace Go.Proofs.Ytjbemjnofnifaaa
open Go.Joins Go.ChangeShapes Go.WideShapes Go.ChangeAt Go.RowKit
set_option linter.unusedSimpArgs false

theorem wf64 {z : Int} (h : (Lit.int .i64 z).wf = true) : -9223372036854775808 ≤ z ∧ z ≤ 9223372036854775807 := by simpa [Lit.wf, IntKind.min, IntKind.max, IntKind.signed, IntKind.bits] using h
noncomputable def i64C : Came Try.prog 3 Int := Came.int Try.underlying3 (by kernel_rfl)
theorem wfu8 (z : Int) (h : (Lit.int .u8 z).wf = true) : 0 ≤ z ∧ z < ((256 : Nat) : Int) := by
  have : 0 ≤ z ∧ z ≤ 255 := by simpa [Lit.wf, IntKind.min, IntKind.max, IntKind.signed, IntKind.bits] using h
  omega
noncomputable def u8C : Came Try.prog 5 Nat := Came.nat Try.underlying5 (by kernel_rfl) 256 wfu8
theorem wfu32 (z : Int) (h : (Lit.int .u32 z).wf = true) : 0 ≤ z ∧ z < ((4294967296 : Nat) : Int) := by
  have : 0 ≤ z ∧ z ≤ 4294967295 := by simpa [Lit.wf, IntKind.min, IntKind.max, IntKind.signed, IntKind.bits] using h
  omega
noncomputable def u32C : Came Try.prog 22 Nat := Came.nat Try.underlying22 (by kernel_rfl) 4294967296 wfu32
noncomputable def boolC : Came Try.prog 4 Bool := Came.bool Try.underlying4 (by kernel_rfl)
noncomputable def upCm : Came Try.prog 66 Up :=
  (Came.struct (CameF.cons i64C (CameF.cons u32C (CameF.cons i64C (CameF.nil _)))) Try.underlying66 (by kernel_rfl) (by kernel_rfl)).re
    (fun x => ⟨x.1, x.2.1, x.2.2.1⟩) (fun x => [.int .i64 x.node, .int .u32 (x.inc : Int), .int .i64 x.st])
    (fun W N x => i64C.ok W N x.node ∧ u32C.ok W N x.inc ∧ i64C.ok W N x.st) (fun _ => rfl)
    (fun h => ⟨rfl, h.1, h.2.1, h.2.2.1⟩) (fun h hb => ⟨i64C.keep h.1 hb, u32C.keep h.2.1 hb, i64C.keep h.2.2 hb⟩)
noncomputable def msgC : Came Try.prog 25 Mi :=
  (Came.struct (CameF.cons i64C (CameF.cons u32C (CameF.cons i64C (CameF.cons i64C (CameF.cons boolC (CameF.cons (upCm.slice (by decide) Try.underlying23 (by kernel_rfl)) (CameF.nil _))))))) Try.underlying25 (by kernel_rfl) (by kernel_rfl)).re
    (fun x => ⟨x.1, x.2.1, x.2.2.1, x.2.2.2.1, x.2.2.2.2.1, x.2.2.2.2.2.1⟩) (fun x => [.int .i64 x.kind, .int .u32 (x.seq : Int), .int .i64 x.src, .int .i64 x.tgt, .bool x.rep, .slice x.us.A x.us.l.length x.us.c])
    (fun W N x => i64C.ok W N x.kind ∧ u32C.ok W N x.seq ∧ i64C.ok W N x.src ∧ i64C.ok W N x.tgt ∧ boolC.ok W N x.rep ∧ (upCm.slice (by decide) Try.underlying23 (by kernel_rfl)).ok W N x.us) (fun _ => rfl)
    (fun h => ⟨rfl, h.1, h.2.1, h.2.2.1, h.2.2.2.1, h.2.2.2.2.1, h.2.2.2.2.2.1⟩) (fun h hb => ⟨i64C.keep h.1 hb, u32C.keep h.2.1 hb, i64C.keep h.2.2.1 hb, i64C.keep h.2.2.2.1 hb, boolC.keep h.2.2.2.2.1 hb, (upCm.slice (by decide) Try.underlying23 (by kernel_rfl)).keep h.2.2.2.2.2 hb⟩)
structure Fi where
  k : Nat
  b : Sl Nat
noncomputable def frmC : Came Try.prog 28 Fi :=
  (Came.struct (CameF.cons u8C (CameF.cons (u8C.slice (by decide) Try.underlying26 (by kernel_rfl)) (CameF.nil _))) Try.underlying28 (by kernel_rfl) (by kernel_rfl)).re
    (fun x => ⟨x.1, x.2.1⟩) (fun x => [.int .u8 (x.k : Int), .slice x.b.A x.b.l.length x.b.c])
    (fun W N x => u8C.ok W N x.k ∧ (u8C.slice (by decide) Try.underlying26 (by kernel_rfl)).ok W N x.b) (fun _ => rfl)
    (fun h => ⟨rfl, h.1, h.2.1⟩) (fun h hb => ⟨u8C.keep h.1 hb, (u8C.slice (by decide) Try.underlying26 (by kernel_rfl)).keep h.2 hb⟩)
section
variable {W : World} {N : Nat}
theorem us_of {s : Sl Up} (h : (upCm.slice (by decide) Try.underlying23 (by kernel_rfl)).ok W N s) : UsOk W s ∧ ∀ u ∈ s.l, u.wide := by
  obtain ⟨h1, h2, h3, h4, h5, _⟩ := h
  refine ⟨⟨⟨h1.1, fun hn => ?_⟩, h3, h4, h5⟩, fun u hu => (h2 u hu).2.1⟩
  obtain ⟨b, off, e, hlt, hc⟩ := h1.2 hn
  exact ⟨b, off, e, hlt, fun j hj => ⟨hc j hj 0 _ rfl, hc j hj 1 _ rfl, hc j hj 2 _ rfl⟩⟩
theorem msg_of {x : Mi} (h : msgC.ok W N x) : x.ok W := by
  obtain ⟨_, h2, _, _, _, h6⟩ := h
  exact ⟨(us_of h6).1, h2, (us_of h6).2⟩
theorem mis_of {s : Sl Mi} (h : (msgC.slice (by decide) Try.underlying41 (by kernel_rfl)).ok W N s) : Mis W s.A s.l.length s.c s.l ∧ s.l.length ≤ 2199023255488 := by
  obtain ⟨h1, h2, h3, h4, h5, h6, _⟩ := h
  refine ⟨⟨h1, fun x hx => msg_of (h2 x hx), h3, h4, h5⟩, ?_⟩
  rw [show Try.prog.bytesOf 25 = 64 by kernel_rfl] at h6
  have : reachBytes = 140737488351232 := rfl
  omega
def bytesS (s : Sl Nat) : List UInt8 := s.l.map Nat.toUInt8
theorem bytesS_length (s : Sl Nat) : (bytesS s).length = s.l.length := by simp [bytesS]
theorem rb_of {s : Sl Nat} (h : (u8C.slice (by decide) Try.underlying26 (by kernel_rfl)).ok W N s) : RB W s.A s.l.length (bytesS s) ∧ s.l.length ≤ s.c ∧ (s.A = none → s.c = 0) ∧ s.l.length ≤ 140737488351232 := by
  obtain ⟨h1, h2, h3, h4, h5, h6, _⟩ := h
  refine ⟨⟨bytesS_length s, fun hn => ?_⟩, h3, h5, ?_⟩
  · obtain ⟨b, off, e, hlt, hc⟩ := h1.2 hn
    refine ⟨b, off, e, hlt, fun j hj => ?_⟩
    have hj' : j < s.l.length := by rw [bytesS_length] at hj; exact hj
    have h9 := hc j hj' 0 _ rfl
    have h8 : s.l[j] < 256 := h2 _ (List.getElem_mem hj')
    have e2 : ((bytesS s)[j].toNat : Int) = (s.l[j] : Int) := by
      simp only [bytesS, List.getElem_map]
      simp
      omega
    have e3 : j * u8C.k + 0 = j := by
      show j * 1 + 0 = j
      omega
    rw [Nat.add_assoc, e3] at h9
    rw [h9]
    show _ = some (Value.int .u8 _)
    rw [e2]
  · rw [show Try.prog.bytesOf 5 = 1 by kernel_rfl] at h6
    have : reachBytes = 140737488351232 := rfl
    omega
theorem frm_of {x : Fi} (h : frmC.ok W N x) : ∃ f : Fr, f.k.toNat = x.k ∧ f.b.length = x.b.l.length ∧ BodyAt W x.b.A x.b.c f.b := by
  obtain ⟨h1, h2⟩ := h
  obtain ⟨r1, r2, r3, r4⟩ := rb_of h2
  have h8 : x.k < 256 := h1
  refine ⟨⟨x.k.toUInt8, bytesS x.b⟩, by simp; omega, bytesS_length _, ?_⟩
  refine ⟨?_, by rw [bytesS_length]; exact r2, r3, by rw [bytesS_length]; exact r4⟩
  show RB W x.b.A (bytesS x.b).length (bytesS x.b)
  rw [bytesS_length]
  exact r1
end
end Go.Proofs.Ytjbemjnofnifaaa
