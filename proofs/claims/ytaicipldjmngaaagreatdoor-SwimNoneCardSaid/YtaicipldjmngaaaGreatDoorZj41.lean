import Derived.Test.YtaicipldjmngaaaGreatDoorZj40
import Derived.Test.YtaicipldjmngaaaGreatDoorZj32
namespace Go.Proofs.YtaicipldjmngaaaGreatDoor.sp
open Go.RowKit
set_option linter.unusedSimpArgs false
set_option linter.unusedVariables false
def itOk (W : World) (x : Item) : Prop := BodyAt W x.A x.c x.f.b ∧ TyB W x.A x.f.b.length
theorem itOk.below {w w' : World} {x : Item} (h : itOk w x) (hb : Below w.heap.size w w') : itOk w' x := ⟨h.1.below hb, h.2.below hb⟩
structure FRow (w : World) (base : Nat) (v : Value) (l : List Item) : Prop where
  row : w.ownsRow base 120 2 v l.length (l.flatMap itemCells)
  ok : ∀ x ∈ l, itOk w x
theorem FRow.nil (w : World) (base : Nat) : FRow w base (.slice none 0 0) [] := ⟨World.ownsRow_nil _ _ _ _, fun x hx => by cases hx⟩
theorem FRow.below {w w' : World} {base : Nat} {v : Value} {l : List Item} (h : FRow w base v l) (hb : Below w.heap.size w w') : FRow w' base v l := ⟨bown_keep h.row hb, fun x hx => (h.ok x hx).below hb⟩
theorem FRow.fs {w : World} {base : Nat} {v : Value} {l : List Item} (h : FRow w base v l) : ∃ A c, v = .slice A l.length c ∧ RFs w A l.length (l.map (·.f)) ∧ (A = none → c = 0) ∧ l.length ≤ c := RFs.of_rowB h.row (fun x hx => (h.ok x hx).1)
theorem FRow.more {w w' : World} {base : Nat} {v v' : Value} {l : List Item} {it : Item} (h : FRow w base v l) (hit : itOk w it) (hg : w.grownBy w' v.ownBlock) (hown : w'.ownsRow base 120 2 v' (l.length + 1) (l.flatMap itemCells ++ itemCells it)) : FRow w' base v' (l ++ [it]) := by
  have hr := row_not_u8 h.row
  refine ⟨by simpa using hown, fun x hx => ?_⟩
  have hk : ∀ y, itOk w y → itOk w' y := fun y hy => ⟨⟨hy.1.1.grownT hy.2 hg hr, hy.1.2⟩, hy.2.grown hg hr⟩
  rcases List.mem_append.1 hx with hx | hx
  · exact hk x (h.ok x hx)
  · obtain rfl := List.mem_singleton.1 hx
    exact hk _ hit
theorem wpList_append_fr {w : World} {ops : Array Oper} {rest : List Oper} {o : Oper} {a : Act} {Q : Exit → Act → World → Prop} (hgd : o.guard = none) (s x : Operand)
    (ho : o.op = .call { callee := .builtin .append, args := #[s, x], argTypes := #[118, 118] })
    (base : Nat) (v : Value) (l : List Item) (hs : a.eval s = v) (h : FRow w base v l) (X : Nat) (it : Item) (T : TypeId) (hx : a.eval x = .slice (some ⟨X, 0, none⟩) 1 1) (hX : w.heap[X]? = some (.cells #[.int .u8 (it.f.k.toNat : Int), .slice it.A it.f.b.length it.c] T (0, 0))) (hit : itOk w it)
    (hl : l.length + 1 ≤ 4398046511104) (hbase : base ≤ w.heap.size)
    (hk : Hid (∀ v' w', FRow w' base v' (l ++ [it]) → Below base w w' → wpList Tryz.prog ops Q rest (a.put o.dst v') w')) : wpList Tryz.prog ops Q (o :: rest) a w := by
  obtain ⟨i0, hi, hz0, hz1, hz2⟩ := info_parts fr_info
  refine wpList_append_own w hgd s x _ ho base 120 i0 _ 2 32 Tryz.underlying118 hi hz0 hz1 hz2 rfl (by decide) v l.length (l.flatMap itemCells) hs h.row ⟨X, 0, none⟩ 1 1 (itemCells it) hx rfl (fun j u hu => by
    rw [plain_add, cell_of_row _ _ _ _ _ _ hX, Nat.zero_add, ← Array.getElem?_toList]
    exact hu) (fun u hu => by
      simp only [itemCells, List.mem_cons, List.not_mem_nil, or_false] at hu
      rcases hu with rfl | rfl <;> rfl) (by unfold maxLen; omega) (by omega) hbase (fun v' w' h1 h2 _ => hk.out v' w' (h.more hit h2 h1) ((Below.refl _ _).grown h2 hbase (fun j hj => (h.row.lt j hj).1)))
structure MRow (w : World) (base : Nat) (v : Value) (l : List Mi) : Prop where
  row : rowK miC 87 6 w base v l
  ok : ∀ x ∈ l, UsOk w x.us ∧ TyU w x.us
theorem MRow.nil (w : World) (base : Nat) : MRow w base (.slice none 0 0) [] := ⟨rowK.nil _ _, fun x hx => by cases hx⟩
theorem MRow.below {w w' : World} {base : Nat} {v : Value} {l : List Mi} (h : MRow w base v l) (hb : Below w.heap.size w w') : MRow w' base v l := ⟨h.row.below hb, fun x hx => ⟨(h.ok x hx).1.below hb, (h.ok x hx).2.below hb⟩⟩
end Go.Proofs.YtaicipldjmngaaaGreatDoor.sp

namespace Go.Proofs.YtaicipldjmngaaaGreatDoor.sp
open Go.RowKit
set_option linter.unusedSimpArgs false
set_option linter.unusedVariables false
noncomputable def errPM (ms : List Ms) : Nat := if ∀ m ∈ ms, m.right = true then errPack (ms.map frM) else 2
def PmPost (w : World) (ms : List Ms) (e : Ending) (w' : World) : Prop :=
  Below w.heap.size w w' ∧ ((errPM ms ≠ 0 ∧ e = .returned (.tuple #[.slice none 0 0, .int .i64 (errPM ms : Int)])) ∨
    (errPM ms = 0 ∧ ∃ A c, e = .returned (.tuple #[.slice A (encs (ms.map frM)).length c, .int .i64 0]) ∧ RB w' A (encs (ms.map frM)).length (encs (ms.map frM)) ∧ (A = none → c = 0) ∧ (encs (ms.map frM)).length ≤ c))
theorem PmPost.bad {w w' : World} {ms : List Ms} {m : Ms} (hm : m ∈ ms) (hr : m.right = false) (hb : Below w.heap.size w w') : PmPost w ms (.returned (.tuple #[.slice none 0 0, .int .i64 2])) w' := by
  have e : errPM ms = 2 := by
    unfold errPM
    rw [if_neg (fun h => by have := h m hm; rw [hr] at this; cases this)]
  exact ⟨hb, .inl ⟨by rw [e]; decide, by rw [e]; rfl⟩⟩
theorem PmPost.of {w W w' : World} {ms : List Ms} {e : Ending} (hr : ∀ m ∈ ms, m.right = true) (hb : Below w.heap.size w W) (h : PackPost W (ms.map frM) e w') : PmPost w ms e w' := by
  have e1 : errPM ms = errPack (ms.map frM) := by unfold errPM; rw [if_pos hr]
  unfold PmPost
  rw [e1]
  exact ⟨hb.trans (h.1.mono hb.size), h.2⟩
def PmNew (w : World) (ms : List Ms) (e : Ending) (w' : World) : Prop :=
  Below w.heap.size w w' ∧ ((errPM ms ≠ 0 ∧ e = .returned (.tuple #[.slice none 0 0, .int .i64 (errPM ms : Int)])) ∨
    (errPM ms = 0 ∧ ∃ A c, e = .returned (.tuple #[.slice A (encs (ms.map frM)).length c, .int .i64 0]) ∧ w'.ownsRow w.heap.size 5 1 (.slice A (encs (ms.map frM)).length c) (encs (ms.map frM)).length ((encs (ms.map frM)).map byteV)))
theorem PmNew.post {w w' : World} {ms : List Ms} {e : Ending} (h : PmNew w ms e w') : PmPost w ms e w' := by
  refine ⟨h.1, h.2.imp id ?_⟩
  rintro ⟨h0, A, c, rfl, h1⟩
  obtain ⟨A', c', e', h3, h4, h5, _⟩ := RB.own h1
  simp only [Value.slice.injEq, true_and] at e'
  obtain ⟨rfl, rfl⟩ := e'
  exact ⟨h0, A, c, rfl, h3, h4, h5⟩
theorem PmNew.bad {w w' : World} {ms : List Ms} {m : Ms} (hm : m ∈ ms) (hr : m.right = false) (hb : Below w.heap.size w w') : PmNew w ms (.returned (.tuple #[.slice none 0 0, .int .i64 2])) w' := by
  have e : errPM ms = 2 := by
    unfold errPM
    rw [if_neg (fun h => by have := h m hm; rw [hr] at this; cases this)]
  exact ⟨hb, .inl ⟨by rw [e]; decide, by rw [e]; rfl⟩⟩
theorem PmNew.of {w W w' : World} {ms : List Ms} {e : Ending} (hr : ∀ m ∈ ms, m.right = true) (hb : Below w.heap.size w W) (h : PackNew W (ms.map frM) e w') : PmNew w ms e w' := by
  have e1 : errPM ms = errPack (ms.map frM) := by unfold errPM; rw [if_pos hr]
  unfold PmNew
  rw [e1]
  exact ⟨hb.trans (h.1.mono hb.size), h.2.imp id (fun ⟨h0, A, c, h1, h2⟩ => ⟨h0, A, c, h1, bown_base h2 hb.size⟩)⟩
theorem kindF {m : Ms} (h : m.Ok) : m.kind = ((frM m).k.toNat : Int) := (kind_back h).symm
set_option maxHeartbeats 8000000 in
theorem mpack_new (A : Option Addr) (n c : Nat) (l : List Mi) (w : World) (h : Mis w A n c l) (hn : n ≤ 2199023255488) :
    Calls Tryz.prog 30 #[.slice A n c] w (PmNew w (l.map Mi.m)) := by
  have HL := Lib.hid h.at_.1
  have HI := Lib.hid h
  obtain ⟨g, hg⟩ : ∃ g, w.heap.size = g := ⟨_, rfl⟩
  have HG := Lib.hid hg
  obtain ⟨PO, hPO⟩ : ∃ PO, PmNew w (l.map Mi.m) = PO := ⟨_, rfl⟩
  rw [hPO]
  have HPO := Lib.hid hPO
  clear h hg hPO
  go_enter Tryz.func30, Tryz.ntmps30
  go_wp2
  go_loopw [4, 11] (fun lv kv wr => ∃ (k : Nat) (pre : List Item), k ≤ n ∧ kv = .int .i64 (k : Int) ∧ Hid (pre.map (fun it : Item => it.f) = ((l.take k).map Mi.m).map frM) ∧ Hid (∀ x ∈ l.take k, x.m.right = true) ∧ Hid (FRow wr g lv pre) ∧ Hid (Below w.heap.size w wr)) (fun _ kv _ => n - (RowKit.intOf kv).toNat)
  case atStart => exact ⟨0, [], Nat.zero_le _, rfl, Lib.hid (by simp), Lib.hid (fun x hx => by simp at hx), Lib.hid (FRow.nil _ _), Lib.hid (Below.refl _ _)⟩
  case round =>
    obtain ⟨k, pre, hk, rfl, hpre, hri, hrow, hbe⟩ := hrel
    have HPl : Hid (pre.length = k) := Lib.hid (by
      have := congrArg List.length hpre.out
      simp only [List.length_map, List.length_take] at this
      rw [this, HL.out]
      omega)
    by_cases hlt : k < n
    · have hkl : k < l.length := by rw [HL.out]; exact hlt
      obtain ⟨b, off, rfl, hbl, a0, a1, a2, a3, a4, a5⟩ := (HI.out.below hbe.out).cells hlt hkl
      have hx := (HI.out.below hbe.out).ok _ (List.getElem_mem hkl)
      have HTk : Hid (l.take (k + 1) = l.take k ++ [l[k]]) := Lib.hid (List.take_succ_eq_append_getElem hkl)
      have HMem : Hid (l[k].m ∈ l.map Mi.m) := Lib.hid (List.mem_map.2 ⟨_, List.getElem_mem hkl, rfl⟩)
      obtain ⟨x, hxe⟩ : ∃ x, l[k] = x := ⟨_, rfl⟩
      rw [hxe] at a0 a1 a2 a3 a4 a5 hx HTk HMem
      have HX := Lib.hid hx
      have q1 : (k : Int) < (n : Int) := by omega
      have q0 : (0 : Int) ≤ (k : Int) := by omega
      clear hxe hx
      cases hr : x.m.right with
      | false =>
        have S1 := Lib.hid (fun W (hb : Below wr.heap.size wr W) => put_no x W (HX.out.1.below hb) hr)
        have HB0 := Lib.hid (fun (o : Obj) => below1 wr o)
        have HF : Hid (∀ W, Below w.heap.size w W → PO (.returned (.tuple #[.slice none 0 0, .int .i64 2])) W) := Lib.hid (fun W hb => by rw [← HPO.out]; exact PmNew.bad HMem.out hr hb)
        unfold miV at S1
        clear hr
        go_wp2_with fail
        refine (S1.out _ (HB0.out _)).mono ?_
        rintro e w2 ⟨rfl, hb⟩
        have HB2 : Hid (Below w.heap.size w w2) := Lib.hid (hbe.out.trans (((HB0.out _).trans (hb.mono (by simp))).mono hbe.out.size))
        clear hb a0 a1 a2 a3 a4 a5
        have HF2 := Lib.hid (HF.out _ (HB2.out.alloc HB2.out.size (.cells #[.int .u8 0, .slice none 0 0] 120)))
        go_wp2
        exact HF2.out
      | true =>
        have hok := (Ms.right_iff _).1 hr
        have S1 := Lib.hid (fun W (hb : Below wr.heap.size wr W) => put_yes x W (HX.out.1.below hb) hok HX.out.2)
        have HB0 := Lib.hid (fun (o : Obj) => below1 wr o)
        have HRi : Hid (∀ y ∈ l.take (k + 1), y.m.right = true) := Lib.hid (fun y hy => by
          rw [HTk.out] at hy
          rcases List.mem_append.1 hy with hy | hy
          · exact hri.out y hy
          · obtain rfl := List.mem_singleton.1 hy
            exact hr)
        have hkf := kindF hok
        have hbl2 := body_length hok HX.out.2
        have HFx : Hid ((frM x.m).b = bodyM x.m) := Lib.hid rfl
        unfold miV PutYes at S1
        have ek : x.m.kind = x.kind := rfl
        have HTf : Hid (((l.take (k + 1)).map Mi.m).map frM = ((l.take k).map Mi.m).map frM ++ [frM x.m]) := Lib.hid (by rw [HTk.out]; simp)
        rw [hkf] at S1
        rw [← HFx.out] at S1 hbl2
        obtain ⟨f, hf⟩ : ∃ f, frM x.m = f := ⟨_, rfl⟩
        rw [hf] at S1 hbl2 HTf
        clear hr hok hkf ek hf HFx
        go_wp2_with fail
        refine (S1.out _ (HB0.out _)).mono ?_
        rintro e w2 ⟨A2, c2, rfl, hbs, _, hb⟩
        have HB2 : Hid (Below w.heap.size w w2) := Lib.hid (hbe.out.trans (((HB0.out _).trans (hb.mono (by simp))).mono hbe.out.size))
        have HR2 : Hid (FRow w2 g u4 pre) := Lib.hid (hrow.out.below ((HB0.out _).trans (hb.mono (by simp))))
        have HIt : Hid (itOk w2 ⟨0, f, A2, c2⟩) := Lib.hid ⟨⟨hbs.rb, hbs.le, hbs.nil, by show f.b.length ≤ _; omega⟩, hbs.ty⟩
        clear hb hbs a0 a1 a2 a3 a4 a5
        have HX3 : Hid (∀ (T T2 : TypeId), (((w2.alloc (.cells #[.int .u8 (f.k.toNat : Int), .slice A2 f.b.length c2] T)).alloc (.cells #[.int .u8 (f.k.toNat : Int), .slice A2 f.b.length c2] T2))).heap[w2.heap.size + 1]? = some (.cells #[.int .u8 (f.k.toNat : Int), .slice A2 f.b.length c2] T2 (0, 0))) := Lib.hid (fun T T2 => by
          have h9 := heap_alloc_new (w2.alloc (.cells #[.int .u8 (f.k.toNat : Int), .slice A2 f.b.length c2] T)) (.cells #[.int .u8 (f.k.toNat : Int), .slice A2 f.b.length c2] T2)
          rwa [World.size_alloc] at h9)
        have HB9 := Lib.hid (fun (o p : Obj) => below2 w2 o p)
        have HS9 : Hid (g ≤ w2.heap.size) := Lib.hid (by rw [← HG.out]; exact HB2.out.size)
        have hpk := HPl.out
        have HQk : Hid (pre.length + 1 ≤ 4398046511104) := Lib.hid (by omega)
        clear hpk
        go_wp2_with (at_builtin; refine wpList_append_fr rfl (.tmp 23) (.tmp 25) rfl g u4 pre rfl (HR2.out.below (HB9.out _ _)) (w2.heap.size + 1) ⟨0, f, A2, c2⟩ 120 rfl (HX3.out _ _) (HIt.out.below (HB9.out _ _)) HQk.out (by simp; exact Nat.le_trans HS9.out (by omega)) ?_)
        refine Lib.hid ?_
        intro v3 w3 hr3 hb3
        have HR3 := Lib.hid hr3
        have HB3 : Hid (Below w.heap.size w w3) := Lib.hid ((HB2.out.trans ((HB9.out _ _).mono HB2.out.size)).trans (by rw [← HG.out] at hb3; exact hb3))
        have HPn : Hid ((pre ++ [(⟨0, f, A2, c2⟩ : Item)]).map (fun it : Item => it.f) = ((l.take (k + 1)).map Mi.m).map frM) := Lib.hid (by rw [HTf.out, List.map_append, hpre.out]; rfl)
        clear hr3 hb3
        go_wp2
        go_roundw
        case rel => exact ⟨k + 1, _, by omega, by go_num, HPn, HRi, HR3, HB3⟩
        case measure => simp [RowKit.intOf]; omega
    · obtain rfl : k = n := by omega
      have htk : l.take k = l := List.take_of_length_le (by rw [HL.out]; exact Nat.le_refl _)
      have h1 := hpre.out
      have h2 := hri.out
      rw [htk] at h1 h2
      have HR2 : Hid (∀ m ∈ l.map Mi.m, m.right = true) := Lib.hid (fun m hm => by
        obtain ⟨x, hx, rfl⟩ := List.mem_map.1 hm
        exact h2 x hx)
      obtain ⟨A2, c2, rfl, hfs, _, _⟩ := hrow.out.fs
      rw [h1, HPl.out] at hfs
      rw [HPl.out]
      have S1 := Lib.hid ((pack_new A2 k c2 _ wr hfs (by omega)).mono (fun e w' h => PmNew.of HR2.out hbe.out h))
      rw [HPO.out] at S1
      clear h1 h2 htk hfs
      go_wp2_with fail
      refine S1.out.mono ?_
      intro e w2 h2
      have H2 := Lib.hid h2
      rw [← HPO.out] at h2
      rcases h2.2 with ⟨_, rfl⟩ | ⟨_, A3, c3, rfl, _⟩
      · clear h2
        go_wp2
        exact H2.out
      · clear h2
        obtain ⟨LL, hLL⟩ : ∃ LL, (encs ((l.map Mi.m).map frM)).length = LL := ⟨_, rfl⟩
        rw [hLL] at H2 ⊢
        clear hLL
        go_wp2
        exact H2.out
end Go.Proofs.YtaicipldjmngaaaGreatDoor.sp
