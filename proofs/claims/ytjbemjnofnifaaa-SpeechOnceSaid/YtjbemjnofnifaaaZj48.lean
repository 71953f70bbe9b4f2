/-
  Rows of frames and of messages that are the call's own (layer 13).
-/
import Derived.Test.YtjbemjnofnifaaaZj40
import Derived.Test.YtjbemjnofnifaaaZj43
import Derived.Test.YtjbemjnofnifaaaZj46
import Derived.Test.YtjbemjnofnifaaaZj47
namespace Go.Proofs.Ytjbemjnofnifaaa
open Go.RowKit
set_option linter.unusedSimpArgs false
set_option linter.unusedVariables false

/-- A frame's body, in a block of bytes. -/
def itOk (W : World) (x : Item) : Prop := BodyAt W x.A x.c x.f.b ∧ TyB W x.A x.f.b.length
theorem itOk.below {w w' : World} {x : Item} (h : itOk w x) (hb : Below w.heap.size w w') : itOk w' x := ⟨h.1.below hb, h.2.below hb⟩
/-- A row of frames. -/
structure FRow (w : World) (base : Nat) (v : Value) (l : List Item) : Prop where
  row : w.ownsRow base 28 2 v l.length (l.flatMap itemCells)
  ok : ∀ x ∈ l, itOk w x
theorem FRow.nil (w : World) (base : Nat) : FRow w base (.slice none 0 0) [] := ⟨World.ownsRow_nil _ _ _ _, fun x hx => by cases hx⟩
theorem FRow.below {w w' : World} {base : Nat} {v : Value} {l : List Item} (h : FRow w base v l) (hb : Below w.heap.size w w') : FRow w' base v l := ⟨bown_keep h.row hb, fun x hx => (h.ok x hx).below hb⟩
theorem FRow.fs {w : World} {base : Nat} {v : Value} {l : List Item} (h : FRow w base v l) : ∃ A c, v = .slice A l.length c ∧ RFs w A l.length (l.map (·.f)) ∧ (A = none → c = 0) ∧ l.length ≤ c := RFs.of_rowB h.row (fun x hx => (h.ok x hx).1)
theorem FRow.more {w w' : World} {base : Nat} {v v' : Value} {l : List Item} {it : Item} (h : FRow w base v l) (hit : itOk w it) (hg : w.grownBy w' v.ownBlock) (hown : w'.ownsRow base 28 2 v' (l.length + 1) (l.flatMap itemCells ++ itemCells it)) : FRow w' base v' (l ++ [it]) := by
  have hr := row_not_u8 h.row
  refine ⟨by simpa using hown, fun x hx => ?_⟩
  have hk : ∀ y, itOk w y → itOk w' y := fun y hy => ⟨⟨hy.1.1.grownT hy.2 hg hr, hy.1.2⟩, hy.2.grown hg hr⟩
  rcases List.mem_append.1 hx with hx | hx
  · exact hk x (h.ok x hx)
  · obtain rfl := List.mem_singleton.1 hx
    exact hk _ hit
theorem FRow.append_run {w : World} {base : Nat} {v : Value} {l : List Item} {it : Item} {X : Nat} {T : TypeId} (h : FRow w base v l) (hit : itOk w it) (hX : w.heap[X]? = some (.cells #[.int .u8 (it.f.k.toNat : Int), .slice it.A it.f.b.length it.c] T (0, 0))) (hl : l.length + 1 ≤ 4398046511104) (hbase : base ≤ w.heap.size) (ty : TypeId) :
    ∃ v' w', (Builtin.append_ #[55, 55] ty #[v, .slice (some ⟨X, 0, none⟩) 1 1]).run Try.prog w = .ok v' w' ∧ FRow w' base v' (l ++ [it]) ∧ Below base w w' ∧ w.grownBy w' v.ownBlock := by
  obtain ⟨i0, hi, hz0, hz1, hz2⟩ := info_parts fr_info
  obtain ⟨v', w', hrun, ho, hg, _⟩ := run_append_own (P := Try.prog) w base 55 ty 28 i0 _ 2 32 Try.underlying55 hi hz0 hz1 hz2 rfl (by decide) v l.length (l.flatMap itemCells) h.row ⟨X, 0, none⟩ 1 1 (itemCells it) rfl (fun j u hu => by
    rw [plain_add, cell_of_row _ _ _ _ _ _ hX, Nat.zero_add, ← Array.getElem?_toList]
    exact hu) (fun u hu => by
      simp only [itemCells, List.mem_cons, List.not_mem_nil, or_false] at hu
      rcases hu with rfl | rfl <;> rfl) (by unfold maxLen; omega) (by omega) hbase
  exact ⟨v', w', hrun, h.more hit hg ho, (Below.refl _ _).grown hg hbase (fun j hj => (h.row.lt j hj).1), hg⟩
theorem wpList_append_fr {w : World} {ops : Array Oper} {rest : List Oper} {o : Oper} {a : Act} {Q : Exit → Act → World → Prop} (hgd : o.guard = none) (s x : Operand)
    (ho : o.op = .call { callee := .builtin .append, args := #[s, x], argTypes := #[55, 55] })
    (base : Nat) (v : Value) (l : List Item) (hs : a.eval s = v) (h : FRow w base v l) (X : Nat) (it : Item) (T : TypeId) (hx : a.eval x = .slice (some ⟨X, 0, none⟩) 1 1) (hX : w.heap[X]? = some (.cells #[.int .u8 (it.f.k.toNat : Int), .slice it.A it.f.b.length it.c] T (0, 0))) (hit : itOk w it)
    (hl : l.length + 1 ≤ 4398046511104) (hbase : base ≤ w.heap.size)
    (hk : Hid (∀ v' w', FRow w' base v' (l ++ [it]) → Below base w w' → wpList Try.prog ops Q rest (a.put o.dst v') w')) : wpList Try.prog ops Q (o :: rest) a w := by
  obtain ⟨i0, hi, hz0, hz1, hz2⟩ := info_parts fr_info
  refine wpList_append_own w hgd s x _ ho base 28 i0 _ 2 32 Try.underlying55 hi hz0 hz1 hz2 rfl (by decide) v l.length (l.flatMap itemCells) hs h.row ⟨X, 0, none⟩ 1 1 (itemCells it) hx rfl (fun j u hu => by
    rw [plain_add, cell_of_row _ _ _ _ _ _ hX, Nat.zero_add, ← Array.getElem?_toList]
    exact hu) (fun u hu => by
      simp only [itemCells, List.mem_cons, List.not_mem_nil, or_false] at hu
      rcases hu with rfl | rfl <;> rfl) (by unfold maxLen; omega) (by omega) hbase (fun v' w' h1 h2 _ => hk.out v' w' (h.more hit h2 h1) ((Below.refl _ _).grown h2 hbase (fun j hj => (h.row.lt j hj).1)))
/-- A row of messages, each with its updates in a block of updates. -/
structure MRow (w : World) (base : Nat) (v : Value) (l : List Mi) : Prop where
  row : rowK miC 25 6 w base v l
  ok : ∀ x ∈ l, UsOk w x.us ∧ TyU w x.us
theorem MRow.nil (w : World) (base : Nat) : MRow w base (.slice none 0 0) [] := ⟨rowK.nil _ _, fun x hx => by cases hx⟩
theorem MRow.below {w w' : World} {base : Nat} {v : Value} {l : List Mi} (h : MRow w base v l) (hb : Below w.heap.size w w') : MRow w' base v l := ⟨h.row.below hb, fun x hx => ⟨(h.ok x hx).1.below hb, (h.ok x hx).2.below hb⟩⟩
theorem MRow.not_up {w : World} {base : Nat} {v : Value} {l : List Mi} (h : MRow w base v l) : ∀ r, v.ownBlock = some r → ∀ cur, w.heap[r]? ≠ some (.cells cur 66 (0, 0)) := fun r e cur hc => by
  obtain ⟨cur', hh⟩ := h.row.cells_ e
  rw [hh] at hc
  simp at hc
theorem wpList_append_mi {w : World} {ops : Array Oper} {rest : List Oper} {o : Oper} {a : Act} {Q : Exit → Act → World → Prop} (hgd : o.guard = none) (s x : Operand)
    (ho : o.op = .call { callee := .builtin .append, args := #[s, x], argTypes := #[41, 41] })
    (base : Nat) (v : Value) (l : List Mi) (hs : a.eval s = v) (h : MRow w base v l) (X : Nat) (y : Mi) (hx : a.eval x = .slice (some ⟨X, 0, none⟩) 1 1) (hX : MiB w X y) (hy : UsOk w y.us ∧ TyU w y.us)
    (hl : l.length + 1 ≤ 2000000000000) (hbase : base ≤ w.heap.size)
    (hk : Hid (∀ v' w', MRow w' base v' (l ++ [y]) → Below base w w' → wpList Try.prog ops Q rest (a.put o.dst v') w')) : wpList Try.prog ops Q (o :: rest) a w := by
  obtain ⟨i0, hi, hz0, hz1, hz2⟩ := info_parts msg_info
  refine wpList_append_k hgd s x _ ho i0 _ 64 Try.underlying41 hi hz0 hz1 hz2 rfl (by decide) miC_length miC_one base v l hs h.row X y hx (fun i u hu => by
    rw [cell_of_row _ _ _ _ _ _ hX, Nat.zero_add, ← Array.getElem?_toList]
    exact hu) (by unfold maxLen; omega) (by omega) hbase (Lib.hid fun v' w' h1 h2 => hk.out v' w' ⟨h1, fun z hz => ?_⟩ ((Below.refl _ _).grown h2 hbase (fun j hj => (h.row.lt j hj).1)))
  have hr := h.not_up
  rcases List.mem_append.1 hz with hz | hz
  · exact (h.ok z hz).1.grown (h.ok z hz).2 h2 hr
  · obtain rfl := List.mem_singleton.1 hz
    exact hy.1.grown hy.2 h2 hr
end Go.Proofs.Ytjbemjnofnifaaa

/-
  Unpack of the program and of the document, walked (layer 13).
-/
namespace Go.Proofs.Ytjbemjnofnifaaa
open Go.RowKit
set_option linter.unusedSimpArgs false
set_option linter.unusedVariables false

theorem errM_kind {f : Fr} (h : f.k.toNat < 1 ∨ 6 < f.k.toNat) : errM f = 31 := by
  unfold errM errG
  rw [if_pos (by omega)]
theorem get_fr (f : Fr) (A : Option Addr) (n c : Nat) (w : World) (hB : BodyAt w A c f.b) (hn : f.b.length = n) :
    Calls Try.prog 14 #[frIn f.k.toNat A n c] w (GetPost (if errM f = 0 then msF f else msNone) (errM f) w) := by
  have h8 : f.k.toNat < 256 := UInt8.toNat_lt f.k
  by_cases h : f.k.toNat < 1 ∨ 6 < f.k.toNat
  · rw [errM_kind h]
    exact get_kind f.k.toNat h8 h A n c w
  · exact get_any f.k.toNat (by omega) (by omega) A n c f.b w hB hn
theorem rget_fr (f : Fr) (A : Option Addr) (n c : Nat) (w : World) (hB : BodyAt w A c f.b) (hn : f.b.length = n) :
    Calls Try.prog 15 #[frIn f.k.toNat A n c] w (GetPost (if errM f = 0 then msF f else msNone) (errM f) w) := by
  have h8 : f.k.toNat < 256 := UInt8.toNat_lt f.k
  by_cases h : f.k.toNat < 1 ∨ 6 < f.k.toNat
  · rw [errM_kind h]
    exact rget_kind f.k.toNat h8 h A n c w
  · exact rget_any f.k.toNat (by omega) (by omega) A n c f.b w hB hn
/-- What is wrong with bytes that are to be a packet of messages. -/
noncomputable def errUM (xs : List UInt8) (fs : List Fr) (r : List UInt8) : Nat := if errUn xs fs r ≠ 0 then errUn xs fs r else errsM fs
/-- What Unpack and the document's Unpack answer. -/
def UmPost (w : World) (xs : List UInt8) (fs : List Fr) (r : List UInt8) (e : Ending) (w' : World) : Prop :=
  Below w.heap.size w w' ∧ ((errUM xs fs r ≠ 0 ∧ e = .returned (.tuple #[.slice none 0 0, .int .i64 (errUM xs fs r : Int)])) ∨
    (errUM xs fs r = 0 ∧ ∃ A c l, e = .returned (.tuple #[.slice A l.length c, .int .i64 0]) ∧ Mis w' A l.length c l ∧ l.map Mi.m = fs.map msF))
theorem errUn_few {xs : List UInt8} {fs : List Fr} {r : List UInt8} (h : errUn xs fs r = 0) : fs.length ≤ 32 := by
  unfold errUn at h
  split at h
  · cases h
  · split at h
    · contradiction
    · split at h
      · cases h
      · omega
theorem MRow.mis {w : World} {base : Nat} {v : Value} {l : List Mi} (h : MRow w base v l) (hw : ∀ x ∈ l, x.m.wide) : ∃ A c, v = .slice A l.length c ∧ Mis w A l.length c l := Mis.of_row ⟨h.row, fun x hx => ⟨(h.ok x hx).1, hw x hx⟩⟩
set_option maxHeartbeats 8000000 in
set_option maxRecDepth 100000 in
theorem munpack_any (A : Option Addr) (n c : Nat) (xs : List UInt8) (fs : List Fr) (r : List UInt8) (hcut : Cut xs fs r) (w : World) (hR : RB w A n xs) (hnc : n ≤ c) :
    Calls Try.prog 19 #[.slice A n c] w (UmPost w xs fs r) := by
  have S1 := Lib.hid (unpack_any A n c xs fs r hcut w hR hnc)
  have HFew := Lib.hid (@errUn_few xs fs r)
  obtain ⟨g, hg⟩ : ∃ g, w.heap.size = g := ⟨_, rfl⟩
  have HG := Lib.hid hg
  obtain ⟨PO, hPO⟩ : ∃ PO, UmPost w xs fs r = PO := ⟨_, rfl⟩
  rw [hPO]
  have HPO := Lib.hid hPO
  clear hR hcut hg hPO hnc
  go_enter Try.func19, Try.ntmps19
  go_wp2_with fail
  refine S1.out.mono ?_
  rintro e w1 ⟨hb1, hp⟩
  have HB1 := Lib.hid hb1
  clear hb1
  rcases hp with ⟨hne, rfl⟩ | ⟨h0, A1, c1, rfl, hfs, hnil, hle⟩
  · have HF : Hid (PO (.returned (.tuple #[.slice none 0 0, .int .i64 (errUn xs fs r : Int)])) w1) := Lib.hid (by
      rw [← HPO.out]
      have e : errUM xs fs r = errUn xs fs r := by unfold errUM; rw [if_pos hne]
      exact ⟨HB1.out, .inl ⟨by rw [e]; exact hne, by rw [e]⟩⟩)
    obtain ⟨E, hE⟩ : ∃ E, errUn xs fs r = E := ⟨_, rfl⟩
    rw [hE] at HF hne ⊢
    have E1 : ((E : Int) != 0) = true := by rw [bne_iff_ne]; omega
    clear hE hne
    go_wp2
    exact HF.out
  · have hf32 := HFew.out h0
    have HFs := Lib.hid hfs
    have HUM : Hid (errUM xs fs r = errsM fs) := Lib.hid (by unfold errUM; rw [if_neg (fun h => h h0)])
    obtain ⟨N, hN⟩ : ∃ N, fs.length = N := ⟨_, rfl⟩
    have HN := Lib.hid hN
    rw [hN] at hf32 ⊢
    clear hfs h0 hN hnil hle
    go_wp2
    go_loopw [6, 21] (fun lv kv wr => ∃ (k : Nat) (l : List Mi), k ≤ N ∧ kv = .int .i64 (k : Int) ∧ Hid (l.map Mi.m = (fs.take k).map msF) ∧ Hid (∀ j (hj : j < fs.length), j < k → errM fs[j] = 0) ∧ Hid (MRow wr w1.heap.size lv l) ∧ Hid (Below w1.heap.size w1 wr)) (fun _ kv _ => N - (RowKit.intOf kv).toNat)
    case atStart => exact ⟨0, [], Nat.zero_le _, rfl, Lib.hid (by simp), Lib.hid (fun j _ hj => absurd hj (Nat.not_lt_zero j)), Lib.hid (MRow.nil _ _), Lib.hid (Below.refl _ _)⟩
    case round =>
      obtain ⟨k, l, hk, rfl, hms, hok, hrow, hb1r⟩ := hrel
      have hbe : Hid (Below w.heap.size w wr) := Lib.hid (HB1.out.trans (hb1r.out.mono HB1.out.size))
      have HPl : Hid (l.length = k) := Lib.hid (by
        have := congrArg List.length hms.out
        simp only [List.length_map, List.length_take] at this
        rw [this, HN.out]
        omega)
      by_cases hlt : k < N
      · have hkl : k < fs.length := by rw [HN.out]; exact hlt
        have hrf : RFs wr A1 fs.length fs := HFs.out.below hb1r.out
        obtain ⟨b, off, rfl, hbl, hat⟩ := hrf.2 (by omega)
        obtain ⟨_, a0, A2, c2, a1, hbody⟩ := hat k hkl
        have HTk : Hid ((fs.take (k + 1)).map msF = (fs.take k).map msF ++ [msF fs[k]]) := Lib.hid (by rw [List.take_succ_eq_append_getElem hkl, List.map_append]; rfl)
        have HErr : Hid (errM fs[k] ≠ 0 → errsM fs = errM fs[k]) := Lib.hid (fun he => errsM_at hkl (fun j hj => hok.out j (by omega) hj) he)
        have HOk : Hid (errM fs[k] = 0 → ∀ j (hj : j < fs.length), j < k + 1 → errM fs[j] = 0) := Lib.hid (fun he j hj hjk => by
          by_cases e : j = k
          · subst e; exact he
          · exact hok.out j hj (by omega))
        obtain ⟨f, hf⟩ : ∃ f, fs[k] = f := ⟨_, rfl⟩
        rw [hf] at a0 a1 hbody HTk HErr HOk
        have S2 := Lib.hid (fun W (hb : Below wr.heap.size wr W) => get_fr f A2 f.b.length c2 W (hbody.below hb) rfl)
        unfold frIn at S2
        have HBo := Lib.hid (fun (o : Obj) => below1 wr o)
        have q1 : (k : Int) < (N : Int) := by omega
        have q0 : (0 : Int) ≤ (k : Int) := by omega
        clear hf hat hrf hbody hbl
        go_wp2_with fail
        refine (S2.out _ (HBo.out _)).mono ?_
        rintro e w2 ⟨x, rfl, hxm, hxu, hb2⟩
        have HB2 : Hid (Below wr.heap.size wr w2) := Lib.hid ((HBo.out _).trans (hb2.mono (by simp)))
        have HXm := Lib.hid hxm
        have HXu := Lib.hid hxu
        obtain ⟨E, hE⟩ : ∃ E, errM f = E := ⟨_, rfl⟩
        rw [hE] at HXm HErr HOk ⊢
        unfold miV
        have HBB := Lib.hid (fun (o p : Obj) => below2 w2 o p)
        have HB1' := Lib.hid (fun (o : Obj) => below1 w2 o)
        have HX3 : Hid (∀ (T T2 : TypeId), T2 = 25 → MiB ((w2.alloc (.cells #[.int .i64 x.kind, .int .u32 (x.seq : Int), .int .i64 x.src, .int .i64 x.tgt, .bool x.rep, .slice x.us.A x.us.l.length x.us.c] T)).alloc (.cells #[.int .i64 x.kind, .int .u32 (x.seq : Int), .int .i64 x.src, .int .i64 x.tgt, .bool x.rep, .slice x.us.A x.us.l.length x.us.c] T2)) (w2.heap.size + 1) x) := Lib.hid (fun T T2 e => by
          have h9 := MiB.new (w2.alloc (.cells #[.int .i64 x.kind, .int .u32 (x.seq : Int), .int .i64 x.src, .int .i64 x.tgt, .bool x.rep, .slice x.us.A x.us.l.length x.us.c] T)) x
          rw [e]
          rwa [World.size_alloc] at h9)
        clear hxm hxu hb2 hE a0 a1
        by_cases hE0 : E = 0
        · subst hE0
          have hmx : x.m = msF f := by rw [HXm.out, if_pos rfl]
          have HMx := Lib.hid hmx
          have HOk2 := Lib.hid (HOk.out rfl)
          have hpk := HPl.out
          have HQk : Hid (l.length + 1 ≤ 2000000000000) := Lib.hid (by omega)
          have HS9 : Hid (w1.heap.size ≤ w2.heap.size) := Lib.hid (Nat.le_trans hb1r.out.size HB2.out.size)
          clear hmx hpk
          go_wp2_with (at_builtin; refine wpList_append_mi rfl (.tmp 33) (.tmp 35) rfl w1.heap.size u6 l rfl ((hrow.out.below HB2.out).below (HBB.out _ _)) (w2.heap.size + 1) x rfl (HX3.out _ _ rfl) ⟨HXu.out.1.below (HBB.out _ _), HXu.out.2.below (HBB.out _ _)⟩ HQk.out (by simp; exact Nat.le_trans HS9.out (by omega)) ?_)
          refine Lib.hid ?_
          intro v3 w3 hr3 hb3
          have HR3 := Lib.hid hr3
          have HB3 : Hid (Below w1.heap.size w1 w3) := Lib.hid ((hb1r.out.trans ((HB2.out.trans ((HBB.out _ _).mono HB2.out.size)).mono hb1r.out.size)).trans hb3)
          have HPn : Hid ((l ++ [x]).map Mi.m = (fs.take (k + 1)).map msF) := Lib.hid (by rw [HTk.out, List.map_append, hms.out, List.map_singleton, HMx.out])
          clear hr3 hb3
          go_wp2
          go_roundw
          case rel => exact ⟨k + 1, _, by omega, by go_num, HPn, HOk2, HR3, HB3⟩
          case measure => simp [RowKit.intOf]; omega
        · have E1 : ((E : Int) != 0) = true := by rw [bne_iff_ne]; omega
          have HF : Hid (∀ (o : Obj), PO (.returned (.tuple #[.slice none 0 0, .int .i64 (E : Int)])) (w2.alloc o)) := Lib.hid (fun o => by
            rw [← HPO.out]
            have e : errUM xs fs r = E := by rw [HUM.out, HErr.out hE0]
            exact ⟨hbe.out.trans ((HB2.out.trans ((HB1'.out o).mono HB2.out.size)).mono hbe.out.size), .inl ⟨by rw [e]; exact hE0, by rw [e]⟩⟩)
          clear hE0
          go_wp2
          exact HF.out _
      · obtain rfl : k = N := by omega
        have htk : fs.take k = fs := List.take_of_length_le (by rw [HN.out]; exact Nat.le_refl _)
        have h1 := hms.out
        rw [htk] at h1
        have hz : errsM fs = 0 := errsM_zero.2 (fun f hf => by
          obtain ⟨j, hj, rfl⟩ := List.mem_iff_getElem.1 hf
          exact hok.out j hj (by rw [← HN.out]; exact hj))
        have hwide : ∀ x ∈ l, x.m.wide := fun x hx => by
          have : x.m ∈ fs.map msF := by rw [← h1]; exact List.mem_map.2 ⟨x, hx, rfl⟩
          obtain ⟨f, hf, e⟩ := List.mem_map.1 this
          rw [← e]
          exact (msF_back (errsM_zero.1 hz f hf)).2.1
        obtain ⟨A2, c2, rfl, hmis⟩ := hrow.out.mis hwide
        have HF : Hid (PO (.returned (.tuple #[.slice A2 l.length c2, .int .i64 0])) wr) := Lib.hid (by
          rw [← HPO.out]
          have e : errUM xs fs r = 0 := by rw [HUM.out, hz]
          exact ⟨hbe.out, .inr ⟨e, A2, c2, l, rfl, hmis, h1⟩⟩)
        obtain ⟨L, hL⟩ : ∃ L, l.length = L := ⟨_, rfl⟩
        rw [hL] at HF ⊢
        clear htk h1 hz hwide hmis hL
        go_wp2
        exact HF.out
set_option maxHeartbeats 8000000 in
set_option maxRecDepth 100000 in
theorem rmunpack_any (A : Option Addr) (n c : Nat) (xs : List UInt8) (fs : List Fr) (r : List UInt8) (hcut : Cut xs fs r) (w : World) (hR : RB w A n xs) (hnc : n ≤ c) :
    Calls Try.prog 20 #[.slice A n c] w (UmPost w xs fs r) := by
  have S1 := Lib.hid (runpack_any A n c xs fs r hcut w hR hnc)
  have HFew := Lib.hid (@errUn_few xs fs r)
  obtain ⟨g, hg⟩ : ∃ g, w.heap.size = g := ⟨_, rfl⟩
  have HG := Lib.hid hg
  obtain ⟨PO, hPO⟩ : ∃ PO, UmPost w xs fs r = PO := ⟨_, rfl⟩
  rw [hPO]
  have HPO := Lib.hid hPO
  clear hR hcut hg hPO hnc
  go_enter Try.func20, Try.ntmps20
  go_wp2_with fail
  refine S1.out.mono ?_
  rintro e w1 ⟨hb1, hp⟩
  have HB1 := Lib.hid hb1
  clear hb1
  rcases hp with ⟨hne, rfl⟩ | ⟨h0, A1, c1, rfl, hfs⟩
  · have HF : Hid (PO (.returned (.tuple #[.slice none 0 0, .int .i64 (errUn xs fs r : Int)])) w1) := Lib.hid (by
      rw [← HPO.out]
      have e : errUM xs fs r = errUn xs fs r := by unfold errUM; rw [if_pos hne]
      exact ⟨HB1.out, .inl ⟨by rw [e]; exact hne, by rw [e]⟩⟩)
    obtain ⟨E, hE⟩ : ∃ E, errUn xs fs r = E := ⟨_, rfl⟩
    rw [hE] at HF hne ⊢
    have E1 : ((E : Int) != 0) = true := by rw [bne_iff_ne]; omega
    clear hE hne
    go_wp2
    exact HF.out
  · have hf32 := HFew.out h0
    have HFs := Lib.hid hfs
    have HUM : Hid (errUM xs fs r = errsM fs) := Lib.hid (by unfold errUM; rw [if_neg (fun h => h h0)])
    obtain ⟨N, hN⟩ : ∃ N, fs.length = N := ⟨_, rfl⟩
    have HN := Lib.hid hN
    rw [hN] at hf32 ⊢
    clear hfs h0 hN
    go_wp2
    go_loopw [6, 7] (fun lv kv wr => ∃ (k : Nat) (l : List Mi), k ≤ N ∧ kv = .int .i64 (k : Int) ∧ Hid (l.map Mi.m = (fs.take k).map msF) ∧ Hid (∀ j (hj : j < fs.length), j < k → errM fs[j] = 0) ∧ Hid (MRow wr w1.heap.size lv l) ∧ Hid (Below w1.heap.size w1 wr)) (fun _ kv _ => N - (RowKit.intOf kv).toNat)
    case atStart => exact ⟨0, [], Nat.zero_le _, rfl, Lib.hid (by simp), Lib.hid (fun j _ hj => absurd hj (Nat.not_lt_zero j)), Lib.hid (MRow.nil _ _), Lib.hid (Below.refl _ _)⟩
    case round =>
      obtain ⟨k, l, hk, rfl, hms, hok, hrow, hb1r⟩ := hrel
      have hbe : Hid (Below w.heap.size w wr) := Lib.hid (HB1.out.trans (hb1r.out.mono HB1.out.size))
      have HPl : Hid (l.length = k) := Lib.hid (by
        have := congrArg List.length hms.out
        simp only [List.length_map, List.length_take] at this
        rw [this, HN.out]
        omega)
      by_cases hlt : k < N
      · have hkl : k < fs.length := by rw [HN.out]; exact hlt
        have hrf : RFs wr A1 fs.length fs := HFs.out.below hb1r.out
        obtain ⟨b, off, rfl, hbl, hat⟩ := hrf.2 (by omega)
        obtain ⟨_, a0, A2, c2, a1, hbody⟩ := hat k hkl
        have HTk : Hid ((fs.take (k + 1)).map msF = (fs.take k).map msF ++ [msF fs[k]]) := Lib.hid (by rw [List.take_succ_eq_append_getElem hkl, List.map_append]; rfl)
        have HErr : Hid (errM fs[k] ≠ 0 → errsM fs = errM fs[k]) := Lib.hid (fun he => errsM_at hkl (fun j hj => hok.out j (by omega) hj) he)
        have HOk : Hid (errM fs[k] = 0 → ∀ j (hj : j < fs.length), j < k + 1 → errM fs[j] = 0) := Lib.hid (fun he j hj hjk => by
          by_cases e : j = k
          · subst e; exact he
          · exact hok.out j hj (by omega))
        obtain ⟨f, hf⟩ : ∃ f, fs[k] = f := ⟨_, rfl⟩
        rw [hf] at a0 a1 hbody HTk HErr HOk
        have S2 := Lib.hid (fun W (hb : Below wr.heap.size wr W) => rget_fr f A2 f.b.length c2 W (hbody.below hb) rfl)
        unfold frIn at S2
        have HBo := Lib.hid (fun (o : Obj) => below1 wr o)
        have q1 : (k : Int) < (N : Int) := by omega
        have q0 : (0 : Int) ≤ (k : Int) := by omega
        clear hf hat hrf hbody hbl
        go_wp2_with fail
        refine (S2.out _ (Below.refl _ _)).mono ?_
        rintro e w2 ⟨x, rfl, hxm, hxu, hb2⟩
        have HB2 : Hid (Below wr.heap.size wr w2) := Lib.hid (hb2)
        have HXm := Lib.hid hxm
        have HXu := Lib.hid hxu
        obtain ⟨E, hE⟩ : ∃ E, errM f = E := ⟨_, rfl⟩
        rw [hE] at HXm HErr HOk ⊢
        unfold miV
        have HBB := Lib.hid (fun (o p : Obj) => below2 w2 o p)
        have HB1' := Lib.hid (fun (o : Obj) => below1 w2 o)
        have HX3 : Hid (∀ (T T2 : TypeId), T2 = 25 → MiB ((w2.alloc (.cells #[.int .i64 x.kind, .int .u32 (x.seq : Int), .int .i64 x.src, .int .i64 x.tgt, .bool x.rep, .slice x.us.A x.us.l.length x.us.c] T)).alloc (.cells #[.int .i64 x.kind, .int .u32 (x.seq : Int), .int .i64 x.src, .int .i64 x.tgt, .bool x.rep, .slice x.us.A x.us.l.length x.us.c] T2)) (w2.heap.size + 1) x) := Lib.hid (fun T T2 e => by
          have h9 := MiB.new (w2.alloc (.cells #[.int .i64 x.kind, .int .u32 (x.seq : Int), .int .i64 x.src, .int .i64 x.tgt, .bool x.rep, .slice x.us.A x.us.l.length x.us.c] T)) x
          rw [e]
          rwa [World.size_alloc] at h9)
        clear hxm hxu hb2 hE a0 a1
        by_cases hE0 : E = 0
        · subst hE0
          have hmx : x.m = msF f := by rw [HXm.out, if_pos rfl]
          have HMx := Lib.hid hmx
          have HOk2 := Lib.hid (HOk.out rfl)
          have hpk := HPl.out
          have HQk : Hid (l.length + 1 ≤ 2000000000000) := Lib.hid (by omega)
          have HS9 : Hid (w1.heap.size ≤ w2.heap.size) := Lib.hid (Nat.le_trans hb1r.out.size HB2.out.size)
          clear hmx hpk
          go_wp2_with (at_builtin; refine wpList_append_mi rfl (.tmp 35) (.tmp 37) rfl w1.heap.size u6 l rfl ((hrow.out.below HB2.out).below (HBB.out _ _)) (w2.heap.size + 1) x rfl (HX3.out _ _ rfl) ⟨HXu.out.1.below (HBB.out _ _), HXu.out.2.below (HBB.out _ _)⟩ HQk.out (by simp; exact Nat.le_trans HS9.out (by omega)) ?_)
          refine Lib.hid ?_
          intro v3 w3 hr3 hb3
          have HR3 := Lib.hid hr3
          have HB3 : Hid (Below w1.heap.size w1 w3) := Lib.hid ((hb1r.out.trans ((HB2.out.trans ((HBB.out _ _).mono HB2.out.size)).mono hb1r.out.size)).trans hb3)
          have HPn : Hid ((l ++ [x]).map Mi.m = (fs.take (k + 1)).map msF) := Lib.hid (by rw [HTk.out, List.map_append, hms.out, List.map_singleton, HMx.out])
          clear hr3 hb3
          go_wp2
          go_roundw
          case rel => exact ⟨k + 1, _, by omega, by go_num, HPn, HOk2, HR3, HB3⟩
          case measure => simp [RowKit.intOf]; omega
        · have E1 : ((E : Int) != 0) = true := by rw [bne_iff_ne]; omega
          have HF : Hid (∀ (o : Obj), PO (.returned (.tuple #[.slice none 0 0, .int .i64 (E : Int)])) (w2.alloc o)) := Lib.hid (fun o => by
            rw [← HPO.out]
            have e : errUM xs fs r = E := by rw [HUM.out, HErr.out hE0]
            exact ⟨hbe.out.trans ((HB2.out.trans ((HB1'.out o).mono HB2.out.size)).mono hbe.out.size), .inl ⟨by rw [e]; exact hE0, by rw [e]⟩⟩)
          clear hE0
          go_wp2
          exact HF.out _
      · obtain rfl : k = N := by omega
        have htk : fs.take k = fs := List.take_of_length_le (by rw [HN.out]; exact Nat.le_refl _)
        have h1 := hms.out
        rw [htk] at h1
        have hz : errsM fs = 0 := errsM_zero.2 (fun f hf => by
          obtain ⟨j, hj, rfl⟩ := List.mem_iff_getElem.1 hf
          exact hok.out j hj (by rw [← HN.out]; exact hj))
        have hwide : ∀ x ∈ l, x.m.wide := fun x hx => by
          have : x.m ∈ fs.map msF := by rw [← h1]; exact List.mem_map.2 ⟨x, hx, rfl⟩
          obtain ⟨f, hf, e⟩ := List.mem_map.1 this
          rw [← e]
          exact (msF_back (errsM_zero.1 hz f hf)).2.1
        obtain ⟨A2, c2, rfl, hmis⟩ := hrow.out.mis hwide
        have HF : Hid (PO (.returned (.tuple #[.slice A2 l.length c2, .int .i64 0])) wr) := Lib.hid (by
          rw [← HPO.out]
          have e : errUM xs fs r = 0 := by rw [HUM.out, hz]
          exact ⟨hbe.out, .inr ⟨e, A2, c2, l, rfl, hmis, h1⟩⟩)
        obtain ⟨L, hL⟩ : ∃ L, l.length = L := ⟨_, rfl⟩
        rw [hL] at HF ⊢
        clear htk h1 hz hwide hmis hL
        go_wp2
        exact HF.out
end Go.Proofs.Ytjbemjnofnifaaa
