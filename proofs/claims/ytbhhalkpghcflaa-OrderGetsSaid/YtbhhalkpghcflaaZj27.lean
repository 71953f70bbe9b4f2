/-
  The reading of the commands within one: what its region knows (layer 20).
-/
import Derived.Test.YtbhhalkpghcflaaZj25
import Derived.Test.YtbhhalkpghcflaaZj16
import Derived.Test.YtbhhalkpghcflaaZj26
import Derived.Maps.AppendAt
import Derived.Test.YtbhhalkpghcflaaZj8
namespace Go.Proofs.Ytbhhalkpghcflaa
open Go.RowKit Go.Rel
set_option linter.unusedSimpArgs false
set_option linter.unusedVariables false

def subK : Cod Nat := kindC (numC 255 (by decide)) fun k => decide (1 ≤ k) && decide (k ≤ 17)
theorem subC_rd (s : St) : subC.rd s = (((subK.rd s).1, ((fieldsC (subK.rd s).1).rd (subK.rd s).2).1), ((fieldsC (subK.rd s).1).rd (subK.rd s).2).2) := rfl
/-- The tags' row, if there is one, is not v's own. -/
def OffT (v : Value) (y : Sub) : Prop := ∀ b off, y.1.tA = some ⟨b, off, none⟩ → 0 < y.1.tn → v.ownBlock ≠ some b
/-- What was read as a command within one. -/
structure SubR (n0 : Nat) (s : St) (W : World) (y : Sub) : Prop where
  fr : FrT n0 W y
  sn : y.1.sn = 0
  k0 : 0 ≤ y.1.kind
  val : (subC.rd s).2.e = 0 → (y.1.kind.toNat, y.1.vals y.2) = (subC.rd s).1
theorem SubR.but {n0 : Nat} {s : St} {W W' : World} {y : Sub} {D : Nat → Prop} (h : SubR n0 s W y) (hb : But D W W') (hD : ∀ k, D k → k < n0) : SubR n0 s W' y := ⟨h.fr.but hb hD, h.sn, h.k0, h.val⟩
/-- What the reading of a command within one does. -/
def RdSub (S : Nat → Prop) (R : Nat) (W : World) (s : St) (e : Ending) (W' : World) : Prop :=
  But (fun k => k = R) W W' ∧ (((subC.rd s).2.e ≠ 0 ∧ e = PanE (subC.rd s).2.e) ∨ ∃ y : Sub, e = .returned (cmV y.1) ∧ RdAt S W' R (subC.rd s).2 ∧ SubR W.heap.size s W' y)
/-- What has been done of one round. -/
structure RcI (S : Nat → Prop) (R B b : Nat) (Zc : Value → CmW → Prop) (wr : World) (s : St) (cur : Array Value) (vk : Value) (subs : List Sub) (iC iB iA iS : Nat) (f : Nat → Bool) (e : Nat → Value) (W : World) : Prop where
  low : But (fun j => j = R ∨ j = B ∨ vk.ownBlock = some j) wr W
  ptr : W.cell? ⟨b, 0, none⟩ = some (.pointer (some ⟨B, 16, none⟩))
  bef : f iC = false → RdAt S W R s
  aft : f iC = true → RdAt S W R (subC.rd s).2 ∧ ∃ y : Sub, SubR wr.heap.size s W y ∧ e iC = cmV y.1
  lay : f iB = true → ∃ N z, e iB = .slice (some ⟨N, 0, none⟩) 1 1 ∧ wr.heap.size ≤ N ∧ N < W.heap.size ∧ ItAt cmC W N 0 z ∧ Zc (e iC) z
  row : f iA = false → rowK cmC TCm 17 W 0 vk (subs.map (·.1))
  app : f iA = true → ∃ (y : Sub) (z : CmW), SubR wr.heap.size s W y ∧ e iC = cmV y.1 ∧ Zc (e iC) z ∧ rowK cmC TCm 17 W 0 (e iA) (subs.map (·.1) ++ [z]) ∧ OffT (e iA) y ∧ ((e iA).ownBlock = vk.ownBlock ∨ ∃ j, (e iA).ownBlock = some j ∧ wr.heap.size ≤ j)
  box : W.heap[B]? = some (.cells (if f iS then cur.setIfInBounds 16 (e iA) else cur) TCm (0, 0))
section
variable {S : Nat → Prop} {R B b : Nat} {Zc : Value → CmW → Prop} {wr W W' : World} {s : St} {cur : Array Value} {vk : Value} {subs : List Sub} {iC iB iA iS i : Nat} {f : Nat → Bool} {e e' : Nat → Value} {v : Value} {ops : Array Oper}
theorem RcI.keep (h : RcI S R B b Zc wr s cur vk subs iC iB iA iS f e W) (hi : [iC, iB, iA, iS].contains i = false) (hp : Put ops i e v e') : RcI S R B b Zc wr s cur vk subs iC iB iA iS (upd f i) e' W := by
  simp only [List.contains_cons, List.contains_nil, Bool.or_false, Bool.or_eq_false_iff, beq_eq_false_iff_ne, ne_eq] at hi
  obtain ⟨h1, h2, h3, h4⟩ := hi
  have u : ∀ m, ¬ i = m → upd f i m = f m := fun m hm => by
    unfold upd
    rw [show (m == i) = false by simpa using fun e => hm e.symm, Bool.false_or]
  have g : ∀ m, ¬ i = m → e' m = e m := fun m hm => hp.1 m (fun e => hm e.symm)
  obtain ⟨a1, a2, a3, a4, a5, a6, a7, a8⟩ := h
  refine ⟨a1, a2, ?_, ?_, ?_, ?_, ?_, ?_⟩
  · rw [u iC h1]; exact a3
  · rw [u iC h1, g iC h1]; exact a4
  · rw [u iB h2, g iB h2, g iC h1]; exact a5
  · rw [u iA h3]; exact a6
  · rw [u iA h3, g iA h3, g iC h1]; exact a7
  · rw [u iS h4, g iA h3]; exact a8
theorem RcI.start (hrd : RdAt S wr R s) (hptr : wr.cell? ⟨b, 0, none⟩ = some (.pointer (some ⟨B, 16, none⟩))) (hrow : rowK cmC TCm 17 wr 0 vk (subs.map (·.1))) (hbox : wr.heap[B]? = some (.cells cur TCm (0, 0))) : RcI S R B b Zc wr s cur vk subs iC iB iA iS (fun _ => false) e { wr with drawn := wr.drawn + 1 } :=
  ⟨(But.refl _ wr).drew, hptr, fun _ => hrd.below (Below.refl _ wr).drew, (fun h => by cases h), (fun h => by cases h), fun _ => hrow.below (Below.refl _ wr).drew, (fun h => by cases h), hbox⟩
/-- The call is made. -/
theorem RcI.call (h : RcI S R B b Zc wr s cur vk subs iC iB iA iS f e W) (hC : f iC = false) (hA : f iA = false) (hS : f iS = false) (hne : iC ≠ iB ∧ iC ≠ iA ∧ iC ≠ iS) (hB : f iB = true → ∀ x z, Zc x z → ∀ x', Zc x' z)
    (hbR : b ≠ R) (hBR : B ≠ R) (hown : vk.ownBlock ≠ some R) (hRlt : R < wr.heap.size) {y : Sub} (hb : But (fun k => k = R) W W') (hr : RdAt S W' R (subC.rd s).2) (hy : SubR W.heap.size s W' y) (hp : Put ops iC e (cmV y.1) e') (hd : ((ops[iC]?).bind (·.dst)).isSome = true) : RcI S R B b Zc wr s cur vk subs iC iB iA iS (upd f iC) e' W' := by
  have u : ∀ m, iC ≠ m → upd f iC m = f m := fun m hm => by
    unfold upd
    rw [show (m == iC) = false by simpa using fun e => hm e.symm, Bool.false_or]
  have g : ∀ m, iC ≠ m → e' m = e m := fun m hm => hp.1 m (fun e => hm e.symm)
  have gC : e' iC = cmV y.1 := hp.2 hd
  have uC : upd f iC iC = true := by unfold upd; simp
  obtain ⟨a1, a2, a3, a4, a5, a6, a7, a8⟩ := h
  have hle : wr.heap.size ≤ W.heap.size := a1.size
  refine ⟨a1.trans (hb.mono fun k hk => .inl hk), (hb.cell (World.block_lt_of_cell? _ _ a2) hbR).trans a2, (fun e9 => by rw [uC] at e9; cases e9), fun _ => ⟨hr, y, ⟨⟨hy.fr.1, fun b2 off e2 hn => Nat.le_trans hle (hy.fr.2 b2 off e2 hn)⟩, hy.sn, hy.k0, hy.val⟩, gC⟩, ?_, ?_, ?_, ?_⟩
  · rw [u iB hne.1, g iB hne.1]
    intro hf
    obtain ⟨N, z, h1, h2, h3, h4, h5⟩ := a5 hf
    exact ⟨N, z, h1, h2, Nat.lt_of_lt_of_le h3 hb.size, h4.of_block (hb.block N h3 (by omega)), hB hf _ _ h5 _⟩
  · rw [u iA hne.2.1]
    intro hf
    exact (a6 hf).but hb (fun j hj hk => by subst hk; exact hown hj)
  · rw [u iA hne.2.1, hA]
    intro hf
    cases hf
  · rw [u iS hne.2.2, hS] at *
    simp only [Bool.false_eq_true, if_false] at a8 ⊢
    exact (hb.block B (block_lt a8) hBR).trans a8
/-- The element is laid in a block of its own. -/
theorem RcI.build (h : RcI S R B b Zc wr s cur vk subs iC iB iA iS f e W) (hA : f iA = false) (hS : f iS = false) (hne : iB ≠ iC ∧ iB ≠ iA ∧ iB ≠ iS) {z : CmW} {cs : Array Value} (hcs : cs.toList = cmC z) (hz : Zc (e iC) z) (T : TypeId) (hp : Put ops iB e (.slice (some ⟨W.heap.size, 0, none⟩) 1 1) e') (hd : ((ops[iB]?).bind (·.dst)).isSome = true) : RcI S R B b Zc wr s cur vk subs iC iB iA iS (upd f iB) e' (W.alloc (.cells cs T)) := by
  have u : ∀ m, iB ≠ m → upd f iB m = f m := fun m hm => by
    unfold upd
    rw [show (m == iB) = false by simpa using fun e => hm e.symm, Bool.false_or]
  have g : ∀ m, iB ≠ m → e' m = e m := fun m hm => hp.1 m (fun e => hm e.symm)
  have gB : e' iB = .slice (some ⟨W.heap.size, 0, none⟩) 1 1 := hp.2 hd
  have hb : Below W.heap.size W (W.alloc (.cells cs T)) := (Below.refl _ W).alloc (Nat.le_refl _) _
  obtain ⟨a1, a2, a3, a4, a5, a6, a7, a8⟩ := h
  refine ⟨a1.alloc _, (hb.cell (World.block_lt_of_cell? _ _ a2)).trans a2, ?_, ?_, ?_, ?_, ?_, ?_⟩
  · rw [u iC hne.1]
    exact fun hf => (a3 hf).below hb
  · rw [u iC hne.1, g iC hne.1]
    intro hf
    obtain ⟨h1, y, h2, h3⟩ := a4 hf
    exact ⟨h1.below hb, y, h2.but (But.of_below (S := fun _ => False) hb) (fun _ h => h.elim), h3⟩
  · intro _
    rw [gB, g iC hne.1]
    refine ⟨W.heap.size, z, rfl, a1.size, by simp, fun j v hv => ?_, hz⟩
    rw [Nat.zero_add, cell_of_row _ W.heap.size j cs T (0, 0) (heap_alloc_new W _)]
    rw [← Array.getElem?_toList, hcs]
    exact hv
  · rw [u iA hne.2.1]
    exact fun hf => (a6 hf).below hb
  · rw [u iA hne.2.1, hA]
    intro hf
    cases hf
  · rw [u iS hne.2.2, hS] at *
    simp only [Bool.false_eq_true, if_false] at a8 ⊢
    exact (hb.block B (block_lt a8)).trans a8
theorem cm_one (x : CmW) : ∀ u ∈ cmC x, u.oneCell' = true := cmC_one x
theorem cm_parts : (Try.prog.info? TCm).map (fun i => (i.zero, i.size, i.bytes)) = some (some (.agg #[.int .i64 0, .int .i64 0, .int .i64 0, .int .i64 0, .string ⟨#[]⟩, .string ⟨#[]⟩, .string ⟨#[]⟩, .string ⟨#[]⟩, .string ⟨#[]⟩, .string ⟨#[]⟩, .string ⟨#[]⟩, .string ⟨#[]⟩, .slice none 0 0, .bool false, .int .u64 0, .int .u64 0, .slice none 0 0]), 17, 232) := by kernel_rfl
/-- The element is appended. -/
theorem RcI.append (h : RcI S R B b Zc wr s cur vk subs iC iB iA iS f e W) (hC : f iC = true) (hBl : f iB = true) (hA : f iA = false) (hS : f iS = false) (hne : iA ≠ iC ∧ iA ≠ iB ∧ iA ≠ iS) (hl : subs.length < 100) (hlt : ∀ j, vk.ownBlock = some j → S j ∧ j < wr.heap.size ∧ j ≠ R ∧ j ≠ B ∧ j ≠ b) (ty : TypeId) :
    ∃ v' W', (Builtin.append_ #[24, 24] ty #[vk, e iB]).run Try.prog W = .ok v' W' ∧ ∀ (ops : Array Oper) (e' : Nat → Value), ((ops[iA]?).bind (·.dst)).isSome = true → Put ops iA e v' e' → RcI S R B b Zc wr s cur vk subs iC iB iA iS (upd f iA) e' W' := by
  obtain ⟨N, z, h1, h2, h3, h4, h5⟩ := h.lay hBl
  obtain ⟨i0, hi, hz0, hz1, hz2⟩ := info_parts cm_parts
  have hr := h.row hA
  obtain ⟨sl, hsl⟩ : ∃ sl : List CmW, subs.map (·.1) = sl := ⟨_, rfl⟩
  have hsn : sl.length = subs.length := by rw [← hsl, List.length_map]
  rw [hsl] at hr
  obtain ⟨v', W', hrun, ho, hg, _, hloc⟩ := run_append_own_at (P := Try.prog) (w := W) 0 24 ty TCm i0 _ 17 232 Try.underlying24 hi hz0 hz1 hz2 rfl (by decide) vk sl.length (sl.flatMap cmC) hr ⟨N, 0, none⟩ 1 1 (cmC z) rfl (fun j u hu => by
    rw [plain_add]
    exact h4 j u hu) (cm_one z) (by unfold maxLen; omega) (by omega) (Nat.zero_le _)
  refine ⟨v', W', by rw [h1]; exact hrun, fun ops e' hd hp => ?_⟩
  have u : ∀ m, iA ≠ m → upd f iA m = f m := fun m hm => by
    unfold upd
    rw [show (m == iA) = false by simpa using fun e => hm e.symm, Bool.false_or]
  have g : ∀ m, iA ≠ m → e' m = e m := fun m hm => hp.1 m (fun e => hm e.symm)
  have gA : e' iA = v' := hp.2 hd
  have hb : But (fun j => vk.ownBlock = some j) W W' := But.of_grown hg (fun r e _ => e)
  have hnk : ∀ j, j ≠ N → True := fun _ _ => trivial
  obtain ⟨a1, a2, a3, a4, a5, a6, a7, a8⟩ := h
  have hlw := a1.size
  obtain ⟨hr1, y, hy1, hy2⟩ := a4 hC
  have hown : ∀ j, vk.ownBlock = some j → j < wr.heap.size := fun j hj => (hlt j hj).2.1
  have hrd : RdAt S W' R (subC.rd s).2 := hr1.but hb (fun k hk => (hlt k hk).1) (fun hk => (hlt R hk).2.2.1 rfl)
  have hyw : SubR wr.heap.size s W' y := hy1.but hb hown
  refine ⟨a1.trans (hb.mono fun k hk => .inr (.inr hk)), (hb.cell (World.block_lt_of_cell? _ _ a2) (fun hk => (hlt b hk).2.2.2.2 rfl)).trans a2, ?_, ?_, ?_, ?_, ?_, ?_⟩
  · rw [u iC hne.1, hC]
    intro hf
    cases hf
  · rw [u iC hne.1, g iC hne.1]
    exact fun _ => ⟨hrd, y, hyw, hy2⟩
  · rw [u iB hne.2.1, g iB hne.2.1, g iC hne.1]
    intro _
    exact ⟨N, z, h1, h2, Nat.lt_of_lt_of_le h3 hb.size, h4.of_block (hb.block N h3 (fun hk => by have := hown N hk; omega)), h5⟩
  · intro hf
    unfold upd at hf
    simp at hf
  · intro _
    rw [gA, g iC hne.1]
    refine ⟨y, z, hyw, hy2, h5, ?_, ?_, ?_⟩
    · rw [hsl]
      unfold rowK
      rw [List.flatMap_append, List.length_append, List.flatMap_cons, List.flatMap_nil, List.append_nil]
      exact ho
    · intro b2 off e2 hn e3
      have hlo := hy1.fr.2 b2 off e2 hn
      obtain ⟨b3, off3, e4, hb3, _⟩ := hy1.fr.1.row.2 hn
      rw [e2] at e4
      cases e4
      rcases hloc with e | e
      · rw [e] at e3
        have := hown b2 e3
        omega
      · rw [e] at e3
        have : W.heap.size = b2 := Option.some.inj e3
        omega
    · rcases hloc with e | e
      · exact .inl e
      · exact .inr ⟨_, e, hlw⟩
  · rw [u iS hne.2.2, hS] at *
    simp only [Bool.false_eq_true, if_false] at a8 ⊢
    exact (hb.block B (block_lt a8) (fun hk => (hlt B hk).2.2.2.1 rfl)).trans a8
/-- The row is stored. -/
theorem RcI.store (h : RcI S R B b Zc wr s cur vk subs iC iB iA iS f e W) (hA : f iA = true) (hC : f iC = true) (hS : f iS = false) (hne : iS ≠ iC ∧ iS ≠ iB ∧ iS ≠ iA) (hSB : S B) (hBR : B ≠ R) (hbB : b ≠ B) (hBlt : B < wr.heap.size) (hvB : vk.ownBlock ≠ some B) (hp : Put ops iS e v e') : RcI S R B b Zc wr s cur vk subs iC iB iA iS (upd f iS) e' (W.setCell ⟨B, 16, none⟩ (e iA)) := by
  have u : ∀ m, iS ≠ m → upd f iS m = f m := fun m hm => by
    unfold upd
    rw [show (m == iS) = false by simpa using fun e => hm e.symm, Bool.false_or]
  have g : ∀ m, iS ≠ m → e' m = e m := fun m hm => hp.1 m (fun e => hm e.symm)
  have uS : upd f iS iS = true := by unfold upd; simp
  have hb := But.set (S := fun k => k = B) W (p := ⟨B, 16, none⟩) rfl (e iA)
  obtain ⟨a1, a2, a3, a4, a5, a6, a7, a8⟩ := h
  have hlw := a1.size
  obtain ⟨hr1, y, hy1, hy2⟩ := a4 hC
  obtain ⟨y2, z2, g1, g2, g3, g4, g5, g6⟩ := a7 hA
  have hBl : ∀ k, k = B → k < wr.heap.size := fun k hk => hk ▸ hBlt
  have hnB : (e iA).ownBlock ≠ some B := by
    rcases g6 with e | ⟨j, e, hj⟩
    · rw [e]; exact hvB
    · rw [e]
      intro h
      have : j = B := Option.some.inj h
      omega
  refine ⟨a1.trans (hb.mono fun k hk => .inr (.inl hk)), (hb.cell (World.block_lt_of_cell? _ _ a2) hbB).trans a2, ?_, ?_, ?_, ?_, ?_, ?_⟩
  · rw [u iC hne.1, hC]
    intro hf
    cases hf
  · rw [u iC hne.1, g iC hne.1]
    exact fun _ => ⟨hr1.but hb (fun k hk => hk ▸ hSB) (fun hk => hBR hk.symm), y, hy1.but hb hBl, hy2⟩
  · rw [u iB hne.2.1, g iB hne.2.1, g iC hne.1]
    intro hf
    obtain ⟨N, z, h1, h2, h3, h4, h5⟩ := a5 hf
    exact ⟨N, z, h1, h2, Nat.lt_of_lt_of_le h3 hb.size, h4.of_block (hb.block N h3 (fun hk => by omega)), h5⟩
  · rw [u iA hne.2.2, hA]
    intro hf
    cases hf
  · rw [u iA hne.2.2, g iA hne.2.2, g iC hne.1]
    exact fun _ => ⟨y2, z2, g1.but hb hBl, g2, g3, g4.but hb (fun j hj hk => hnB (hk ▸ hj)), g5, g6⟩
  · rw [uS, g iA hne.2.2]
    rw [hS] at a8
    simp only [Bool.false_eq_true, if_false, if_true] at a8 ⊢
    exact block_set a8 16 _
theorem RcI.cellB (h : RcI S R B b Zc wr s cur vk subs iC iB iA iS f e W) (hS : f iS = false) (hz : cur.size = 17) : ((∃ u, W.cell? ⟨B, 16, none⟩ = some u) ∧ W.frozen? ⟨B, 16, none⟩ = false) ∧ W.cell? ⟨B, 16, none⟩ = cur[16]? := by
  have a8 := h.box
  rw [hS] at a8
  simp only [Bool.false_eq_true, if_false] at a8
  have hc := cell_of_row W B 16 cur TCm (0, 0) a8
  refine ⟨⟨⟨cur[16], ?_⟩, ?_⟩, hc⟩
  · rw [hc, Array.getElem?_eq_getElem (by omega)]
  · unfold World.frozen?
    rw [a8]
    simp
end
end Go.Proofs.Ytbhhalkpghcflaa
/-
  A command is laid in its place in a row of the call's own (layer 20).
-/
namespace Go.Proofs.Ytbhhalkpghcflaa
open Go.RowKit
set_option linter.unusedSimpArgs false
set_option linter.unusedVariables false

theorem block_setCells {B : Nat} {t : TypeId} {fr : Nat × Nat} : ∀ (vs : List Value) (o : Nat) (w : World) (cur : Array Value), w.heap[B]? = some (.cells cur t fr) →
    ∃ cur', (w.setCells B o vs).heap[B]? = some (.cells cur' t fr) ∧ cur'.size = cur.size ∧ (o + vs.length ≤ cur.size → cur'.toList = cur.toList.take o ++ vs ++ cur.toList.drop (o + vs.length))
  | [], o, w, cur, h => ⟨cur, h, rfl, fun _ => by simp⟩
  | v :: r, o, w, cur, h => by
    obtain ⟨cur', h1, h2, h3⟩ := block_setCells r (o + 1) (w.setCell ⟨B, o, none⟩ v) _ (block_set h o v)
    refine ⟨cur', h1, by rw [h2]; simp, fun hle => ?_⟩
    rw [List.length_cons] at hle
    rw [h3 (by rw [Array.size_setIfInBounds]; omega)]
    have hlt : o < cur.toList.length := by rw [Array.length_toList]; omega
    rw [Array.toList_setIfInBounds, List.set_eq_take_append_cons_drop, if_pos hlt]
    have e1 : (cur.toList.take o ++ v :: cur.toList.drop (o + 1)).take (o + 1) = cur.toList.take o ++ [v] := by
      have : (cur.toList.take o).length = o := by rw [List.length_take]; omega
      rw [List.take_append, this, List.take_of_length_le (by omega), show o + 1 - o = 1 by omega]
      rfl
    have e2 : (cur.toList.take o ++ v :: cur.toList.drop (o + 1)).drop (o + 1 + r.length) = cur.toList.drop (o + 1 + r.length) := by
      have : (cur.toList.take o).length = o := by rw [List.length_take]; omega
      rw [List.drop_append, this, List.drop_of_length_le (by omega), show o + 1 + r.length - o = r.length + 1 by omega, List.drop_succ_cons, List.drop_drop, List.nil_append]
    rw [e1, e2, List.length_cons, show o + (r.length + 1) = o + 1 + r.length by omega]
    simp
theorem But.setCells {S : Nat → Prop} {b : Nat} (hs : S b) : ∀ (vs : List Value) (o : Nat) (w : World), But S w (w.setCells b o vs)
  | [], o, w => But.refl _ w
  | v :: r, o, w => (But.set w (p := ⟨b, o, none⟩) hs v).trans (But.setCells hs r (o + 1) _)
theorem row_put {w : World} {v : Value} {l : List CmW} {z : CmW} (y : CmW) (h : rowK cmC TCm 17 w 0 v (l ++ [z])) : ∃ g c, v = .slice (some ⟨g, 0, none⟩) (l.length + 1) c ∧ l.length + 1 ≤ c ∧ w.there g (l.length * 17) 17 ∧ rowK cmC TCm 17 (w.setCells g (l.length * 17) (cmC y)) 0 v (l ++ [y]) ∧ But (fun k => v.ownBlock = some k) w (w.setCells g (l.length * 17) (cmC y)) := by
  unfold rowK at h
  rw [List.length_append, List.length_cons, List.length_nil, Nat.zero_add] at h
  have hfl : (l.flatMap cmC).length = l.length * 17 := flat_length cmC_len l
  rcases h.2 with ⟨_, h0⟩ | ⟨g, cap, cur, hv, h1, hh, hnc, hcm, hsz, ht⟩
  · omega
  · have hle : l.length * 17 + 17 ≤ cur.size := by rw [hsz]; omega
    obtain ⟨cur', k1, k2, k3⟩ := block_setCells (cmC y) (l.length * 17) w cur hh
    have k4 := k3 (by rw [cmC_len]; exact hle)
    refine ⟨g, cap, hv, hnc, fun j hj => ?_, ?_, But.setCells (by rw [hv]; rfl) _ _ _⟩
    · refine ⟨?_, ?_⟩
      · rw [cell_of_row w g (l.length * 17 + j) cur TCm (0, 0) hh, Array.getElem?_eq_getElem (by omega)]
        rfl
      · unfold World.frozen?
        rw [hh]
        simp
    · unfold rowK
      rw [List.length_append, List.length_cons, List.length_nil, Nat.zero_add]
      refine ⟨?_, .inr ⟨g, cap, cur', hv, h1, k1, hnc, hcm, by rw [k2, hsz], ?_⟩⟩
      · rw [List.flatMap_append, List.length_append, hfl, List.flatMap_cons, List.flatMap_nil, List.append_nil, cmC_len]
        omega
      · have htk : cur.toList.take (l.length * 17) = l.flatMap cmC := by
          have h5 := congrArg (List.take (l.length * 17)) ht
          rw [List.take_take, List.flatMap_append, Nat.min_eq_left (by omega), ← hfl, List.take_left] at h5
          rw [← hfl]
          exact h5
        rw [k4, htk, List.flatMap_append, List.flatMap_cons, List.flatMap_nil, List.append_nil]
        have hl2 : (l.flatMap cmC ++ cmC y).length = (l.length + 1) * 17 := by rw [List.length_append, hfl, cmC_len]; omega
        rw [← hl2, List.take_left]
end Go.Proofs.Ytbhhalkpghcflaa
