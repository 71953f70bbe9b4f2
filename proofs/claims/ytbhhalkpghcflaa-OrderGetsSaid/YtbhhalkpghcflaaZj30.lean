/-
  What reading a command comes to, where commands may have some fields alone (layer 20). Nothing of any program is walked here.
-/
import Derived.Test.YtbhhalkpghcflaaZj29
import Derived.Test.YtbhhalkpghcflaaZj20
import Derived.Test.YtbhhalkpghcflaaZj17
namespace Go.Proofs.Ytbhhalkpghcflaa
open Go.RowKit
set_option linter.unusedSimpArgs false
set_option linter.unusedVariables false

def kindG (may : Nat) : Cod Nat := kindC (numC 255 (by decide)) fun k => !decide (maskN (k : Int) &&& may = 0)
def headG (may : Nat) : Cod (Nat × Fs) := bindC (kindG may) fieldsC
def lstC : Cod (List (Nat × Fs)) := listC 8 (by decide) subC
def genC (may : Nat) : Cod ((Nat × Fs) × List (Nat × Fs)) := bindC (headG may) fun x => optC ((maskN (x.1 : Int) &&& may).testBit 15) lstC []
theorem kindG_num (may : Nat) (s : St) : (kindG may).rd s = ((itNum 255).out s, if ((itNum 255).next s).e = 0 ∧ (!decide (maskN ((itNum 255).out s : Int) &&& may = 0)) = false then ⟨((itNum 255).next s).b, 40⟩ else (itNum 255).next s) := rfl
theorem genC_err {may : Nat} {s : St} (h : ((kindG may).rd s).2.e ≠ 0) : ((genC may).rd s).2 = ((kindG may).rd s).2 := by
  have h1 : ((headG may).rd s).2 = ((kindG may).rd s).2 := (fieldsC _).st _ h
  have h2 : ((headG may).rd s).2.e ≠ 0 := by rw [h1]; exact h
  show ((optC _ lstC []).rd ((headG may).rd s).2).2 = _
  rw [(optC _ lstC []).st _ h2, h1]
theorem genC_ok {may : Nat} {s : St} {kn : Nat} {s1 : St} (h : (kindG may).rd s = (kn, s1)) : (genC may).rd s = (((kn, ((fieldsC kn).rd s1).1), ((optC ((maskN (kn : Int) &&& may).testBit 15) lstC []).rd (stK kn s1 15)).1), ((optC ((maskN (kn : Int) &&& may).testBit 15) lstC []).rd (stK kn s1 15)).2) := by
  have e1 : (headG may).rd s = ((kn, ((fieldsC kn).rd s1).1), stK kn s1 15) := by
    unfold headG bindC
    simp only [h]
    rfl
  unfold genC bindC
  simp only [e1]
theorem genC_of {may : Nat} {s : St} {r : (Nat × Fs) × St} (h : (headG may).rd s = r) : (genC may).rd s = ((r.1, ((optC ((maskN (r.1.1 : Int) &&& may).testBit 15) lstC []).rd r.2).1), ((optC ((maskN (r.1.1 : Int) &&& may).testBit 15) lstC []).rd r.2).2) := by
  unfold genC bindC
  simp only [h]
theorem mask_in15 (k : Int) : (maskN k &&& 32767).testBit 15 = false := by
  rw [mask_in k (by decide)]
  simp
/-- Within a command: no commands. -/
theorem genC_in (s : St) : (genC 32767).rd s = (((subC.rd s).1, []), (subC.rd s).2) := by
  have e1 : kindG 32767 = subK := by
    unfold kindG subK
    congr 1
    funext k
    rw [mask_zero_in, Bool.not_not]
    unfold kindOk
    rw [Bool.eq_iff_iff]
    simp
    omega
  have e2 : (headG 32767).rd s = subC.rd s := by
    unfold headG
    rw [e1]
    rfl
  rw [genC_of e2, mask_in15]
  rfl
theorem genC_all (s : St) : (genC 65535).rd s = cmdC.rd s := by
  have e1 : kindG 65535 = kindC (numC 255 (by decide)) fun k => decide (1 ≤ k) && decide (k ≤ 18) := by
    unfold kindG
    congr 1
    funext k
    rw [mask_all, mask_zero, Bool.not_not]
    unfold kindOk
    rw [Bool.eq_iff_iff]
    simp
    omega
  have e2 : (headG 65535).rd s = headC.rd s := by
    unfold headG
    rw [e1]
    rfl
  rw [genC_of e2, mask_all, maskN_bit _ (by decide)]
  rfl
/-- What reading a command does. -/
structure GenR (n0 : Nat) (may : Nat) (s : St) (W : World) (y : Sub) (subs : List Sub) : Prop where
  fr : FrT n0 W y
  k0 : 0 ≤ y.1.kind
  row : SK cmC 17 W y.1.sA y.1.sn (subs.map (·.1))
  own : ∀ b off, y.1.sA = some ⟨b, off, none⟩ → 0 < y.1.sn → n0 ≤ b
  each : ∀ z ∈ subs, FrT n0 W z ∧ z.1.sn = 0 ∧ 0 ≤ z.1.kind
  bit : (maskN y.1.kind &&& may).testBit 15 = false → subs = []
  val : ((genC may).rd s).2.e = 0 → ((y.1.kind.toNat, y.1.vals y.2), subs.map absS) = ((genC may).rd s).1
def RdGen (may : Nat) (S : Nat → Prop) (R : Nat) (W : World) (s : St) (e : Ending) (W' : World) : Prop :=
  But (fun k => k = R) W W' ∧ ((∃ n : Nat, n ≠ 0 ∧ n = ((genC may).rd s).2.e ∧ e = PanE n) ∨ ∃ (y : Sub) (subs : List Sub), e = .returned (cmV y.1) ∧ RdAt S W' R ((genC may).rd s).2 ∧ GenR W.heap.size may s W' y subs)
theorem rdSub_of {S : Nat → Prop} {R : Nat} {W W' : World} {s : St} {e : Ending} (h : RdGen 32767 S R W s e W') : RdSub S R W s e W' := by
  obtain ⟨hb, h⟩ := h
  refine ⟨hb, ?_⟩
  rcases h with ⟨n, h1, h2, h3⟩ | ⟨y, subs, h1, h2, h3⟩
  · rw [genC_in] at h2
    exact .inl ⟨by rw [← h2]; exact h1, by rw [← h2]; exact h3⟩
  · rw [genC_in] at h2
    have h4 := h3.val
    rw [genC_in] at h4
    have h5 := h3.bit (mask_in15 _)
    refine .inr ⟨y, h1, h2, h3.fr, ?_, h3.k0, fun e0 => (congrArg Prod.fst (h4 e0))⟩
    have := h3.row.1
    rw [h5] at this
    simpa using this.symm
end Go.Proofs.Ytbhhalkpghcflaa
/-
  What is laid in memory's words is what is laid in plain words (layer 20). Nothing of any program is walked here.
-/
namespace Go.Proofs.Ytbhhalkpghcflaa
open Go.RowKit
set_option linter.unusedSimpArgs false
set_option linter.unusedVariables false

theorem vals_at {x : CmW} {tags : List (List UInt8)} (h : CmS x) {k : Nat} {v : Fv} (hv : (x.vals tags)[k]? = some v) : v.at_ k := by
  have hk : k < 15 := (List.getElem?_eq_some_iff.1 hv).1
  have ho := h.old
  have hs := h.ses
  match k, hk with
  | 0, _ => cases hv; exact show (0 : Nat) < 3 by decide
  | 1, _ => cases hv; exact show (1 : Nat) < 3 by decide
  | 2, _ => cases hv; exact show (2 : Nat) < 3 by decide
  | 3, _ => cases hv; exact ⟨by decide, by decide⟩
  | 4, _ => cases hv; exact ⟨by decide, by decide⟩
  | 5, _ => cases hv; exact ⟨by decide, by decide⟩
  | 6, _ => cases hv; exact ⟨by decide, by decide⟩
  | 7, _ => cases hv; exact ⟨by decide, by decide⟩
  | 8, _ => cases hv; exact ⟨by decide, by decide⟩
  | 9, _ => cases hv; exact ⟨by decide, by decide⟩
  | 10, _ => cases hv; exact ⟨by decide, by decide⟩
  | 11, _ => cases hv; rfl
  | 12, _ => cases hv; rfl
  | 13, _ => cases hv; exact ⟨by decide, by unfold c64; omega⟩
  | 14, _ => cases hv; exact ⟨by decide, by unfold c64; omega⟩
  | k + 15, h => exact absurd h (by omega)
theorem okRow_all {α : Type} : ∀ {Cs : List (Cod α)} {l : List α}, okRow Cs l ↔ l.length = Cs.length ∧ ∀ (k : Nat) (C : Cod α) (v : α), Cs[k]? = some C → l[k]? = some v → C.ok v
  | [], [] => by simp [okRow]
  | [], x :: l => by simp [okRow]
  | C :: Cs, [] => by simp [okRow]
  | C :: Cs, x :: l => by
    show C.ok x ∧ okRow Cs l ↔ _
    rw [okRow_all]
    constructor
    · rintro ⟨h1, h2, h3⟩
      refine ⟨by simpa using h2, fun k D v hD hv => ?_⟩
      cases k with
      | zero =>
        simp only [List.getElem?_cons_zero, Option.some.injEq] at hD hv
        rw [← hD, ← hv]
        exact h1
      | succ k => exact h3 k D v (by simpa using hD) (by simpa using hv)
    · rintro ⟨h1, h2⟩
      exact ⟨h2 0 C x rfl rfl, by simpa using h1, fun k D v hD hv => h2 (k + 1) D v (by simpa using hD) (by simpa using hv)⟩
theorem fCs_at {kind n k : Nat} {C : Cod Fv} (h : (fCs kind n)[k]? = some C) : k < n ∧ C = fC kind k := by
  have hk : k < n := by
    have := (List.getElem?_eq_some_iff.1 h).1
    rwa [fCs_len] at this
  unfold fCs at h
  rw [List.getElem?_map, List.getElem?_range hk] at h
  exact ⟨hk, by simpa using h.symm⟩
theorem fields_ok {x : CmW} {tags : List (List UInt8)} (h : CmS x) (kind : Nat) : fieldsOk kind (x.vals tags) = true ↔ (fieldsC kind).ok (x.vals tags) := by
  show _ ↔ okRow (fCs kind 15) (x.vals tags)
  rw [okRow_all]
  unfold fieldsOk
  rw [List.all_eq_true]
  constructor
  · refine fun h1 => ⟨by rw [fCs_len]; rfl, fun k C v hC hv => ?_⟩
    obtain ⟨hk, rfl⟩ := fCs_at hC
    have h2 := h1 k (List.mem_range.2 hk)
    rw [List.getD_eq_getElem?_getD, hv, Option.getD_some] at h2
    exact (fOk_iff (vals_at h hv)).1 h2
  · rintro ⟨_, h1⟩ k hk
    have hk' := List.mem_range.1 hk
    have hv : (x.vals tags)[k]? = some ((x.vals tags)[k]'hk') := List.getElem?_eq_getElem _
    rw [List.getD_eq_getElem?_getD, hv, Option.getD_some]
    refine (fOk_iff (vals_at h hv)).2 (h1 k _ _ ?_ hv)
    unfold fCs
    rw [List.getElem?_map, List.getElem?_range hk']
    rfl
theorem fv_lay {k : Nat} {v : Fv} (h : v.at_ k) (hr : v.right = true) : (fvC k).lay v = v.bytes := by
  unfold fvC
  cases v with
  | num z =>
    have h' : k < 3 := h
    rw [if_pos h']
    have h0 : 0 ≤ z := by
      unfold Fv.right at hr
      simp only [Bool.and_eq_true, decide_eq_true_eq] at hr
      exact hr.1
    obtain ⟨n, rfl⟩ : ∃ n : Nat, z = n := ⟨z.toNat, by omega⟩
    have e : Fv.toNat (.num (n : Int)) = some n := by unfold Fv.toNat; simp
    show (match Fv.toNat (.num (n : Int)) with | some a => (numC 65535 (by decide)).lay a | none => []) = numB ((n : Int)).toNat
    rw [e]
    rfl
  | text s =>
    have h' : 3 ≤ k ∧ k < 11 := h
    rw [if_neg (by omega), if_pos h'.2]
    rfl
  | texts l =>
    have h' : k = 11 := h
    subst h'
    rfl
  | flag b =>
    have h' : k = 12 := h
    subst h'
    rfl
  | idx n =>
    have h' : 13 ≤ k ∧ n ≤ c64 := h
    rw [if_neg (by omega), if_neg (by omega), if_neg (by omega), if_neg (by omega)]
    rfl
theorem pre_lay {x : CmW} {tags : List (List UInt8)} {sB : List UInt8} (h : CmS x) (hf : FOk x tags) : ∀ k, k ≤ 15 → preB x tags sB k = numB x.kind.toNat ++ layRow (fCs x.kind.toNat k) ((x.vals tags).take k)
  | 0, _ => by
    show numB x.kind.toNat = numB x.kind.toNat ++ []
    rw [List.append_nil]
  | k + 1, hk => by
    have hk' : k < (x.vals tags).length := by show k < 15; omega
    have hv : (x.vals tags)[k]? = some ((x.vals tags)[k]'hk') := List.getElem?_eq_getElem _
    rw [preB, pre_lay h hf k (by omega), fCs_succ, List.take_succ_eq_append_getElem hk', layRow_snoc _ _ _ _ (by rw [fCs_len, List.length_take]; exact Nat.min_eq_left (by omega)), List.append_assoc]
    congr 2
    unfold fC
    show _ = (if hasB x.kind.toNat k then (fvC k).lay ((x.vals tags)[k]'hk') else [])
    cases hb : hasB x.kind.toNat k with
    | true =>
      simp only [if_true, hv]
      exact (fv_lay (vals_at h hv) (hf k _ hv hb)).symm
    | false => rfl
theorem pre15 {x : CmW} {tags : List (List UInt8)} {sB : List UInt8} (h : CmS x) (hf : FOk x tags) : preB x tags sB 15 = numB x.kind.toNat ++ (fieldsC x.kind.toNat).lay (x.vals tags) := by
  rw [pre_lay h hf 15 (Nat.le_refl _), show (x.vals tags).take 15 = x.vals tags from rfl]
  rfl
theorem sub_lay {y : Sub} (h : CmS y.1) (hf : FOk y.1 y.2) : subB y = subC.lay (absS y) := by
  unfold subB preB
  rw [pre15 h hf]
  have : (y.1.vals y.2)[15]? = none := rfl
  rw [this]
  show _ = numB y.1.kind.toNat ++ (fieldsC y.1.kind.toNat).lay (y.1.vals y.2)
  simp
theorem kindp {k : Int} {m : Nat} (h0 : 0 ≤ k) : (decide (1 ≤ k.toNat) && decide (k.toNat ≤ m)) = (decide (1 ≤ k) && decide (k ≤ (m : Int))) := by
  rw [Bool.eq_iff_iff]
  simp
  omega
theorem sub_ok {y : Sub} (h : CmS y.1) : subOk y = true ↔ 0 ≤ y.1.kind ∧ y.1.sn = 0 ∧ subC.ok (absS y) := by
  show _ ↔ _ ∧ _ ∧ ((y.1.kind.toNat ≤ 255 ∧ (decide (1 ≤ y.1.kind.toNat) && decide (y.1.kind.toNat ≤ 17)) = true) ∧ (fieldsC y.1.kind.toNat).ok (y.1.vals y.2))
  unfold subOk kindOk
  rw [← fields_ok h]
  simp only [Bool.and_eq_true, Bool.not_eq_true', decide_eq_false_iff_not, decide_eq_true_eq]
  constructor
  · rintro ⟨⟨⟨h1, h2⟩, h3⟩, h4⟩
    exact ⟨by omega, h4, ⟨by omega, by omega, by omega⟩, h3⟩
  · rintro ⟨h1, h2, ⟨h3, h4, h5⟩, h6⟩
    exact ⟨⟨⟨⟨by omega, by omega⟩, by omega⟩, h6⟩, h2⟩
theorem cmd_ok {w : World} {x : CmW} {tags : List (List UInt8)} {subs : List Sub} (h : Cm1 w x tags subs) : cmdOk x tags subs = true ↔ 0 ≤ x.kind ∧ (∀ y ∈ subs, 0 ≤ y.1.kind ∧ y.1.sn = 0) ∧ cmdC.ok ((x.kind.toNat, x.vals tags), subs.map absS) := by
  show _ ↔ _ ∧ _ ∧ (((x.kind.toNat ≤ 255 ∧ (decide (1 ≤ x.kind.toNat) && decide (x.kind.toNat ≤ 18)) = true) ∧ (fieldsC x.kind.toNat).ok (x.vals tags)) ∧ (if hasB x.kind.toNat 15 then (subs.map absS).length ≤ 8 ∧ ∀ z ∈ subs.map absS, subC.ok z else subs.map absS = []))
  have hl := h.len
  unfold cmdOk kindOk
  rw [← fields_ok h.top.small]
  cases hb : hasB x.kind.toNat 15 with
  | true =>
    simp only [if_true, Bool.and_eq_true, decide_eq_true_eq, List.all_eq_true, List.length_map, List.mem_map, forall_exists_index, and_imp, forall_apply_eq_imp_iff₂]
    constructor
    · rintro ⟨⟨⟨h1, h2⟩, h3⟩, h4, h5⟩
      exact ⟨by omega, fun y hy => have h6 := (sub_ok (h.each y hy).small).1 (h5 y hy); ⟨h6.1, h6.2.1⟩, ⟨⟨by omega, by omega, by omega⟩, h3⟩, by omega, fun y hy => ((sub_ok (h.each y hy).small).1 (h5 y hy)).2.2⟩
    · rintro ⟨h1, h2, ⟨⟨h3, h4, h5⟩, h6⟩, h7, h8⟩
      exact ⟨⟨⟨by omega, by omega⟩, h6⟩, by omega, fun y hy => (sub_ok (h.each y hy).small).2 ⟨(h2 y hy).1, (h2 y hy).2, h8 y hy⟩⟩
  | false =>
    simp only [Bool.false_eq_true, if_false, Bool.and_eq_true, decide_eq_true_eq, List.map_eq_nil_iff]
    constructor
    · rintro ⟨⟨⟨h1, h2⟩, h3⟩, h4⟩
      obtain rfl : subs = [] := List.eq_nil_of_length_eq_zero (by omega)
      exact ⟨by omega, (fun y hy => by cases hy), ⟨⟨by omega, by omega, by omega⟩, h3⟩, rfl⟩
    · rintro ⟨h1, h2, ⟨⟨h3, h4, h5⟩, h6⟩, rfl⟩
      exact ⟨⟨⟨by omega, by omega⟩, h6⟩, by rw [← hl]; rfl⟩
theorem flat_same {l : List Sub} (h : ∀ y ∈ l, subB y = subC.lay (absS y)) : l.flatMap subB = (l.map absS).flatMap subC.lay := by
  rw [List.flatMap_map]
  induction l with
  | nil => rfl
  | cons y l ih => rw [List.flatMap_cons, List.flatMap_cons, h y (List.mem_cons_self ..), ih fun z hz => h z (List.mem_cons_of_mem _ hz)]
theorem subs_lay' {l : List Sub} (h : ∀ y ∈ l, subB y = subC.lay (absS y)) : subsB l = lstC.lay (l.map absS) := by
  show _ = numB (l.map absS).length ++ (l.map absS).flatMap subC.lay
  rw [List.length_map, ← flat_same h]
  rfl
theorem pre16 {x : CmW} {tags : List (List UInt8)} {sB : List UInt8} : preB x tags sB 16 = preB x tags sB 15 ++ (if hasB x.kind.toNat 15 then sB else []) := rfl
theorem cmdC_lay (x : (Nat × Fs) × List (Nat × Fs)) : cmdC.lay x = (numB x.1.1 ++ (fieldsC x.1.1).lay x.1.2) ++ (if hasB x.1.1 15 then lstC.lay x.2 else []) := rfl
theorem cmd_lay {w : World} {x : CmW} {tags : List (List UInt8)} {subs : List Sub} (h : Cm1 w x tags subs) (hok : cmdOk x tags subs = true) : cmdB x tags subs = cmdC.lay ((x.kind.toNat, x.vals tags), subs.map absS) := by
  rw [cmdC_lay]
  unfold cmdOk at hok
  rw [Bool.and_eq_true, Bool.and_eq_true] at hok
  obtain ⟨⟨_, hf⟩, hs⟩ := hok
  unfold cmdB
  rw [pre16, pre15 h.top.small (fOk_all hf)]
  show _ ++ (if hasB x.kind.toNat 15 then subsB subs else []) = _ ++ (if hasB x.kind.toNat 15 then lstC.lay (subs.map absS) else [])
  cases hb : hasB x.kind.toNat 15 with
  | true =>
    rw [hb, if_pos rfl, Bool.and_eq_true, List.all_eq_true] at hs
    rw [if_pos rfl, if_pos rfl, subs_lay' fun y hy => ?_]
    have h5 := hs.2 y hy
    unfold subOk at h5
    rw [Bool.and_eq_true, Bool.and_eq_true, Bool.and_eq_true] at h5
    exact sub_lay (h.each y hy).small (fOk_all h5.1.2)
  | false => rw [if_neg (by decide), if_neg (by decide)]
/-- What Put lays, in plain words; what may be put. -/
theorem ord_lay {w : World} {x : CmW} {tags : List (List UInt8)} {subs : List Sub} (cl sq : Nat) (h : Cm1 w x tags subs) (hok : cmdOk x tags subs = true) : ordB (cl : Int) sq x tags subs = orderC.lay (cl, sq, (x.kind.toNat, x.vals tags), subs.map absS) := by
  unfold ordB
  rw [cmd_lay h hok, Int.toNat_natCast, List.append_assoc]
  show _ = numB cl ++ (numB sq ++ cmdC.lay ((x.kind.toNat, x.vals tags), subs.map absS))
  rfl
end Go.Proofs.Ytbhhalkpghcflaa
/-
  Same and the law's same, over what is equal in plain words (layer 20).
-/
namespace Go.Proofs.Ytbhhalkpghcflaa
open Go.RowKit
set_option linter.unusedSimpArgs false
set_option linter.unusedVariables false

theorem eqw {x y : CmW} {tx ty : List (List UInt8)} (hk : x.kind = y.kind) (hv : x.vals tx = y.vals ty) (hx : tx.length = x.tn) (hy : ty.length = y.tn) (hsn : x.sn = y.sn) : tx = ty ∧ y = { x with tA := y.tA, tc := y.tc, sA := y.sA, sc := y.sc } := by
  unfold CmW.vals at hv
  simp only [List.cons.injEq, Fv.num.injEq, Fv.text.injEq, Fv.texts.injEq, Fv.flag.injEq, Fv.idx.injEq, and_true] at hv
  obtain ⟨h1, h2, h3, h4, h5, h6, h7, h8, h9, h10, h11, rfl, h13, h14, h15⟩ := hv
  refine ⟨rfl, ?_⟩
  have htn : x.tn = y.tn := hx.symm.trans hy
  cases x
  cases y
  simp only at hk h1 h2 h3 h4 h5 h6 h7 h8 h9 h10 h11 h13 h14 h15 hsn htn
  subst hk h1 h2 h3 h4 h5 h6 h7 h8 h9 h10 h11 h13 h14 h15 hsn htn
  rfl
theorem rsame_eq {x y : CmW} {tx ty : List (List UInt8)} {su sv : List Sub} {w : World} (h : Cm1 w x tx su) (h' : Cm1 w y ty sv) (hk : x.kind = y.kind) (hv : x.vals tx = y.vals ty) (hl : su.length = sv.length) (ht : x.tn ≤ 1000) (hsn : x.sn ≤ 1000)
    (hsub : ∀ j (h1 : j < su.length) (h2 : j < sv.length) W, Below w.heap.size w W → Calls Try.prog 32 #[cmV su[j].1, cmV sv[j].1] W (YesB true W)) : Calls Try.prog 32 #[cmV x, cmV y] w (YesB true w) := by
  obtain ⟨rfl, e⟩ := eqw hk hv h.top.len h'.top.len (h.len.symm.trans (hl.trans h'.len))
  rw [e] at h' ⊢
  exact rsame_gen x _ _ _ _ tx su sv w h h' ht hsn hsub
theorem cm1_flat {w : World} {y : Sub} (h : Cm0 w y.1 y.2) (hs : y.1.sn = 0) : Cm1 w y.1 y.2 [] := ⟨h, ⟨hs.symm, fun hn => absurd hn (by omega)⟩, fun z hz => by cases hz⟩
theorem rsame1 {x y : CmW} {tx ty : List (List UInt8)} {su sv : List Sub} {w : World} (h : Cm1 w x tx su) (h' : Cm1 w y ty sv) (hk : x.kind = y.kind) (hv : x.vals tx = y.vals ty) (hss : su.map absS = sv.map absS) (hu : ∀ z ∈ su, 0 ≤ z.1.kind ∧ z.1.sn = 0) (hv' : ∀ z ∈ sv, 0 ≤ z.1.kind ∧ z.1.sn = 0) (ht : x.tn ≤ 1000) (hsn : x.sn ≤ 1000) (hts : ∀ z ∈ su, z.1.tn ≤ 1000) : Calls Try.prog 32 #[cmV x, cmV y] w (YesB true w) := by
  have hl : su.length = sv.length := by have := congrArg List.length hss; simpa using this
  refine rsame_eq h h' hk hv hl ht hsn fun j h1 h2 W hW => ?_
  have m1 := List.getElem_mem h1
  have m2 := List.getElem_mem h2
  have e : absS su[j] = absS sv[j] := by
    have := List.getElem_of_eq hss (i := j) (by simpa using h1)
    simpa using this
  unfold absS at e
  have e1 := congrArg Prod.fst e
  have e2 := congrArg Prod.snd e
  simp only at e1 e2
  have a1 := hu _ m1
  have a2 := hv' _ m2
  exact rsame_eq (cm1_flat ((h.each _ m1).below hW) a1.2) (cm1_flat ((h'.each _ m2).below hW) a2.2) (by omega) e2 rfl (hts _ m1) (by omega) (fun j h1 => absurd h1 (by simp))
theorem tags_le {x : CmW} {tags : List (List UInt8)} {kind : Nat} (h : CmS x) (hf : (fieldsC kind).ok (x.vals tags)) : tags.length ≤ 8 := by
  have h1 := all_range ((fields_ok h kind).2 hf) (k := 11) (by decide)
  have h2 : fOk kind 11 (.texts tags) = true := h1
  unfold fOk at h2
  split at h2
  · unfold Fv.right at h2
    simp only [Bool.and_eq_true, decide_eq_true_eq] at h2
    exact h2.1
  · unfold Fv.empty at h2
    have : tags = [] := by simpa using h2
    rw [this]
    decide
/-- What is right is no longer than it may be. -/
theorem ok_small {w : World} {x : CmW} {tags : List (List UInt8)} {subs : List Sub} (h : Cm1 w x tags subs) (hok : cmdC.ok ((x.kind.toNat, x.vals tags), subs.map absS)) : x.tn ≤ 1000 ∧ x.sn ≤ 1000 ∧ ∀ z ∈ subs, z.1.tn ≤ 1000 := by
  obtain ⟨⟨_, h1⟩, h2⟩ := hok
  have h3 := tags_le h.top.small h1
  have h4 := h.top.len
  have h5 := h.len
  have h6 : (if hasB x.kind.toNat 15 then lstC.ok (subs.map absS) else subs.map absS = []) := h2
  split at h6
  · obtain ⟨h7, h8⟩ := h6
    rw [List.length_map] at h7
    refine ⟨by omega, by omega, fun z hz => ?_⟩
    have h9 : subC.ok (absS z) := h8 _ (List.mem_map_of_mem hz)
    have h10 := tags_le (h.each z hz).small h9.2
    have := (h.each z hz).len
    omega
  · have : subs = [] := by simpa using h6
    subst this
    exact ⟨by omega, by rw [← h5]; decide, fun z hz => by cases hz⟩
set_option maxRecDepth 100000 in
set_option maxHeartbeats 4000000 in
theorem lsame_any (cl : Int) (sq : Nat) (x y : CmW) (w : World) (hS : ∀ W, Below w.heap.size w W → Calls Try.prog 32 #[cmV x, cmV y] W (YesB true W)) : Calls Try.prog 15 #[.agg #[.int .i64 cl, .int .u32 (sq : Int), .int .i64 x.kind, .int .i64 x.node, .int .i64 x.port, .int .i64 x.status, .string ⟨x.id.toArray⟩, .string ⟨x.name.toArray⟩, .string ⟨x.svc.toArray⟩, .string ⟨x.note.toArray⟩, .string ⟨x.key.toArray⟩, .string ⟨x.val.toArray⟩, .string ⟨x.src.toArray⟩, .string ⟨x.dst.toArray⟩, .slice x.tA x.tn x.tc, .bool x.allow, .int .u64 (x.old : Int), .int .u64 (x.ses : Int), .slice x.sA x.sn x.sc], .agg #[.int .i64 cl, .int .u32 (sq : Int), .int .i64 y.kind, .int .i64 y.node, .int .i64 y.port, .int .i64 y.status, .string ⟨y.id.toArray⟩, .string ⟨y.name.toArray⟩, .string ⟨y.svc.toArray⟩, .string ⟨y.note.toArray⟩, .string ⟨y.key.toArray⟩, .string ⟨y.val.toArray⟩, .string ⟨y.src.toArray⟩, .string ⟨y.dst.toArray⟩, .slice y.tA y.tn y.tc, .bool y.allow, .int .u64 (y.old : Int), .int .u64 (y.ses : Int), .slice y.sA y.sn y.sc]] w (YesB true w) := by
  have hb0 : Below w.heap.size w ((w.alloc (.cells #[.int .i64 cl, .int .u32 (sq : Int), .int .i64 x.kind, .int .i64 x.node, .int .i64 x.port, .int .i64 x.status, .string ⟨x.id.toArray⟩, .string ⟨x.name.toArray⟩, .string ⟨x.svc.toArray⟩, .string ⟨x.note.toArray⟩, .string ⟨x.key.toArray⟩, .string ⟨x.val.toArray⟩, .string ⟨x.src.toArray⟩, .string ⟨x.dst.toArray⟩, .slice x.tA x.tn x.tc, .bool x.allow, .int .u64 (x.old : Int), .int .u64 (x.ses : Int), .slice x.sA x.sn x.sc] TOr)).alloc (.cells #[.int .i64 cl, .int .u32 (sq : Int), .int .i64 y.kind, .int .i64 y.node, .int .i64 y.port, .int .i64 y.status, .string ⟨y.id.toArray⟩, .string ⟨y.name.toArray⟩, .string ⟨y.svc.toArray⟩, .string ⟨y.note.toArray⟩, .string ⟨y.key.toArray⟩, .string ⟨y.val.toArray⟩, .string ⟨y.src.toArray⟩, .string ⟨y.dst.toArray⟩, .slice y.tA y.tn y.tc, .bool y.allow, .int .u64 (y.old : Int), .int .u64 (y.ses : Int), .slice y.sA y.sn y.sc] TOr)) := ((Below.refl _ w).alloc (Nat.le_refl _) _).alloc (by simp) _
  have HB := Lib.hid hb0
  have CS := Lib.hid (hS _ hb0)
  have h1 : World.rangeAt ((w.alloc (.cells #[.int .i64 cl, .int .u32 (sq : Int), .int .i64 x.kind, .int .i64 x.node, .int .i64 x.port, .int .i64 x.status, .string ⟨x.id.toArray⟩, .string ⟨x.name.toArray⟩, .string ⟨x.svc.toArray⟩, .string ⟨x.note.toArray⟩, .string ⟨x.key.toArray⟩, .string ⟨x.val.toArray⟩, .string ⟨x.src.toArray⟩, .string ⟨x.dst.toArray⟩, .slice x.tA x.tn x.tc, .bool x.allow, .int .u64 (x.old : Int), .int .u64 (x.ses : Int), .slice x.sA x.sn x.sc] TOr)).alloc (.cells #[.int .i64 cl, .int .u32 (sq : Int), .int .i64 y.kind, .int .i64 y.node, .int .i64 y.port, .int .i64 y.status, .string ⟨y.id.toArray⟩, .string ⟨y.name.toArray⟩, .string ⟨y.svc.toArray⟩, .string ⟨y.note.toArray⟩, .string ⟨y.key.toArray⟩, .string ⟨y.val.toArray⟩, .string ⟨y.src.toArray⟩, .string ⟨y.dst.toArray⟩, .slice y.tA y.tn y.tc, .bool y.allow, .int .u64 (y.old : Int), .int .u64 (y.ses : Int), .slice y.sA y.sn y.sc] TOr)) w.heap.size 0 (orC cl sq x) := range_below (or_box w cl sq x) ((Below.refl _ _).alloc (Nat.le_refl _) _) (by simp)
  have h2 : World.rangeAt ((w.alloc (.cells #[.int .i64 cl, .int .u32 (sq : Int), .int .i64 x.kind, .int .i64 x.node, .int .i64 x.port, .int .i64 x.status, .string ⟨x.id.toArray⟩, .string ⟨x.name.toArray⟩, .string ⟨x.svc.toArray⟩, .string ⟨x.note.toArray⟩, .string ⟨x.key.toArray⟩, .string ⟨x.val.toArray⟩, .string ⟨x.src.toArray⟩, .string ⟨x.dst.toArray⟩, .slice x.tA x.tn x.tc, .bool x.allow, .int .u64 (x.old : Int), .int .u64 (x.ses : Int), .slice x.sA x.sn x.sc] TOr)).alloc (.cells #[.int .i64 cl, .int .u32 (sq : Int), .int .i64 y.kind, .int .i64 y.node, .int .i64 y.port, .int .i64 y.status, .string ⟨y.id.toArray⟩, .string ⟨y.name.toArray⟩, .string ⟨y.svc.toArray⟩, .string ⟨y.note.toArray⟩, .string ⟨y.key.toArray⟩, .string ⟨y.val.toArray⟩, .string ⟨y.src.toArray⟩, .string ⟨y.dst.toArray⟩, .slice y.tA y.tn y.tc, .bool y.allow, .int .u64 (y.old : Int), .int .u64 (y.ses : Int), .slice y.sA y.sn y.sc] TOr)) (w.heap.size + 1) 0 (orC cl sq y) := by
    have := or_box (w.alloc (.cells #[.int .i64 cl, .int .u32 (sq : Int), .int .i64 x.kind, .int .i64 x.node, .int .i64 x.port, .int .i64 x.status, .string ⟨x.id.toArray⟩, .string ⟨x.name.toArray⟩, .string ⟨x.svc.toArray⟩, .string ⟨x.note.toArray⟩, .string ⟨x.key.toArray⟩, .string ⟨x.val.toArray⟩, .string ⟨x.src.toArray⟩, .string ⟨x.dst.toArray⟩, .slice x.tA x.tn x.tc, .bool x.allow, .int .u64 (x.old : Int), .int .u64 (x.ses : Int), .slice x.sA x.sn x.sc] TOr)) cl sq y
    rw [show (w.alloc (.cells #[.int .i64 cl, .int .u32 (sq : Int), .int .i64 x.kind, .int .i64 x.node, .int .i64 x.port, .int .i64 x.status, .string ⟨x.id.toArray⟩, .string ⟨x.name.toArray⟩, .string ⟨x.svc.toArray⟩, .string ⟨x.note.toArray⟩, .string ⟨x.key.toArray⟩, .string ⟨x.val.toArray⟩, .string ⟨x.src.toArray⟩, .string ⟨x.dst.toArray⟩, .slice x.tA x.tn x.tc, .bool x.allow, .int .u64 (x.old : Int), .int .u64 (x.ses : Int), .slice x.sA x.sn x.sc] TOr)).heap.size = w.heap.size + 1 by simp] at this
    exact this
  have HI1 := Lib.hid (or_item h1)
  have HI2 := Lib.hid (or_item h2)
  clear h1 h2 hb0 hS
  unfold cmV strV at CS
  go_enter Try.func15, Try.ntmps15
  go_wp2_with (first | (refine wpList_load_mid rfl TCm (.tmp 18) rfl w.heap.size 2 rfl (cmC x) _ HI1.out Try.underlying26 rfl (by kernel_rfl) ?_; unfold cmC strV) | (refine wpList_load_mid rfl TCm (.tmp 20) rfl (w.heap.size + 1) 2 rfl (cmC y) _ HI2.out Try.underlying26 rfl (by kernel_rfl) ?_; unfold cmC strV) | (go_at_call 32; refine CS.out.mono ?_; rintro e w6 ⟨rfl, hb6⟩; have HB6 := Lib.hid (HB.out.trans (hb6.mono HB.out.size)); clear hb6))
  go_ret
  exact ⟨rfl, HB6.out⟩
end Go.Proofs.Ytbhhalkpghcflaa
