/-
  What a round of CloseNode keeps (layer 18).
-/
import Derived.Test.YtnobpbbedclbkaaZj36
import Derived.Test.YtnobpbbedclbkaaZj35
import Derived.Test.YtnobpbbedclbkaaZj39
namespace Go.Proofs.Ytnobpbbedclbkaa
open Go.RowKit Go.Shelf Go.Rel
set_option linter.unusedSimpArgs false
set_option linter.unusedVariables false

section
variable {α : Type} {enc : Rw α → List Value} {k : Nat} {T : TypeId} {S D : Nat → Prop} {w w' : World} {B Bt : Nat} {A : Option Addr} {c : Nat}
theorem PtIs.kpD {t : Tb α} (h0 : ∀ r, 0 < (enc r).length) (h : PtIs enc k T S w B A c t) (hD : ∀ j, S j → ¬ D j) (hk : KpD D w w') : PtIs enc k T S w' B A c t :=
  ⟨h.mine, hk.2 B _ (hD B h.mine) h.blk rfl, h.row.kpD h0 (fun j ⟨off, e, hn⟩ => hD j (h.own j off e hn).1) hk, h.own, h.le, h.max, h.at0⟩
theorem PtAt.kpD {t : Tb α} (h0 : ∀ r, 0 < (enc r).length) (h : PtAt enc k T S w B t) (hD : ∀ j, S j → ¬ D j) (hk : KpD D w w') : PtAt enc k T S w' B t := by
  obtain ⟨h1, A, c, h2⟩ := h
  exact ⟨h1, A, c, h2.kpD h0 hD hk⟩
theorem SAt.kpD {t : Sm} (h : SAt S w B Bt t) (hD : ∀ j, S j → ¬ D j) (hk : KpD D w w') : SAt S w' B Bt t := by
  obtain ⟨T, h1, h2⟩ := h.tab
  exact ⟨h.mine, hk.2 B _ (hD B h.mine) h.ptr rfl, T, h1, h2.kpD (fun r => by rw [Sx.trC_len]; decide) (fun j z => hD j z.1) hk⟩
theorem kpD_refl (D : Nat → Prop) (w : World) : KpD D w w := ⟨Nat.le_refl _, fun _ _ _ h _ => h⟩
theorem keepsFrom_but {g : Nat} (hb : But S w w') (hS : ∀ j o, S j → g ≤ j → w.heap[j]? = some o → o.isCells = true) : KeepsFrom g w w' :=
  ⟨hb.size, fun j o hj hk hc => (hb.block j (block_lt hk) (fun e => by rw [hS j o e hj hk] at hc; cases hc)).trans hk⟩
end
/-- What a round keeps: the list of numbers in its box, the sessions behind those that were closed, and that nothing else of what was there has changed. -/
structure Cn (B Bt X7 : Nat) (S0 : Nat → Prop) (W2 : World) (t : Sm) (node : Int) (i : Nat) (pre : List (Rw Int)) (W : World) : Prop where
  ex : ∃ v Sy, Boxed W X7 38 v ∧ nuRow W W2.heap.size v (idsS (pre.map snR) node) ∧ SAt Sy W B Bt (t.closesS i (idsS (pre.map snR) node)) ∧ (∀ k, Sy k → k < W.heap.size ∧ (S0 k ∨ W2.heap.size ≤ k)) ∧ ∀ b, v.ownBlock = some b → ¬ Sy b
  but : But (fun k => k = Bt ∨ k = X7) W2 W
section
variable {B Bt X7 : Nat} {S0 : Nat → Prop} {W2 W : World} {t : Sm} {node : Int} {i : Nat} {pre : List (Rw Int)} {x : Rw Int}
theorem Cn.start (hv : Boxed W2 X7 38 (.slice none 0 0)) (h : SAt S0 W2 B Bt t) (hS : ∀ k, S0 k → k < W2.heap.size) : Cn B Bt X7 S0 W2 t node i [] W2 :=
  ⟨⟨_, S0, hv, rowK.nil _ _, h, fun k hk => ⟨hS k hk, .inl hk⟩, (fun b e => by cases e)⟩, But.refl _ _⟩
theorem Cn.own (h7 : X7 < W2.heap.size) : OwnFrom W2.heap.size (Cn B Bt X7 S0 W2 t node i) := by
  rintro pre W W' row ⟨⟨v, Sy, h1, h2, h3, h4, h5⟩, hb⟩ hg hr
  refine ⟨⟨v, Sy, ?_, ?_, ?_, fun k hk => ⟨Nat.lt_of_lt_of_le (h4 k hk).1 hg.size, (h4 k hk).2⟩, h5⟩, hb.then_ (But.of_grown (S := fun k => row = some k) hg fun r e _ => e) fun k e hk => absurd (hr k e).1 (by omega)⟩
  · exact (hg.block X7 (Nat.lt_of_lt_of_le h7 hb.size) (fun e => absurd (hr X7 e.symm).1 (by omega))).trans h1
  · refine own_but h2 (But.of_grown (S := fun k => row = some k) hg fun r e _ => e) fun j hj e => ?_
    obtain ⟨cur, hc⟩ := rowK.cells_ h2 hj
    obtain ⟨_, o, ho, hoc⟩ := hr j e
    rw [hc] at ho
    cases ho
    cases hoc
  · exact h3.kpD (D := fun _ => False) (fun _ _ z => z) (kpD_grown (kpD_refl _ _) hg fun r e => (hr r e).2)
theorem ids_snoc : idsS ((pre ++ [x]).map snR) node = idsS (pre.map snR) node ++ (if x.val = node then [x.made] else []) := by
  unfold idsS
  rw [List.map_append, List.filter_append, List.map_append]
  by_cases h : x.val = node
  · rw [if_pos h, List.map_cons, List.filter_cons_of_pos (by simp [snOf, h])]; rfl
  · rw [if_neg h, List.map_cons, List.filter_cons_of_neg (by simp [snOf, h])]; rfl
theorem Cn.skip (h : Cn B Bt X7 S0 W2 t node i pre W) (hx : x.val ≠ node) : Cn B Bt X7 S0 W2 t node i (pre ++ [x]) W := by
  have e : idsS ((pre ++ [x]).map snR) node = idsS (pre.map snR) node := by rw [ids_snoc, if_neg hx, List.append_nil]
  obtain ⟨h1, h2⟩ := h
  rw [← e] at h1
  exact ⟨h1, h2⟩
/-- A session was closed, and its number laid behind the others. -/
theorem Cn.step {v v' : Value} {Sy : Nat → Prop} {w3 w5 : World} {o : Obj} (hx : x.val = node) (h7 : X7 < W2.heap.size) (h70 : ¬ S0 X7) (hB : Bt < W2.heap.size) (hB7 : Bt ≠ X7)
    (hb : But (fun k => k = Bt ∨ k = X7) W2 W) (h1 : Boxed W X7 38 v) (h2 : nuRow W W2.heap.size v (idsS (pre.map snR) node)) (h4 : ∀ k, Sy k → k < W.heap.size ∧ (S0 k ∨ W2.heap.size ≤ k)) (h5 : ∀ b, v.ownBlock = some b → ¬ Sy b)
    (h3 : SAt (fun k => (Sy k ∨ W.heap.size ≤ k) ∧ k < w3.heap.size) w3 B Bt ((t.closesS i (idsS (pre.map snR) node)).closeS x.made i).2) (hb3 : But (· = Bt) W w3)
    (hown : nuRow w5 W2.heap.size v' (idsS (pre.map snR) node ++ [x.made])) (hg : (w3.alloc o).grownBy w5 v.ownBlock) (hw : v'.ownBlock = v.ownBlock ∨ v'.ownBlock = some (w3.alloc o).heap.size) :
    But (fun k => k = Bt ∨ v.ownBlock = some k ∨ k = X7) W (w5.setCell ⟨X7, 0, none⟩ v') ∧ Boxed w5 X7 38 v ∧ Cn B Bt X7 S0 W2 t node i (pre ++ [x]) (w5.setCell ⟨X7, 0, none⟩ v') := by
  have hz := hb.size
  have hz3 := hb3.size
  have hfrom : ∀ b, v.ownBlock = some b → W2.heap.size ≤ b ∧ b < W.heap.size := fun b e => rowK.from h2 b e
  have hsz : (w3.alloc o).heap.size = w3.heap.size + 1 := by simp
  have hba : But (fun k => v.ownBlock = some k) w3 w5 := (But.of_below (show Below w3.heap.size w3 (w3.alloc o) from (Below.refl _ _).alloc (Nat.le_refl _) _)).trans (But.of_grown hg fun r e _ => e)
  have hb5 : But (fun k => k = Bt ∨ v.ownBlock = some k ∨ k = X7) W w5 := (hb3.mono fun k e => .inl e).then_ hba fun k e _ => .inr (.inl e)
  have hv5 : Boxed w5 X7 38 v := by
    have h6 : Boxed w3 X7 38 v := (hb3.block X7 (by omega) (fun e => hB7 e.symm)).trans h1
    exact (hba.block X7 (by omega) (fun e => absurd (hfrom X7 e).1 (by omega))).trans h6
  have hset : But (· = X7) w5 (w5.setCell ⟨X7, 0, none⟩ v') := But.set (S := (· = X7)) w5 (p := ⟨X7, 0, none⟩) rfl v'
  have hfrom' : ∀ b, v'.ownBlock = some b → W2.heap.size ≤ b := fun b e => (rowK.from hown b e).1
  refine ⟨hb5.then_ hset fun k e _ => .inr (.inr e), hv5, ⟨v', fun k => (Sy k ∨ W.heap.size ≤ k) ∧ k < w3.heap.size, ?_, ?_, ?_, ?_, ?_⟩, ?_⟩
  · exact block_set hv5 0 v'
  · rw [ids_snoc, if_pos hx]
    exact own_but hown hset fun j hj e => absurd (hfrom' j hj) (by have : j = X7 := e; omega)
  · rw [ids_snoc, if_pos hx, closes_snoc]
    refine (h3.but hba fun k e z => ?_).but hset fun k e z => ?_
    · rcases z.1 with z | z
      · exact h5 k e z
      · exact absurd (hfrom k e).2 (by omega)
    · have e : k = X7 := e
      subst e
      rcases z.1 with z | z
      · rcases (h4 _ z).2 with z | z
        · exact h70 z
        · omega
      · omega
  · intro k hk
    have := hba.size
    have := hset.size
    refine ⟨by omega, ?_⟩
    rcases hk.1 with z | z
    · exact (h4 k z).2
    · exact .inr (by omega)
  · intro b e hk
    rcases hw with hw | hw
    · rw [hw] at e
      rcases hk.1 with z | z
      · exact h5 b e z
      · exact absurd (hfrom b e).2 (by omega)
    · rw [hw] at e
      simp only [Option.some.injEq] at e
      have := hk.2
      omega
  · refine (hb.then_ hb5 fun k e hk => ?_).then_ hset fun k e _ => .inr e
    rcases e with e | e | e
    · exact .inl e
    · exact absurd (hfrom k e).1 (by omega)
    · exact .inr e
end
end Go.Proofs.Ytnobpbbedclbkaa
