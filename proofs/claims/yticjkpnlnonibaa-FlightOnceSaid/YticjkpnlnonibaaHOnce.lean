/-
  The packets that were sent, in a row; the program's flight beside it (layer 7).
-/
import Derived.Test.YticjkpnlnonibaaHStep
import Derived.Test.YticjkpnlnonibaaHFrame
namespace Go.Proofs.Yticjkpnlnonibaa
open Go.RowKit
set_option linter.unusedSimpArgs false
set_option linter.unusedVariables false
set_option linter.unusedSectionVars false

abbrev TP : TypeId := 30
theorem pk_info : (Try.prog.info? 30).map (fun i => (i.zero, i.size, i.bytes)) = some (some (.agg #[.int .i64 0, .int .i64 0, .slice none 0 0]), 3, 40) := by kernel_rfl
theorem pk_zc : (Value.agg #[.int .i64 0, .int .i64 0, .slice none 0 0]).cells.size = 3 := by rfl
def pksC (l : List Pk) : List Value := l.flatMap pkC
theorem pksC_length : ∀ l : List Pk, (pksC l).length = l.length * 3
  | [] => rfl
  | x :: l => by
    have := pksC_length l
    unfold pksC at this ⊢
    rw [List.flatMap_cons, List.length_append, this, List.length_cons]
    simp [pkC]
    omega
theorem pksC_drop : ∀ (l : List Pk) (k : Nat), (pksC l).drop (k * 3) = pksC (l.drop k)
  | [], k => by simp [pksC]
  | x :: l, 0 => by simp [pksC]
  | x :: l, k + 1 => by
    have := pksC_drop l k
    unfold pksC at this ⊢
    rw [List.drop_succ_cons, List.flatMap_cons, ← this, show (k + 1) * 3 = (pkC x).length + k * 3 by simp [pkC]; omega, List.drop_length_add_append]
theorem pksC_at {l : List Pk} {k : Nat} (hk : k < l.length) (i : Nat) (hi : i < 3) : (pksC l)[k * 3 + i]? = (pkC l[k])[i]? := by
  have h1 := pksC_drop l k
  rw [List.drop_eq_getElem_cons hk] at h1
  have h2 : ((pksC l).drop (k * 3))[i]? = (pksC l)[k * 3 + i]? := by rw [List.getElem?_drop]
  rw [← h2, h1, pksC, List.flatMap_cons, List.getElem?_append_left (by simpa [pkC] using hi)]
def pkRow (w : World) (base : Nat) (v : Value) (l : List Pk) : Prop := w.ownsRow base TP 3 v l.length (pksC l)
theorem pkRow.nil (w : World) (base : Nat) : pkRow w base (.slice none 0 0) [] := World.ownsRow_nil _ _ _ _
theorem pkRow.but {S : Nat → Prop} {w w' : World} {base : Nat} {v : Value} {l : List Pk} (h : pkRow w base v l) (hb : But S w w') (hs : ∀ b, v.ownBlock = some b → ¬ S b) : pkRow w' base v l := own_but h hb hs
theorem pkRow.below {w w' : World} {base : Nat} {v : Value} {l : List Pk} (h : pkRow w base v l) (hb : Below w.heap.size w w') : pkRow w' base v l := bown_keep h hb
theorem pkRow.cells {w : World} {base : Nat} {v : Value} {l : List Pk} (h : pkRow w base v l) {b : Nat} (hb : v.ownBlock = some b) : ∃ cur, w.heap[b]? = some (.cells cur TP (0, 0)) := by
  rcases h.2 with ⟨rfl, _⟩ | ⟨g, cap, cur, rfl, _, hh, _⟩
  · cases hb
  · cases hb; exact ⟨cur, hh⟩
theorem pkRow.form {w : World} {base : Nat} {v : Value} {l : List Pk} (h : pkRow w base v l) : ∃ A c, v = .slice A l.length c := by
  obtain ⟨A, c, e⟩ := own_lens h
  exact ⟨A, c, e⟩
theorem pkRow.some_ {w : World} {base : Nat} {v : Value} {l : List Pk} (h : pkRow w base v l) (hl : 0 < l.length) : ∃ g c, v = .slice (some ⟨g, 0, none⟩) l.length c := by
  rcases h.2 with ⟨_, h0⟩ | ⟨g, cap, cur, rfl, _⟩
  · omega
  · exact ⟨g, cap, rfl⟩
theorem pkRow.at_ {w : World} {base g n c : Nat} {l : List Pk} (h : pkRow w base (.slice (some ⟨g, 0, none⟩) n c) l) {k : Nat} (hk : k < l.length) :
    w.cell? ⟨g, k * 3, none⟩ = some (.int .i64 l[k].fr) ∧ w.cell? ⟨g, k * 3 + 1, none⟩ = some (.int .i64 l[k].to) ∧ w.cell? ⟨g, k * 3 + 2, none⟩ = some (.slice l[k].A l[k].body.length l[k].c) := by
  have hc := World.ownsRow.cells h (g := g) rfl
  have key : ∀ i u, i < 3 → (pkC l[k])[i]? = some u → w.cell? ⟨g, k * 3 + i, none⟩ = some u := fun i u hi hu => by
    have := hc (k * 3 + i) u (by rw [pksC_at hk i hi]; exact hu)
    rwa [plain_add, Nat.zero_add] at this
  exact ⟨key 0 _ (by decide) rfl, key 1 _ (by decide) rfl, key 2 _ (by decide) rfl⟩
theorem pkRow.snoc {w : World} {base : Nat} {v : Value} {l : List Pk} {x : Pk} (h : w.ownsRow base TP 3 v (l.length + 1) (pksC l ++ pkC x)) : pkRow w base v (l ++ [x]) := by
  unfold pkRow
  rw [List.length_append, List.length_singleton]
  simpa [pksC] using h
theorem pkC_one (x : Pk) : ∀ u ∈ pkC x, u.oneCell' = true := fun u hu => by
  simp only [pkC, List.mem_cons, List.not_mem_nil, or_false] at hu
  rcases hu with rfl | rfl | rfl <;> rfl
theorem pkC_news {w : World} {X : Nat} {x : Pk} (h : w.heap[X]? = some (.cells #[.int .i64 x.fr, .int .i64 x.to, .slice x.A x.body.length x.c] TP (0, 0))) : ∀ j u, (pkC x)[j]? = some u → w.cell? ((⟨X, 0, none⟩ : Addr).add j) = some u := fun j u hj => by
  obtain ⟨h0, h1, h2⟩ := blk3 h
  rw [plain_add]
  match j, hj with
  | 0, hj => simp only [pkC, List.getElem?_cons_zero, Option.some.injEq] at hj; subst hj; exact h0
  | 1, hj => simp only [pkC, List.getElem?_cons_succ, List.getElem?_cons_zero, Option.some.injEq] at hj; subst hj; exact h1
  | 2, hj => simp only [pkC, List.getElem?_cons_succ, List.getElem?_cons_zero, Option.some.injEq] at hj; subst hj; exact h2
theorem FlAt.notT {w : World} {B : Nat} {v : Value} {s : Fl} (h : FlAt w B v s) {X : Nat} {cur : Array Value} {ty : TypeId} (hx : w.heap[X]? = some (.cells cur ty (0, 0))) (h1 : ty ≠ 58) (h3 : ty ≠ TF) : ¬ Sof B v X := fun e => by
  rcases e with rfl | e
  · have := h.blk.symm.trans hx
    simp only [Option.some.injEq, Obj.cells.injEq] at this
    exact h1 this.2.1.symm
  · obtain ⟨c, hc⟩ := h.row.cells e
    have := hc.symm.trans hx
    simp only [Option.some.injEq, Obj.cells.injEq] at this
    exact h3 this.2.1.symm
/-- What a call leaves of the flight. -/
def Moved (w : World) (B : Nat) (v : Value) (s1 : Fl) (w' : World) : Prop := ∃ v' s', FlAt w' B v' s' ∧ s'.same s1 ∧ But (Sof B v) w w' ∧ ∀ b, v'.ownBlock = some b → v.ownBlock = some b ∨ w.heap.size ≤ b
theorem Moved.stay {w w' : World} {B : Nat} {v : Value} {s : Fl} (h : FlAt w B v s) (hb : Below w.heap.size w w') : Moved w B v s w' := ⟨v, s, h.below hb, .refl s, But.of_below hb, fun b e => .inl e⟩
theorem Moved.flown {w w' : World} {B : Nat} {v : Value} {s : Fl} {p : Pk} (hF : Flown w B v s p w') : Moved w B v (s.fly p) w' := by
  obtain ⟨A, c, v', h1, h2, h3, h4⟩ := hF
  exact ⟨v', _, h1, (Fl.same.refl s).fly rfl, h3, h4⟩
theorem Moved.gone {w w' : World} {B : Nat} {v : Value} {s1 : Fl} (hF : Gone w B v s1 w') : Moved w B v s1 w' := by
  obtain ⟨⟨v', h1, h2⟩, h3⟩ := hF
  exact ⟨v', _, h1, .refl s1, h3, fun b e => .inl (by rw [← h2]; exact e)⟩
section
variable {w : World} {B : Nat} {v : Value} {s : Fl} (h : FlAt w B v s)
include h
theorem fl_send (p : Pk) (hp : BodyAt w p) (ho : Outs (Sof B v) p) (hs : s.sent < 1099511627775) :
    Calls Try.prog 12 #[.pointer (some ⟨B, 0, none⟩), .agg #[.int .i64 p.fr, .int .i64 p.to, .slice p.A p.body.length p.c]] w fun e w' => e = .returned (.tuple #[.int .i64 (s.num (s.may p)), .bool (s.may p)]) ∧ Moved w B v (s.send p) w' := by
  refine (send_any w B v s p h hp ho hs (s.may p) rfl).mono ?_
  rintro e w' ⟨h1, h2⟩
  unfold Fl.send Fl.num
  cases hr : s.may p with
  | true =>
    obtain ⟨rfl, hF⟩ := h1 hr
    exact ⟨rfl, Moved.flown hF⟩
  | false =>
    obtain ⟨rfl, hF⟩ := h2 hr
    exact ⟨rfl, Moved.stay h hF⟩
theorem fl_deliver (n : Int) :
    Calls Try.prog 14 #[.pointer (some ⟨B, 0, none⟩), .int .i64 n] w fun e w' => e = .returned (.tuple #[pkV (s.pick n).p, .bool s.any]) ∧ Moved w B v (s.out n) w' := by
  unfold Fl.any
  rcases Nat.eq_zero_or_pos s.L.length with h0 | h0
  · rw [Fl.pick_nil h0, Fl.out_nil h0, decide_eq_false (by omega)]
    exact (deliver_none w B v s h n h0).mono (fun e w' ⟨he, hF⟩ => ⟨he, Moved.stay h hF⟩)
  · have hk := pickOf_lt h0 n
    rw [Fl.pick_at hk, decide_eq_true h0]
    exact (deliver_some w B v s h n h0 hk).mono (fun e w' ⟨he, hF⟩ => ⟨he, Moved.gone hF⟩)
theorem fl_drop (n : Int) :
    Calls Try.prog 16 #[.pointer (some ⟨B, 0, none⟩), .int .i64 n] w fun e w' => e = .returned (.tuple #[.int .i64 ((s.pick n).id : Int), .bool s.any]) ∧ Moved w B v (s.out n) w' := by
  unfold Fl.any
  rcases Nat.eq_zero_or_pos s.L.length with h0 | h0
  · rw [Fl.pick_nil h0, Fl.out_nil h0, decide_eq_false (by omega)]
    exact (drop_none w B v s h n h0).mono (fun e w' ⟨he, hF⟩ => ⟨he, Moved.stay h hF⟩)
  · have hk := pickOf_lt h0 n
    rw [Fl.pick_at hk, decide_eq_true h0]
    exact (drop_some w B v s h n h0 hk).mono (fun e w' ⟨he, hF⟩ => ⟨he, Moved.gone hF⟩)
theorem fl_copy (n : Int) (hs : s.sent < 1099511627775) :
    Calls Try.prog 17 #[.pointer (some ⟨B, 0, none⟩), .int .i64 n] w fun e w' => e = .returned (.tuple #[.int .i64 (s.num (!s.full && s.any)), .bool (!s.full && s.any)]) ∧ Moved w B v (s.copy n) w' := by
  unfold Fl.copy Fl.num
  cases hf : s.full with
  | true => exact (copy_none w B v s h n (.inl hf)).mono (fun e w' ⟨he, hF⟩ => ⟨he, Moved.stay h hF⟩)
  | false =>
    unfold Fl.any
    rcases Nat.eq_zero_or_pos s.L.length with h0 | h0
    · rw [decide_eq_false (by omega)]
      exact (copy_none w B v s h n (.inr h0)).mono (fun e w' ⟨he, hF⟩ => ⟨he, Moved.stay h hF⟩)
    · have hk := pickOf_lt h0 n
      rw [decide_eq_true h0, Fl.pick_at hk]
      exact (copy_some w B v s h n hs hf h0 hk).mono (fun e w' ⟨he, hF⟩ => ⟨he, Moved.flown hF⟩)
theorem fl_lose (to : Int) :
    Calls Try.prog 18 #[.pointer (some ⟨B, 0, none⟩), .int .i64 to] w fun e w' => e = .returned (.int .i64 ((s.L.length : Int) - ((s.lose to).L.length : Int))) ∧ Moved w B v (s.lose to) w' :=
  (losetop_any w B v s h to).mono (fun e w' ⟨he, hF⟩ => ⟨he, Moved.gone hF⟩)
end
/-- What is in flight was sent. -/
def FromL (pl : List Pk) (s : Fl) : Prop := ∀ q ∈ s.L.map It.strip, ∃ p ∈ pl, p.strip = q.2
theorem FromL.same {pl : List Pk} {s t : Fl} (h : FromL pl s) (hst : t.same s) : FromL pl t := fun q hq => h q (by rw [← hst.L]; exact hq)
theorem FromL.sub {pl : List Pk} {s t : Fl} (h : FromL pl s) (hs : ∀ x ∈ t.L, x ∈ s.L) : FromL pl t := fun q hq => by
  obtain ⟨x, hx, rfl⟩ := List.mem_map.1 hq
  exact h _ (List.mem_map.2 ⟨x, hs x hx, rfl⟩)
theorem FromL.out {pl : List Pk} {s : Fl} (h : FromL pl s) (n : Int) : FromL pl (s.out n) := h.sub (fun x hx => Fl.out_mem hx)
theorem FromL.lose {pl : List Pk} {s : Fl} (h : FromL pl s) (n : Int) : FromL pl (s.lose n) := h.sub (fun x hx => (List.mem_filter.1 hx).1)
theorem FromL.fly {pl pl' : List Pk} {s : Fl} (h : FromL pl s) (hs : ∀ p ∈ pl, p ∈ pl') {p q : Pk} (hq : q ∈ pl') (hpq : q.strip = p.strip) : FromL pl' (s.fly p) := fun z hz => by
  unfold Fl.fly at hz
  rw [List.map_append] at hz
  rcases List.mem_append.1 hz with hz | hz
  · obtain ⟨u, hu, e⟩ := h z hz
    exact ⟨u, hs u hu, e⟩
  · obtain rfl := List.mem_singleton.1 (by simpa using hz)
    exact ⟨q, hq, hpq⟩
theorem FromL.pick {pl : List Pk} {s : Fl} (h : FromL pl s) (n : Int) (ha : s.any = true) : ∃ p ∈ pl, p.strip = (s.pick n).p.strip := by
  unfold Fl.any at ha
  have h0 := of_decide_eq_true ha
  have hk := pickOf_lt h0 n
  rw [Fl.pick_at hk]
  exact h (s.L[pickOf s.L.length n].strip) (List.mem_map.2 ⟨_, List.getElem_mem hk, rfl⟩)
theorem FromL.copy {pl : List Pk} {s : Fl} (h : FromL pl s) (n : Int) : FromL pl (s.copy n) := by
  unfold Fl.copy
  cases hr : (!s.full && s.any) with
  | true =>
    simp only [Bool.and_eq_true] at hr
    obtain ⟨p, hp, e⟩ := h.pick n hr.2
    exact h.fly (fun _ h => h) hp e
  | false => exact h
/-- Numbers given: taken out, or in flight. -/
def Cnt (o : Nat) (s : Fl) : Prop := o + s.L.length = s.sent
theorem Cnt.same {o : Nat} {s t : Fl} (h : Cnt o s) (hst : t.same s) : Cnt o t := by unfold Cnt at *; rw [hst.len, hst.sent]; exact h
theorem Cnt.fly {o : Nat} {s : Fl} (h : Cnt o s) (p : Pk) : Cnt o (s.fly p) := by
  unfold Cnt Fl.fly at *
  simp only [List.length_append, List.length_singleton]
  omega
theorem Cnt.out {o : Nat} {s : Fl} (h : Cnt o s) (n : Int) : Cnt (o + (if s.any then 1 else 0)) (s.out n) := by
  unfold Cnt Fl.any Fl.out at *
  rcases Nat.eq_zero_or_pos s.L.length with h0 | h0
  · rw [decide_eq_false (by omega)]
    rw [List.eq_nil_of_length_eq_zero h0] at h ⊢
    simpa using h
  · rw [decide_eq_true h0]
    have := pickOf_lt h0 n
    simp only [List.length_eraseIdx, if_pos this, if_true]
    omega
theorem Cnt.lose {o : Nat} {s : Fl} (h : Cnt o s) (n : Int) : Cnt (o + (s.L.length - (s.lose n).L.length)) (s.lose n) ∧ (s.lose n).L.length ≤ s.L.length := by
  have h1 : (s.lose n).L.length ≤ s.L.length := List.length_filter_le _ _
  unfold Cnt at *
  rw [Fl.lose_sent]
  omega
theorem Cnt.copy {o : Nat} {s : Fl} (h : Cnt o s) (n : Int) : Cnt o (s.copy n) := by
  unfold Fl.copy
  split
  · exact h.fly _
  · exact h
/-- The law's state. -/
structure On (base : Nat) (w : World) (B : Nat) (v : Value) (s : Fl) (sv : Value) (pl : List Pk) : Prop where
  fl : FlAt w B v s
  geB : base ≤ B
  geV : ∀ b, v.ownBlock = some b → base ≤ b
  row : pkRow w base sv pl
  body : ∀ p ∈ pl, BodyAt w p ∧ Outs (fun k => base ≤ k) p
section
variable {base : Nat} {w w' : World} {B : Nat} {v v' : Value} {s s' : Fl} {sv : Value} {pl : List Pk}
theorem On.geS (h : On base w B v s sv pl) {k : Nat} (hk : Sof B v k) : base ≤ k := by
  rcases hk with rfl | hk
  · exact h.geB
  · exact h.geV k hk
theorem On.baseW (h : On base w B v s sv pl) : base ≤ w.heap.size := Nat.le_trans h.geB (Nat.le_of_lt h.fl.lt)
theorem On.left (h : On base w B v s sv pl) (hf : FlAt w' B v' s') (hb : But (Sof B v) w w') (hl : ∀ b, v'.ownBlock = some b → v.ownBlock = some b ∨ w.heap.size ≤ b) : On base w' B v' s' sv pl :=
  ⟨hf, h.geB, fun b e => (hl b e).elim (h.geV b) (fun h1 => Nat.le_trans h.baseW h1), h.row.but hb (fun b e hs => by
    obtain ⟨cur, hc⟩ := h.row.cells e
    exact h.fl.notT hc (by decide) (by decide) hs), fun p hp => ⟨(h.body p hp).1.but hb (fun b off e hn hs => (h.body p hp).2 b off e hn (h.geS hs)), (h.body p hp).2⟩⟩
theorem On.below (h : On base w B v s sv pl) (hb : Below w.heap.size w w') : On base w' B v s sv pl :=
  ⟨h.fl.below hb, h.geB, h.geV, h.row.below hb, fun p hp => ⟨(h.body p hp).1.below hb, (h.body p hp).2⟩⟩
theorem On.butS (h : On base w B v s sv pl) (hb : But (Sof B v) w w') : But (fun k => base ≤ k) w w' := hb.mono (fun k hk => h.geS hk)
end
end Go.Proofs.Yticjkpnlnonibaa
