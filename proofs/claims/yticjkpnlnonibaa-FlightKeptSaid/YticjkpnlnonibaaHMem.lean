/-
  Layer 7's memory: packets, rows of packets in flight, the program's flight and the document's.
-/
import Derived.Test.YticjkpnlnonibaaHPlain
import Derived.Maps.AppendAt
import Derived.Laws.AppendOwn
namespace Go.Proofs.Yticjkpnlnonibaa
open Go.RowKit

def byteV (c : UInt8) : Value := .int .u8 (c.toNat : Int)
/-- A packet's bytes, where it says. -/
def BodyAt (w : World) (p : Pk) : Prop := RV w p.A p.body.length (p.body.map byteV) ∧ p.body.length ≤ p.c ∧ (p.A = none → p.c = 0) ∧ p.body.length ≤ 140737488351232
theorem BodyAt.but {S : Nat → Prop} {w w' : World} {p : Pk} (h : BodyAt w p) (hb : But S w w') (hs : ∀ b off, p.A = some ⟨b, off, none⟩ → 0 < p.body.length → ¬ S b) : BodyAt w' p := ⟨h.1.but hb hs, h.2⟩
theorem BodyAt.below {w w' : World} {p : Pk} (h : BodyAt w p) (hb : Below w.heap.size w w') : BodyAt w' p := ⟨h.1.below hb, h.2⟩
/-- The packet's bytes lie outside S. -/
def Outs (S : Nat → Prop) (p : Pk) : Prop := ∀ b off, p.A = some ⟨b, off, none⟩ → 0 < p.body.length → ¬ S b
/-- They lie in a block of bytes. -/
def Typed (w : World) (p : Pk) : Prop := 0 < p.body.length → ∃ b off cur, p.A = some ⟨b, off, none⟩ ∧ w.heap[b]? = some (.cells cur 5 (0, 0))
theorem Typed.but {S : Nat → Prop} {w w' : World} {p : Pk} (h : Typed w p) (hb : But S w w') (hs : Outs S p) : Typed w' p := fun hn => by
  obtain ⟨b, off, cur, e, hh⟩ := h hn
  exact ⟨b, off, cur, e, (hb.block b (block_lt hh) (hs b off e hn)).trans hh⟩
theorem Typed.below {w w' : World} {p : Pk} (h : Typed w p) (hb : Below w.heap.size w w') : Typed w' p := h.but (But.of_below (S := fun _ => False) hb) (fun _ _ _ _ h => h)
/-- They lie at or behind k. -/
def Fresh (k : Nat) (p : Pk) : Prop := ∀ b off, p.A = some ⟨b, off, none⟩ → k ≤ b
def pkC (p : Pk) : List Value := [.int .i64 p.fr, .int .i64 p.to, .slice p.A p.body.length p.c]
def pkV (p : Pk) : Value := .agg #[.int .i64 p.fr, .int .i64 p.to, .slice p.A p.body.length p.c]
def itC (x : It) : List Value := [.int .i64 (x.id : Int), .int .i64 x.p.fr, .int .i64 x.p.to, .slice x.p.A x.p.body.length x.p.c]
def itV (x : It) : Value := .agg #[.int .i64 (x.id : Int), .int .i64 x.p.fr, .int .i64 x.p.to, .slice x.p.A x.p.body.length x.p.c]
def itsC (l : List It) : List Value := l.flatMap itC
theorem itsC_length : ∀ l : List It, (itsC l).length = l.length * 4
  | [] => rfl
  | x :: l => by
    have := itsC_length l
    unfold itsC at this ⊢
    rw [List.flatMap_cons, List.length_append, this, List.length_cons]
    simp [itC]
    omega
theorem itsC_append (l m : List It) : itsC (l ++ m) = itsC l ++ itsC m := by simp [itsC]
theorem itsC_one : ∀ (l : List It), ∀ u ∈ itsC l, u.oneCell' = true := fun l u hu => by
  unfold itsC at hu
  obtain ⟨x, _, hx⟩ := List.mem_flatMap.1 hu
  simp only [itC, List.mem_cons, List.not_mem_nil, or_false] at hx
  rcases hx with rfl | rfl | rfl | rfl <;> rfl
theorem itsC_take : ∀ (l : List It) (k : Nat), (itsC l).take (k * 4) = itsC (l.take k)
  | [], k => by simp [itsC]
  | x :: l, 0 => by simp [itsC]
  | x :: l, k + 1 => by
    have := itsC_take l k
    unfold itsC at this ⊢
    rw [List.take_succ_cons, List.flatMap_cons, List.flatMap_cons, ← this, show (k + 1) * 4 = (itC x).length + k * 4 by simp [itC]; omega, List.take_length_add_append]
theorem itsC_drop : ∀ (l : List It) (k : Nat), (itsC l).drop (k * 4) = itsC (l.drop k)
  | [], k => by simp [itsC]
  | x :: l, 0 => by simp [itsC]
  | x :: l, k + 1 => by
    have := itsC_drop l k
    unfold itsC at this ⊢
    rw [List.drop_succ_cons, List.flatMap_cons, ← this, show (k + 1) * 4 = (itC x).length + k * 4 by simp [itC]; omega, List.drop_length_add_append]
theorem itsC_erase (l : List It) (k : Nat) : (itsC l).take (k * 4) ++ (itsC l).drop ((k + 1) * 4) = itsC (l.eraseIdx k) := by
  rw [itsC_take, itsC_drop, ← itsC_append, List.eraseIdx_eq_take_drop_succ]
theorem itsC_at {l : List It} {k : Nat} (hk : k < l.length) (i : Nat) (hi : i < 4) : (itsC l)[k * 4 + i]? = (itC l[k])[i]? := by
  have h1 := itsC_drop l k
  rw [List.drop_eq_getElem_cons hk] at h1
  have h2 : ((itsC l).drop (k * 4))[i]? = (itsC l)[k * 4 + i]? := by rw [List.getElem?_drop]
  rw [← h2, h1, itsC, List.flatMap_cons, List.getElem?_append_left (by simpa [itC] using hi)]
/-- A row of packets in flight that is the call's own. -/
def itRow (w : World) (base : Nat) (v : Value) (l : List It) : Prop := w.ownsRow base 49 4 v l.length (itsC l)
theorem itRow.nil (w : World) (base : Nat) : itRow w base (.slice none 0 0) [] := World.ownsRow_nil _ _ _ _
theorem itRow.zero {w : World} {base : Nat} {v : Value} {l : List It} (h : itRow w base v l) : itRow w 0 v l := bown_base h (Nat.zero_le _)
theorem itRow.but {S : Nat → Prop} {w w' : World} {base : Nat} {v : Value} {l : List It} (h : itRow w base v l) (hb : But S w w') (hs : ∀ b, v.ownBlock = some b → ¬ S b) : itRow w' base v l := own_but h hb hs
theorem itRow.below {w w' : World} {base : Nat} {v : Value} {l : List It} (h : itRow w base v l) (hb : Below w.heap.size w w') : itRow w' base v l := bown_keep h hb
theorem itRow.lt {w : World} {base : Nat} {v : Value} {l : List It} (h : itRow w base v l) {b : Nat} (hb : v.ownBlock = some b) : b < w.heap.size := by
  rcases h.2 with ⟨rfl, _⟩ | ⟨g, cap, cur, rfl, _, hh, _⟩
  · cases hb
  · cases hb; exact block_lt hh
theorem itRow.cells {w : World} {base : Nat} {v : Value} {l : List It} (h : itRow w base v l) {b : Nat} (hb : v.ownBlock = some b) : ∃ cur, w.heap[b]? = some (.cells cur 49 (0, 0)) := by
  rcases h.2 with ⟨rfl, _⟩ | ⟨g, cap, cur, rfl, _, hh, _⟩
  · cases hb
  · cases hb; exact ⟨cur, hh⟩
/-- The form of such a row. -/
theorem itRow.form {w : World} {base : Nat} {v : Value} {l : List It} (h : itRow w base v l) : ∃ A c, v = .slice A l.length c ∧ l.length ≤ c ∧ c ≤ maxLen ∧ (A = none → l = [] ∧ c = 0) ∧ ∀ g off, A = some ⟨g, off, none⟩ → off = 0 ∧ base ≤ g ∧ v.ownBlock = some g := by
  rcases h.2 with ⟨rfl, h0⟩ | ⟨g, cap, cur, rfl, hg, hh, hnc, hm, _⟩
  · rw [h0]
    exact ⟨none, 0, rfl, Nat.le_refl _, Nat.zero_le _, fun _ => ⟨List.eq_nil_of_length_eq_zero h0, rfl⟩, fun _ _ e => by cases e⟩
  · refine ⟨_, cap, rfl, hnc, hm, (fun e => by cases e), fun g' off e => ?_⟩
    cases e
    exact ⟨rfl, hg, rfl⟩
theorem itRow.some_ {w : World} {base : Nat} {v : Value} {l : List It} (h : itRow w base v l) (hl : 0 < l.length) : ∃ g c, v = .slice (some ⟨g, 0, none⟩) l.length c ∧ l.length ≤ c ∧ c ≤ maxLen ∧ base ≤ g ∧ g < w.heap.size := by
  rcases h.2 with ⟨_, h0⟩ | ⟨g, cap, cur, rfl, hg, hh, hnc, hm, _⟩
  · omega
  · exact ⟨g, cap, rfl, hnc, hm, hg, block_lt hh⟩
/-- The cells of packet number k. -/
theorem itRow.at_ {w : World} {base g n c : Nat} {l : List It} (h : itRow w base (.slice (some ⟨g, 0, none⟩) n c) l) {k : Nat} (hk : k < l.length) :
    w.cell? ⟨g, k * 4, none⟩ = some (.int .i64 (l[k].id : Int)) ∧ w.cell? ⟨g, k * 4 + 1, none⟩ = some (.int .i64 l[k].p.fr) ∧ w.cell? ⟨g, k * 4 + 2, none⟩ = some (.int .i64 l[k].p.to) ∧ w.cell? ⟨g, k * 4 + 3, none⟩ = some (.slice l[k].p.A l[k].p.body.length l[k].p.c) := by
  have hc := World.ownsRow.cells h (g := g) rfl
  have key : ∀ i u, i < 4 → (itC l[k])[i]? = some u → w.cell? ⟨g, k * 4 + i, none⟩ = some u := fun i u hi hu => by
    have := hc (k * 4 + i) u (by rw [itsC_at hk i hi]; exact hu)
    rwa [plain_add, Nat.zero_add] at this
  exact ⟨key 0 _ (by decide) rfl, key 1 _ (by decide) rfl, key 2 _ (by decide) rfl, key 3 _ (by decide) rfl⟩
theorem it_info : (Try.prog.info? 49).map (fun i => (i.zero, i.size, i.bytes)) = some (some (.agg #[.int .i64 0, .int .i64 0, .int .i64 0, .slice none 0 0]), 4, 48) := by kernel_rfl
theorem it_zc : (Value.agg #[.int .i64 0, .int .i64 0, .int .i64 0, .slice none 0 0]).cells.size = 4 := by rfl
/-- The blocks of a flight: its own and its row's. -/
def Sof (B : Nat) (v : Value) : Nat → Prop := fun k => k = B ∨ v.ownBlock = some k
/-- The program's flight, behind its pointer. -/
structure FlAt (w : World) (B : Nat) (v : Value) (s : Fl) : Prop where
  blk : w.heap[B]? = some (.cells #[v, .int .i64 (s.most : Int), .int .i64 (s.sent : Int)] 58 (0, 0))
  row : itRow w 0 v s.L
  body : ∀ x ∈ s.L, BodyAt w x.p ∧ Typed w x.p
  ok : s.ok
theorem FlAt.lt {w : World} {B : Nat} {v : Value} {s : Fl} (h : FlAt w B v s) : B < w.heap.size := block_lt h.blk
theorem FlAt.outs {w : World} {B : Nat} {v : Value} {s : Fl} (h : FlAt w B v s) {x : It} (hx : x ∈ s.L) : Outs (Sof B v) x.p := fun b off e hn hs => by
  obtain ⟨b', off', cur, e', hh⟩ := (h.body x hx).2 hn
  rw [e] at e'
  simp only [Option.some.injEq, Addr.mk.injEq] at e'
  obtain ⟨rfl, _⟩ := e'
  rcases hs with rfl | hs
  · have := h.blk.symm.trans hh
    simp at this
  · obtain ⟨cur', hc⟩ := h.row.cells hs
    have := hc.symm.trans hh
    simp at this
theorem FlAt.rowB {w : World} {B : Nat} {v : Value} {s : Fl} (h : FlAt w B v s) : v.ownBlock ≠ some B := fun e => by
  obtain ⟨cur', hc⟩ := h.row.cells e
  have := hc.symm.trans h.blk
  simp at this
theorem FlAt.but {S : Nat → Prop} {w w' : World} {B : Nat} {v : Value} {s : Fl} (h : FlAt w B v s) (hb : But S w w') (h1 : ¬ S B) (h2 : ∀ b, v.ownBlock = some b → ¬ S b) (h3 : ∀ x ∈ s.L, Outs S x.p) : FlAt w' B v s :=
  ⟨(hb.block B h.lt h1).trans h.blk, h.row.but hb h2, fun x hx => ⟨(h.body x hx).1.but hb (h3 x hx), (h.body x hx).2.but hb (h3 x hx)⟩, h.ok⟩
theorem FlAt.below {w w' : World} {B : Nat} {v : Value} {s : Fl} (h : FlAt w B v s) (hb : Below w.heap.size w w') : FlAt w' B v s :=
  h.but (But.of_below (S := fun _ => False) hb) (fun h => h) (fun _ _ h => h) (fun _ _ _ _ _ _ h => h)
theorem blk_cells {w : World} {B : Nat} {cur : Array Value} {t : TypeId} (h : w.heap[B]? = some (.cells cur t (0, 0))) (i : Nat) (v : Value) (hv : cur[i]? = some v) : w.cell? ⟨B, i, none⟩ = some v := by
  rw [cell_of_row w B i cur t (0, 0) h]
  simpa using hv
theorem FlAt.cells {w : World} {B : Nat} {v : Value} {s : Fl} (h : FlAt w B v s) : w.cell? ⟨B, 0, none⟩ = some v ∧ w.cell? ⟨B, 1, none⟩ = some (.int .i64 (s.most : Int)) ∧ w.cell? ⟨B, 2, none⟩ = some (.int .i64 (s.sent : Int)) :=
  ⟨blk_cells h.blk 0 _ rfl, blk_cells h.blk 1 _ rfl, blk_cells h.blk 2 _ rfl⟩
theorem FlAt.froz {w : World} {B : Nat} {v : Value} {s : Fl} (h : FlAt w B v s) (i : Nat) : w.frozen? ⟨B, i, none⟩ = false := by simp [World.frozen?, h.blk]
/-- The document's flight, its packets' bytes below base, its own blocks not. -/
structure RfAt (base : Nat) (w : World) (B : Nat) (v : Value) (s : Fl) : Prop where
  blk : w.heap[B]? = some (.cells #[v, .int .i64 (s.sent : Int), .int .i64 (s.most : Int)] 62 (0, 0))
  row : itRow w base v s.L
  body : ∀ x ∈ s.L, BodyAt w x.p ∧ Outs (fun k => base ≤ k) x.p
  ge : base ≤ B
  ok : s.ok
theorem RfAt.lt {base : Nat} {w : World} {B : Nat} {v : Value} {s : Fl} (h : RfAt base w B v s) : B < w.heap.size := block_lt h.blk
theorem RfAt.rowB {base : Nat} {w : World} {B : Nat} {v : Value} {s : Fl} (h : RfAt base w B v s) : v.ownBlock ≠ some B := fun e => by
  obtain ⟨cur', hc⟩ := h.row.cells e
  have := hc.symm.trans h.blk
  simp at this
theorem itRow.ge {w : World} {base : Nat} {v : Value} {l : List It} (h : itRow w base v l) {b : Nat} (hb : v.ownBlock = some b) : base ≤ b := by
  rcases h.2 with ⟨rfl, _⟩ | ⟨g, cap, cur, rfl, hg, _⟩
  · cases hb
  · cases hb; exact hg
theorem RfAt.geS {base : Nat} {w : World} {B : Nat} {v : Value} {s : Fl} (h : RfAt base w B v s) {k : Nat} (hk : Sof B v k) : base ≤ k := by
  rcases hk with rfl | hk
  · exact h.ge
  · exact h.row.ge hk
theorem RfAt.but {S : Nat → Prop} {base : Nat} {w w' : World} {B : Nat} {v : Value} {s : Fl} (h : RfAt base w B v s) (hb : But S w w') (h1 : ¬ S B) (h2 : ∀ b, v.ownBlock = some b → ¬ S b) (h3 : ∀ b, S b → base ≤ b) : RfAt base w' B v s :=
  ⟨(hb.block B h.lt h1).trans h.blk, h.row.but hb h2, fun x hx => ⟨(h.body x hx).1.but hb (fun b off e hn hs => (h.body x hx).2 b off e hn (h3 b hs)), (h.body x hx).2⟩, h.ge, h.ok⟩
theorem RfAt.below {base : Nat} {w w' : World} {B : Nat} {v : Value} {s : Fl} (h : RfAt base w B v s) (hb : Below w.heap.size w w') : RfAt base w' B v s :=
  h.but (But.of_below (S := fun _ => False) hb) (fun h => h) (fun _ _ h => h) (fun _ h => h.elim)
theorem RfAt.cells {base : Nat} {w : World} {B : Nat} {v : Value} {s : Fl} (h : RfAt base w B v s) : w.cell? ⟨B, 0, none⟩ = some v ∧ w.cell? ⟨B, 1, none⟩ = some (.int .i64 (s.sent : Int)) ∧ w.cell? ⟨B, 2, none⟩ = some (.int .i64 (s.most : Int)) :=
  ⟨blk_cells h.blk 0 _ rfl, blk_cells h.blk 1 _ rfl, blk_cells h.blk 2 _ rfl⟩
theorem RfAt.froz {base : Nat} {w : World} {B : Nat} {v : Value} {s : Fl} (h : RfAt base w B v s) (i : Nat) : w.frozen? ⟨B, i, none⟩ = false := by simp [World.frozen?, h.blk]
end Go.Proofs.Yticjkpnlnonibaa
