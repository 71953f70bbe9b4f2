/-
  An update, a slice of them, and a row of the call's own, in memory (layer 8).
-/
import Derived.Test.YtphkaohcfgmmkaaRkPlain
import Derived.Test.YtphkaohcfgmmkaaRelMore
import Derived.Test.YtphkaohcfgmmkaaRelH
namespace Go.Proofs.Ytphkaohcfgmmkaa
open Go.RowKit
def okUp (s : Up) : Prop := (-9223372036854775808 ≤ s.node ∧ s.node ≤ 9223372036854775807) ∧ (s.inc < 4294967296) ∧ (-9223372036854775808 ≤ s.st ∧ s.st ≤ 9223372036854775807)
/-- It lies at ⟨b, o⟩. -/
def UpAt (w : World) (b o : Nat) (x : Up) : Prop := w.cell? ⟨b, o, none⟩ = some (.int .i64 x.node) ∧ w.cell? ⟨b, o + 1, none⟩ = some (.int .u32 (x.inc : Int)) ∧ w.cell? ⟨b, o + 2, none⟩ = some (.int .i64 x.st)
/-- The slice value '.slice A n c' reads as the steps ss. -/
def SUp (w : World) (A : Option Addr) (n : Nat) (ss : List Up) : Prop :=
  ss.length = n ∧ (0 < n → ∃ b off, A = some ⟨b, off, none⟩ ∧ b < w.heap.size ∧ ∀ j (h : j < ss.length), UpAt w b (off + j * 3) ss[j])
theorem SUp.zero (w : World) (A : Option Addr) : SUp w A 0 [] := ⟨rfl, fun h => absurd h (by omega)⟩
theorem UpAt.of_block {w w' : World} {b o : Nat} {x : Up} (h : UpAt w b o x) (hb : w'.heap[b]? = w.heap[b]?) : UpAt w' b o x := by
  obtain ⟨h0, h1, h2⟩ := h
  exact ⟨(World.cell?_of_block (a := ⟨b, o, none⟩) hb).trans h0, (World.cell?_of_block (a := ⟨b, o + 1, none⟩) hb).trans h1, (World.cell?_of_block (a := ⟨b, o + 2, none⟩) hb).trans h2⟩

def upC (x : Up) : List Value := [.int .i64 x.node, .int .u32 (x.inc : Int), .int .i64 x.st]
def upV (x : Up) : Value := .agg #[.int .i64 x.node, .int .u32 (x.inc : Int), .int .i64 x.st]
def upsC (l : List Up) : List Value := l.flatMap upC
theorem upsC_length : ∀ l : List Up, (upsC l).length = l.length * 3
  | [] => rfl
  | x :: l => by
    have := upsC_length l
    unfold upsC at this ⊢
    rw [List.flatMap_cons, List.length_append, this, List.length_cons]
    simp [upC]
    omega
theorem upsC_append (l m : List Up) : upsC (l ++ m) = upsC l ++ upsC m := by simp [upsC]
theorem upsC_one : ∀ (l : List Up), ∀ u ∈ upsC l, u.oneCell' = true := fun l u hu => by
  unfold upsC at hu
  obtain ⟨x, _, hx⟩ := List.mem_flatMap.1 hu
  simp only [upC, List.mem_cons, List.not_mem_nil, or_false] at hx
  rcases hx with rfl | rfl | rfl <;> rfl
theorem upsC_drop : ∀ (l : List Up) (k : Nat), (upsC l).drop (k * 3) = upsC (l.drop k)
  | [], k => by simp [upsC]
  | x :: l, 0 => by simp [upsC]
  | x :: l, k + 1 => by
    have := upsC_drop l k
    unfold upsC at this ⊢
    rw [List.drop_succ_cons, List.flatMap_cons, ← this, show (k + 1) * 3 = (upC x).length + k * 3 by simp [upC]; omega, List.drop_length_add_append]
theorem upsC_at {l : List Up} {k : Nat} (hk : k < l.length) (i : Nat) (hi : i < 3) : (upsC l)[k * 3 + i]? = (upC l[k])[i]? := by
  have h1 := upsC_drop l k
  rw [List.drop_eq_getElem_cons hk] at h1
  have h2 : ((upsC l).drop (k * 3))[i]? = (upsC l)[k * 3 + i]? := by rw [List.getElem?_drop]
  rw [← h2, h1, upsC, List.flatMap_cons, List.getElem?_append_left (by simpa [upC] using hi)]
/-- A row of updates that is the call's own. -/
def upRow (w : World) (base : Nat) (v : Value) (l : List Up) : Prop := w.ownsRow base 29 3 v l.length (upsC l)
theorem upRow.nil (w : World) (base : Nat) : upRow w base (.slice none 0 0) [] := World.ownsRow_nil _ _ _ _
theorem upRow.below {w w' : World} {base : Nat} {v : Value} {l : List Up} (h : upRow w base v l) (hb : Below w.heap.size w w') : upRow w' base v l := bown_keep h hb
theorem up_info : (Try.prog.info? 29).map (fun i => (i.zero, i.size, i.bytes)) = some (some (.agg #[.int .i64 0, .int .u32 0, .int .i64 0]), 3, 24) := by kernel_rfl
theorem up_zc : (Value.agg #[.int .i64 0, .int .u32 0, .int .i64 0]).cells.size = 3 := by rfl
theorem SUp.of_block {w w' : World} {A : Option Addr} {n : Nat} {ss : List Up} (h : SUp w A n ss) (hb : Below w.heap.size w w') : SUp w' A n ss :=
  ⟨h.1, fun hn => by
    obtain ⟨b, off, e, hlt, hc⟩ := h.2 hn
    exact ⟨b, off, e, Nat.lt_of_lt_of_le hlt hb.size, fun j hj => (hc j hj).of_block (hb.block b hlt)⟩⟩
theorem SUp.at_ {w : World} {A : Option Addr} {n : Nat} {ss : List Up} (h : SUp w A n ss) {k : Nat} (hk : k < n) (hk' : k < ss.length) : ∃ b off, A = some ⟨b, off, none⟩ ∧ b < w.heap.size ∧ UpAt w b (off + k * 3) ss[k] := by
  obtain ⟨b, off, e, hb, hc⟩ := h.2 (by omega)
  exact ⟨b, off, e, hb, hc k hk'⟩
theorem SUp.take {w : World} {A : Option Addr} {n : Nat} {ss : List Up} (h : SUp w A n ss) {k : Nat} (hk : k ≤ n) : SUp w A k (ss.take k) := by
  have hl := h.1
  refine ⟨by rw [List.length_take]; omega, fun hk0 => ?_⟩
  obtain ⟨b, off, e, hlt, hc⟩ := h.2 (by omega)
  refine ⟨b, off, e, hlt, fun j hj => ?_⟩
  rw [List.length_take] at hj
  rw [List.getElem_take]
  exact hc j (by omega)
/-- A row of the call's own reads as a slice. -/
theorem SUp.of_row {w : World} {base : Nat} {v : Value} {l : List Up} (h : upRow w base v l) : ∃ A c, v = .slice A l.length c ∧ SUp w A l.length l ∧ l.length ≤ c ∧ c ≤ maxLen := by
  have h0 := h
  rcases h.2 with ⟨rfl, h1⟩ | ⟨g, cap, cur, rfl, hg, hh, hnc, hm, hsz, ht⟩
  · rw [h1]
    exact ⟨none, 0, rfl, ⟨h1, fun h => absurd h (Nat.lt_irrefl _)⟩, Nat.le_refl _, Nat.zero_le _⟩
  · refine ⟨some ⟨g, 0, none⟩, cap, rfl, ⟨rfl, fun _ => ⟨g, 0, rfl, block_lt hh, fun j hj => ?_⟩⟩, hnc, hm⟩
    have hc := World.ownsRow.cells h0 (g := g) rfl
    have key : ∀ i u, i < 3 → (upC l[j])[i]? = some u → w.cell? ⟨g, 0 + j * 3 + i, none⟩ = some u := fun i u hi hu => by
      have := hc (j * 3 + i) u (by rw [upsC_at hj i hi]; exact hu)
      rwa [plain_add, ← Nat.add_assoc] at this
    exact ⟨key 0 _ (by decide) rfl, key 1 _ (by decide) rfl, key 2 _ (by decide) rfl⟩
/-- The new block of an update. -/
theorem up_new (w : World) (x : Up) (T : TypeId) : UpAt (w.alloc (.cells #[.int .i64 x.node, .int .u32 (x.inc : Int), .int .i64 x.st] T)) w.heap.size 0 x := by
  have hh := heap_alloc_new w (.cells #[.int .i64 x.node, .int .u32 (x.inc : Int), .int .i64 x.st] T)
  refine ⟨?_, ?_, ?_⟩ <;> (rw [cell_of_row _ _ _ _ _ _ hh]; rfl)
end Go.Proofs.Ytphkaohcfgmmkaa
