import Derived.Test.YtaicipldjmngaaaGreatDoorZj13
import Derived.Test.YtaicipldjmngaaaGreatDoorZj29
namespace Go.Proofs.YtaicipldjmngaaaGreatDoor.db
open Go.RowKit Go.Maps
set_option linter.unusedSimpArgs false
abbrev TD : TypeId := 138
abbrev TM : TypeId := 136
noncomputable abbrev KI : KeyOf Tryz.prog 3 Int := intKey Tryz.underlying3
def wfI (z : Int) : Prop := (Lit.int .i64 z).wf = true
def setU (l : List Int) : Int → Option Unit := fun f => if f ∈ l then some () else none
theorem setU_keys {l : List Int} (h : l.Nodup) (hw : ∀ f ∈ l, wfI f) : KeysAre KI (setU l) l := ⟨h, hw, fun f _ => by unfold setU; split <;> simp_all⟩
theorem setU_is (l : List Int) (f : Int) : (setU l f).isSome = decide (f ∈ l) := by unfold setU; split <;> simp_all
def Db.rep (d : Db) : Int := d.from_.headD 0
theorem Db.split {d : Db} (h : d.ok) : d.from_ = d.rep :: d.from_.tail := by
  have := h.some_
  unfold Db.rep
  cases hf : d.from_ with
  | nil => rw [hf] at this; simp at this
  | cons a l => rfl
structure DbAt (w : World) (B M : Nat) (d : Db) : Prop where
  blk : w.heap[B]? = some (.cells #[.int .i64 d.least, .int .i64 d.most, .int .i64 d.want, .int .i64 d.rep, .int .i64 (d.gone : Int), .map (some M)] TD (0, 0))
  map : IsMap KI unitEl w M (setU d.from_.tail) d.from_.tail.length
  ok : d.ok
  wf : ∀ f ∈ d.from_, wfI f
section
variable {w w' : World} {B M : Nat} {d : Db}
theorem DbAt.ne (h : DbAt w B M d) : B ≠ M := fun e => h.map.not_cells (e ▸ h.blk)
theorem DbAt.lt (h : DbAt w B M d) : B < w.heap.size ∧ M < w.heap.size := ⟨block_lt h.blk, h.map.lt⟩
theorem DbAt.but {S : Nat → Prop} (h : DbAt w B M d) (hb : But S w w') (h1 : ¬ S B) (h2 : ¬ S M) : DbAt w' B M d :=
  ⟨(hb.block B h.lt.1 h1).trans h.blk, h.map.block (hb.block M h.lt.2 h2), h.ok, h.wf⟩
theorem DbAt.below (h : DbAt w B M d) (hb : Below w.heap.size w w') : DbAt w' B M d := h.but (But.of_below (S := fun _ => False) hb) (fun h => h) (fun h => h)
theorem DbAt.keep (h : DbAt w B M d) (n : Nat) : DbAt (w.drewN n) B M d := ⟨h.blk, h.map.block rfl, h.ok, h.wf⟩
theorem blk6 {W : World} {X : Nat} {a b c d e f : Value} {t : TypeId} (h : W.heap[X]? = some (.cells #[a, b, c, d, e, f] t (0, 0))) : W.cell? ⟨X, 0, none⟩ = some a ∧ W.cell? ⟨X, 1, none⟩ = some b ∧ W.cell? ⟨X, 2, none⟩ = some c ∧ W.cell? ⟨X, 3, none⟩ = some d ∧ W.cell? ⟨X, 4, none⟩ = some e ∧ W.cell? ⟨X, 5, none⟩ = some f := by
  refine ⟨?_, ?_, ?_, ?_, ?_, ?_⟩ <;> (rw [cell_of_row _ _ _ _ _ _ h]; rfl)
theorem DbAt.len (h : DbAt w B M d) : ∀ n ty, (Builtin.len_ #[TM] ty #[.map (some M)]).run Tryz.prog (w.drewN n) = .ok (.int .i64 (d.from_.tail.length : Int)) (w.drewN n) := fun n ty =>
  (h.keep n).map.len Tryz.underlying136 (setU_keys (h.ok.once.sublist (List.tail_sublist _)) (fun f hf => h.wf f (List.mem_of_mem_tail hf))) ty
theorem unit_zero (w : World) : (zeroValue 254).run Tryz.prog w = .ok (unitEl.enc ()) w := by kernel_rfl
theorem DbAt.look (h : DbAt w B M d) {f : Int} (hf : wfI f) : ∀ n, (Instr.lookup TM (.map (some M)) (.int .i64 f) true).run Tryz.prog (w.drewN n) = .ok (.tuple #[.agg #[], .bool (decide (f ∈ d.from_.tail))]) (w.drewN n) := fun n => by
  have := (h.keep n).map.look Tryz.underlying136 () (unit_zero _) (k := f) hf
  rw [setU_is] at this
  exact this
end
def NoDb (w : World) (v : Value) : Prop := v = .pointer none ∨ ∃ B, v = .pointer (some ⟨B, 0, none⟩) ∧ w.heap[B]? = some (.cells #[.int .i64 0, .int .i64 0, .int .i64 0, .int .i64 0, .int .i64 0, .map none] TD (0, 0))
theorem NoDb.below {w w' : World} {v : Value} (h : NoDb w v) (hb : Below w.heap.size w w') : NoDb w' v := h.imp id fun ⟨B, e, hh⟩ => ⟨B, e, (hb.block B (block_lt hh)).trans hh⟩
theorem blk5 {W : World} {X : Nat} {a b c d e : Value} {t : TypeId} (h : W.heap[X]? = some (.cells #[a, b, c, d, e] t (0, 0))) : W.cell? ⟨X, 0, none⟩ = some a ∧ W.cell? ⟨X, 1, none⟩ = some b ∧ W.cell? ⟨X, 2, none⟩ = some c ∧ W.cell? ⟨X, 3, none⟩ = some d ∧ W.cell? ⟨X, 4, none⟩ = some e := by
  refine ⟨?_, ?_, ?_, ?_, ?_⟩ <;> (rw [cell_of_row _ _ _ _ _ _ h]; rfl)
end Go.Proofs.YtaicipldjmngaaaGreatDoor.db
