import Derived.Test.YtaicipldjmngaaaGreatDoorZj44
import Derived.Test.YtaicipldjmngaaaGreatDoorZj9
import Derived.Test.YtaicipldjmngaaaGreatDoorZj11
import Derived.WalkSpells
import Derived.Test.YtaicipldjmngaaaGreatDoorZj43
import Derived.ArgAppend
import Derived.Deep.LoopGhost
import Derived.Test.YtaicipldjmngaaaGreatDoorZj10
namespace Go.Proofs.YtaicipldjmngaaaGreatDoor.ru
open Go.RowKit Go.Maps
set_option linter.unusedSimpArgs false
set_option linter.unusedVariables false
end Go.Proofs.YtaicipldjmngaaaGreatDoor.ru

namespace Go.Proofs.YtaicipldjmngaaaGreatDoor.wh
open Go.RowKit
set_option linter.unusedSimpArgs false
set_option linter.unusedVariables false
end Go.Proofs.YtaicipldjmngaaaGreatDoor.wh

namespace Go.Proofs.YtaicipldjmngaaaGreatDoor.wh
open Go.RowKit
set_option linter.unusedSimpArgs false
set_option linter.unusedVariables false
def Ticked (S : Nat → Prop) (w : World) (B : Nat) (s : St) (e : Ending) (w' : World) : Prop :=
  ∃ v, e = .returned v ∧ rowOwn w' v s.due ∧ (∀ b, v.ownBlock = some b → S b) ∧ WhAt S w' B s.tick ∧ Kept S w w'
def TickedN (S : Nat → Prop) (w : World) (B : Nat) (s : St) (e : Ending) (w' : World) : Prop :=
  ∃ v, e = .returned v ∧ rowOwn w' v s.due ∧ (∀ b, v.ownBlock = some b → S b) ∧ WhAt (fun k => S k ∧ ¬ v.ownBlock = some k) w' B s.tick ∧ Kept S w w'
theorem TickedN.post {S : Nat → Prop} {w w' : World} {B : Nat} {s : St} {e : Ending} (h : TickedN S w B s e w') : Ticked S w B s e w' := by
  obtain ⟨v, h1, h2, h3, h4, h5⟩ := h
  exact ⟨v, h1, h2, h3, h4.mono (fun k _ hk => hk.1), h5⟩
end Go.Proofs.YtaicipldjmngaaaGreatDoor.wh

namespace Go.Proofs.YtaicipldjmngaaaGreatDoor.dr
end Go.Proofs.YtaicipldjmngaaaGreatDoor.dr
namespace Go.Proofs.YtaicipldjmngaaaGreatDoor.pr
open Go.Proofs.YtaicipldjmngaaaGreatDoor.dr
open Go.RowKit
set_option linter.unusedSimpArgs false
set_option linter.unusedVariables false
theorem RgIs.lst {p : Bool} {S : Nat → Prop} {w : World} {B : Nat} {A : Option Addr} {c : Nat} {g : Rg} (h : RgIs p S w B A c g) (hg : g.row.length ≤ 8) : Lst S w A g.row.length c g.row := ⟨h.row, h.le, by omega⟩
end Go.Proofs.YtaicipldjmngaaaGreatDoor.pr

namespace Go.Proofs.YtaicipldjmngaaaGreatDoor.dr
end Go.Proofs.YtaicipldjmngaaaGreatDoor.dr
namespace Go.Proofs.YtaicipldjmngaaaGreatDoor.pr
open Go.Proofs.YtaicipldjmngaaaGreatDoor.dr
open Go.RowKit
set_option linter.unusedSimpArgs false
theorem stepOf_append {P : Program} {ops : Array Oper} {Q : Exit → Act → World → Prop} {o : Oper} {K : Act → World → Prop} {a : Act} {w w' : World} {v vx v' : Value} (s x : Operand) (t : TypeId)
    (ho : o.op = .call { callee := .builtin .append, args := #[s, x], argTypes := #[t, t] }) (hg : o.guard = none) (hs : a.eval s = v) (hx : a.eval x = vx)
    (hr : (Builtin.append_ #[t, t] o.type #[v, vx]).run P w = .ok v' w') (h : K (a.put o.dst v') w') : Go.Rel.stepOf P ops Q o K a w := by
  unfold Go.Rel.stepOf
  rw [if_pos (by simp [Region.wanted, hg])]
  unfold Oper.wp execOp
  simp only [ho, resolve, invoke, builtin, Sem.run_bind, Sem.run_pure, Result.andThen_ok, List.map_toArray, List.map_cons, List.map_nil, hs, hx, hr]
  exact h
def tailA (A : Option Addr) (lo L : Nat) : Option Addr := if L = lo then A else A.map (·.add (lo * 1))
theorem _root_.Go.Proofs.YtaicipldjmngaaaGreatDoor.RV.tail {w : World} {A : Option Addr} {L lo : Nat} {xs : List Value} (h : RV w A L xs) (h1 : lo ≤ L) : RV w (tailA A lo L) (L - lo) (xs.drop lo) := by
  unfold tailA
  by_cases e : L = lo
  · subst e
    rw [if_pos rfl, Nat.sub_self, List.drop_of_length_le (by rw [h.1]; exact Nat.le_refl _)]
    exact RV.zero _ _
  · rw [if_neg e]
    obtain ⟨b, off, rfl, _⟩ := h.2 (by omega)
    have := h.drop h1
    simpa [plain_add] using this
theorem run_append_full (w : World) (ty : TypeId) (A : Option Addr) (i : Nat) (xs : List Value) (h : RV w A i xs) (hA : A = none → i = 0) (A2 : Option Addr) (m c2 : Nat) (ys : List Value) (h2 : RV w A2 m ys) (hy : ∀ u ∈ ys, u.oneCell' = true) (hm : 0 < m) (hsz : i + m ≤ 4096) :
    ∃ v' w', (Builtin.append_ #[58, 58] ty #[.slice A i i, .slice A2 m c2]).run Tryz.prog w = .ok v' w' ∧ w'.ownsRow w.heap.size 3 1 v' (i + m) (xs ++ ys) ∧ Below w.heap.size w w' := by
  obtain ⟨i0, hi, hz0, hz1, hz2⟩ := info_parts int_info
  obtain ⟨b2, off2, rfl, _⟩ := h2.2 hm
  have hl := h.1
  have hl2 := h2.1
  cases A with
  | some b =>
    obtain ⟨v', w', hrun, r1, r2⟩ := run_append_arg_grows (P := Tryz.prog) w 58 ty 3 i0 (.int .i64 0) 1 8 Tryz.underlying58 hi hz0 hz1 hz2 rfl (by decide) b i i xs (by omega) h.news ⟨b2, off2, none⟩ m c2 ys (by omega) h2.news (by omega) (by unfold maxLen; omega) (by omega)
    exact ⟨v', w', hrun, r1, (Below.refl _ _).grown r2 (Nat.le_refl _) (fun j hj => by cases hj)⟩
  | none =>
    obtain rfl := hA rfl
    obtain rfl : xs = [] := List.eq_nil_of_length_eq_zero hl
    obtain ⟨v', w', hrun, r1, r2, _⟩ := run_append_own (P := Tryz.prog) w w.heap.size 58 ty 3 i0 (.int .i64 0) 1 8 Tryz.underlying58 hi hz0 hz1 hz2 rfl (by decide) (.slice none 0 0) 0 [] (World.ownsRow_nil w _ 3 1) ⟨b2, off2, none⟩ m c2 ys (by omega) h2.news hy (by unfold maxLen; omega) (by omega) (Nat.le_refl _)
    exact ⟨v', w', hrun, r1, (Below.refl _ _).grown r2 (Nat.le_refl _) (fun j hj => by cases hj)⟩
theorem run_append_nothing (w : World) (ty : TypeId) (A : Option Addr) (i : Nat) (h : ∃ xs, RV w A i xs) (hA : A = none → i = 0) (A2 : Option Addr) :
    (Builtin.append_ #[58, 58] ty #[.slice A i i, .slice A2 0 0]).run Tryz.prog w = .ok (.slice A i i) w := by
  obtain ⟨i0, hi, hz0, hz1, hz2⟩ := info_parts int_info
  obtain ⟨xs, h⟩ := h
  cases A2 with
  | none => cases A with
    | none =>
      obtain rfl := hA rfl
      simp [Builtin.append_, run_underlying (P := Tryz.prog) Tryz.underlying58, sizeOf, typeInfo, hi, Builtin.lenOf, Builtin.firstCells]
    | some a => simp [Builtin.append_, run_underlying (P := Tryz.prog) Tryz.underlying58, sizeOf, typeInfo, hi, Builtin.lenOf, Builtin.firstCells, storeCells]
  | some a2 => cases A with
    | none =>
      obtain rfl := hA rfl
      simp [Builtin.append_, run_underlying (P := Tryz.prog) Tryz.underlying58, sizeOf, typeInfo, hi, Builtin.lenOf, Builtin.firstCells, loadCells, loadCellsFrom]
    | some a => simp [Builtin.append_, run_underlying (P := Tryz.prog) Tryz.underlying58, sizeOf, typeInfo, hi, Builtin.lenOf, Builtin.firstCells, storeCells, loadCells, loadCellsFrom]
end Go.Proofs.YtaicipldjmngaaaGreatDoor.pr

namespace Go.Proofs.YtaicipldjmngaaaGreatDoor.dr
end Go.Proofs.YtaicipldjmngaaaGreatDoor.dr
namespace Go.Proofs.YtaicipldjmngaaaGreatDoor.pr
open Go.Proofs.YtaicipldjmngaaaGreatDoor.dr
open Go.RowKit
set_option linter.unusedSimpArgs false
set_option linter.unusedVariables false
end Go.Proofs.YtaicipldjmngaaaGreatDoor.pr

namespace Go.Proofs.YtaicipldjmngaaaGreatDoor.dr
end Go.Proofs.YtaicipldjmngaaaGreatDoor.dr
namespace Go.Proofs.YtaicipldjmngaaaGreatDoor.pr
open Go.Proofs.YtaicipldjmngaaaGreatDoor.dr
open Go.RowKit
set_option linter.unusedSimpArgs false
set_option linter.unusedVariables false
structure BeJ (S : Nat → Prop) (w0 : World) (B : Nat) (vd : Value) (A : Option Addr) (c : Nat) (g : Rg) (d d2 : Dr) (p : List Int) (f : Nat → Bool) (w : World) : Prop where
  ring : f 15 = false → RgIs true S w B A c g
  dw : DwAt S w vd (bif f 11 then d2 else d)
  fin : f 15 = true → ∃ A c, RgIs true S w B A c ⟨p, g.at_⟩
  but : But (fun k => k = B ∨ Tgt vd k) w0 w
section
variable {S : Nat → Prop} {w0 w w' : World} {B L : Nat} {vd : Value} {A : Option Addr} {c : Nat} {g : Rg} {d d2 : Dr} {p : List Int} {f : Nat → Bool}
theorem bupd_off {f : Nat → Bool} {j m : Nat} (h : m ≠ j) : Go.Rel.upd f j m = f m := by
  unfold Go.Rel.upd
  have : (m == j) = false := by rw [beq_eq_false_iff_ne]; exact h
  rw [this, Bool.false_or]
theorem BeJ.read (h : BeJ S w0 B vd A c g d d2 p f w) {j : Nat} (h1 : 15 ≠ j) (h2 : 11 ≠ j) : BeJ S w0 B vd A c g d d2 p (Go.Rel.upd f j) w :=
  ⟨by rw [bupd_off h1]; exact h.ring, by rw [bupd_off h2]; exact h.dw, by rw [bupd_off h1]; exact h.fin, h.but⟩
theorem BeJ.below (h : BeJ S w0 B vd A c g d d2 p f w) (hb : Below w.heap.size w w') {j : Nat} (h1 : 15 ≠ j) (h2 : 11 ≠ j) : BeJ S w0 B vd A c g d d2 p (Go.Rel.upd f j) w' := by
  refine BeJ.read ⟨fun z => (h.ring z).below hb, h.dw.below hb, fun z => ?_, h.but.trans (But.of_below hb)⟩ h1 h2
  obtain ⟨A, c, hr⟩ := h.fin z
  exact ⟨A, c, hr.below hb⟩
theorem BeJ.store (h : BeJ S w0 B vd A c g d d2 p f w) (hL : g.row.length = L) (hp : p.length = L) (zS : f 15 = false) {A' : Option Addr} {c' : Nat} (h1 : RVn S w A' L (p.map nV)) (h2 : L ≤ c') (h3 : c' ≤ maxLen) (h4 : A' = none → c' = 0) :
    w.cell? ⟨B, 1, none⟩ = some (.slice A L c) ∧ w.frozen? ⟨B, 1, none⟩ = false ∧ But S w (w.setCell ⟨B, 1, none⟩ (.slice A' L c')) ∧ (¬ Tgt vd B → BeJ S w0 B vd A c g d d2 p (Go.Rel.upd f 15) (w.setCell ⟨B, 1, none⟩ (.slice A' L c'))) := by
  have hri := h.ring zS
  have hset : But (· = B) w (w.setCell ⟨B, 1, none⟩ (.slice A' L c')) := But.set_ _ w B 1 _ rfl
  refine ⟨by have := hri.cl; rw [hL] at this; exact this, hri.froz 1, hset.mono (fun k e => by rw [e]; exact hri.mine), fun hne => ⟨(fun z => by cases z), ?_, fun _ => ⟨A', c', ?_⟩, h.but.trans (hset.mono fun k e => .inl e)⟩⟩
  · rw [bupd_off (by decide)]
    exact h.dw.but hset (fun k e => by rw [e]; exact hri.mine) (fun k e ht => hne (e ▸ ht))
  · have h5 := hri.setRow (A' := A') (c' := c') (row := p) (by rw [hp]; exact h1) (by omega) h3 h4
    rw [hp] at h5
    exact h5
end
end Go.Proofs.YtaicipldjmngaaaGreatDoor.pr

namespace Go.Proofs.YtaicipldjmngaaaGreatDoor.dr
end Go.Proofs.YtaicipldjmngaaaGreatDoor.dr
namespace Go.Proofs.YtaicipldjmngaaaGreatDoor.pr
open Go.Proofs.YtaicipldjmngaaaGreatDoor.dr
open Go.RowKit
set_option linter.unusedSimpArgs false
set_option linter.unusedVariables false
structure NxW (S : Nat → Prop) (B X : Nat) (vd : Value) (A2 : Option Addr) (n2 c2 : Nat) (live : List Int) (w0 w : World) (g : Rg) (d : Dr) : Prop where
  ring : RgAt true S w B g
  dw : DwAt S w vd d
  lst : Lst S w A2 n2 c2 live
  b0 : w.heap[X]? = some (.cells #[.pointer (some ⟨B, 0, none⟩)] 33 (0, 0))
  b1 : w.heap[X + 1]? = some (.cells #[.slice A2 n2 c2] 58 (0, 0))
  but : But (fun k => k = B ∨ Tgt vd k) w0 w
  size : X + 1 < w.heap.size
  lt : ∀ k, S k → k < X
  ne : ¬ Tgt vd B
section
variable {S : Nat → Prop} {B X : Nat} {vd : Value} {A2 : Option Addr} {n2 c2 : Nat} {live : List Int} {w0 w w' : World} {g g' : Rg} {d d' : Dr}
theorem NxW.move (h : NxW S B X vd A2 n2 c2 live w0 w g d) (hb : But (fun k => k = B ∨ Tgt vd k) w w') (h1 : RgAt true S w' B g') (h2 : DwAt S w' vd d') : NxW S B X vd A2 n2 c2 live w0 w' g' d' := by
  have hS : ∀ k, (k = B ∨ Tgt vd k) → S k := fun k hk => hk.elim (fun e => by rw [e]; exact h.ring.mine) (fun e => h.dw.names k e)
  have hX : ¬ (X = B ∨ Tgt vd X) := fun e => by have := h.lt X (hS X e); omega
  have hX1 : ¬ (X + 1 = B ∨ Tgt vd (X + 1)) := fun e => by have := h.lt (X + 1) (hS _ e); omega
  exact ⟨h1, h2, h.lst.but hb hS, (hb.block X (by have := h.size; omega) hX).trans h.b0, (hb.block (X + 1) h.size hX1).trans h.b1, h.but.trans hb, Nat.lt_of_lt_of_le h.size hb.size, h.lt, h.ne⟩
theorem NxW.cell (h : NxW S B X vd A2 n2 c2 live w0 w g d) : w.cell? ⟨X, 0, none⟩ = some (.pointer (some ⟨B, 0, none⟩)) := by
  rw [cell_of_row _ _ _ _ _ _ h.b0]
  rfl
end
end Go.Proofs.YtaicipldjmngaaaGreatDoor.pr

namespace Go.Proofs.YtaicipldjmngaaaGreatDoor.dr
open Go.RowKit
set_option linter.unusedSimpArgs false
end Go.Proofs.YtaicipldjmngaaaGreatDoor.dr
