import Derived.Test.YtaicipldjmngaaaGreatDoorZj16
import Derived.Test.YtaicipldjmngaaaGreatDoorZj38
namespace Go.Proofs.YtaicipldjmngaaaGreatDoor
open Go.RowKit
set_option linter.unusedSimpArgs false
theorem RdAt.narrow {S S' : Nat → Prop} {w : World} {B : Nat} {s : St} (h : RdAt S' w B s) (hS : ∀ k, S k → S' k) (hB : S B) : RdAt S w B s := by
  obtain ⟨_, A, n, c, hh, hr, hm⟩ := h
  exact ⟨hB, A, n, c, hh, ⟨hr.1, fun b off e hn hs => hr.2 b off e hn (hS b hs)⟩, hm⟩
end Go.Proofs.YtaicipldjmngaaaGreatDoor

namespace Go.Proofs.YtaicipldjmngaaaGreatDoor
open Go.RowKit
set_option linter.unusedSimpArgs false
def NoRd (w : World) (r : Value) : Prop := r = .pointer none ∨ ∃ B, r = .pointer (some ⟨B, 0, none⟩) ∧ w.heap[B]? = some (.cells #[.bool false, .slice none 0 0, .int .i64 0] 250 (0, 0))
theorem NoRd.below {w w' : World} {r : Value} (h : NoRd w r) (hb : Below w.heap.size w w') : NoRd w' r := by
  rcases h with h | ⟨B, e, h⟩
  · exact .inl h
  · exact .inr ⟨B, e, (hb.block B (Array.getElem?_eq_some_iff.1 h).1).trans h⟩
end Go.Proofs.YtaicipldjmngaaaGreatDoor

namespace Go.Proofs.YtaicipldjmngaaaGreatDoor.sp
open Go.RowKit
set_option linter.unusedSimpArgs false
set_option linter.unusedVariables false
end Go.Proofs.YtaicipldjmngaaaGreatDoor.sp

namespace Go.Proofs.YtaicipldjmngaaaGreatDoor.sp
open Go.RowKit
set_option linter.unusedSimpArgs false
set_option linter.unusedVariables false
def updR (_ : Nat → Prop) (B : Nat) (X : Nat) (a9 : Nat) (b9 : Nat) (c9 : Nat) : Nat → Value → World → Prop
  | 0, v, _ => v = .agg #[.pointer (some ⟨B, 0, none⟩)]
  | 1, v, _ => v = .int .i64 (a9 : Int)
  | 2, v, _ => v = .agg #[.pointer (some ⟨B, 0, none⟩)]
  | 3, v, _ => v = .int .u32 (b9 : Int)
  | 4, v, _ => v = .agg #[.pointer (some ⟨B, 0, none⟩)]
  | 5, v, _ => v = .int .i64 (c9 : Int)
  | 6, v, _ => v = .agg #[.int .i64 (a9 : Int), .int .u32 (b9 : Int), .int .i64 (c9 : Int)]
  | _, _, _ => True
end Go.Proofs.YtaicipldjmngaaaGreatDoor.sp

namespace Go.Proofs.YtaicipldjmngaaaGreatDoor.sp
open Go.RowKit
set_option linter.unusedSimpArgs false
set_option linter.unusedVariables false
theorem UsOk.of_row {w : World} {base : Nat} {v : Value} {l : List Up} (h : upRow w base v l) : ∃ A c, v = .slice A l.length c ∧ UsOk w ⟨A, c, l⟩ ∧ (∀ b off, A = some ⟨b, off, .none⟩ → base ≤ b) ∧ TyU w ⟨A, c, l⟩ := by
  obtain ⟨A, c, e, h1, h2, h3⟩ := SUp.of_row h
  rcases h.2 with ⟨e', _⟩ | ⟨g, cap, cur, e', hg, hh, _⟩
  · rw [e] at e'
    simp only [Value.slice.injEq] at e'
    obtain ⟨rfl, _, rfl⟩ := e'
    refine ⟨Option.none, 0, e, ⟨h1, h2, h3, fun _ => rfl⟩, (fun _ _ e => by cases e), fun hn => ?_⟩
    have h9 : l.length = 0 := by
      rcases Nat.eq_zero_or_pos l.length with e9 | e9
      · exact e9
      · obtain ⟨b, off, e8, _⟩ := h1.2 e9
        cases e8
    exact absurd hn (by simp only; omega)
  · rw [e] at e'
    simp only [Value.slice.injEq] at e'
    obtain ⟨rfl, _, rfl⟩ := e'
    refine ⟨_, _, e, ⟨h1, h2, h3, fun e => by cases e⟩, fun b off e => ?_, fun _ => ⟨_, _, cur, rfl, hh⟩⟩
    simp only [Option.some.injEq, Addr.mk.injEq] at e
    omega
end Go.Proofs.YtaicipldjmngaaaGreatDoor.sp

namespace Go.Proofs.YtaicipldjmngaaaGreatDoor.sp
open Go.RowKit
set_option linter.unusedSimpArgs false
set_option linter.unusedVariables false
structure MgIs (w : World) (M base : Nat) (x : Mi) (m : Ms) : Prop where
  at_ : MiB w M x
  m : x.m = m
  us : UsOk w x.us
  new : ∀ b off, x.us.A = some ⟨b, off, none⟩ → base ≤ b
  ty : TyU w x.us
theorem UsOk.but {S : Nat → Prop} {w w' : World} {s : Sl Up} (h : UsOk w s) (hb : But S w w') (hs : ∀ b off, s.A = some ⟨b, off, .none⟩ → ¬ S b) : UsOk w' s :=
  ⟨⟨h.us.1, fun hn => by
    obtain ⟨b, off, e, hlt, hc⟩ := h.us.2 hn
    exact ⟨b, off, e, Nat.lt_of_lt_of_le hlt hb.size, fun j hj => (hc j hj).of_block (hb.block b hlt (hs b off e))⟩⟩, h.le, h.max, h.nil⟩
theorem MgIs.but {S : Nat → Prop} {w w' : World} {M base : Nat} {x : Mi} {m : Ms} (h : MgIs w M base x m) (hb : But S w w') (hM : ¬ S M) (hs : ∀ k, base ≤ k → ¬ S k) : MgIs w' M base x m :=
  ⟨(hb.block M h.at_.lt hM).trans h.at_, h.m, h.us.but hb (fun b off e => hs b (h.new b off e)), h.new, h.ty.but hb (fun b off e => hs b (h.new b off e))⟩
end Go.Proofs.YtaicipldjmngaaaGreatDoor.sp

namespace Go.Proofs.YtaicipldjmngaaaGreatDoor.sp
set_option linter.unusedSimpArgs false
end Go.Proofs.YtaicipldjmngaaaGreatDoor.sp

namespace Go.Proofs.YtaicipldjmngaaaGreatDoor.sp
open Go.RowKit
set_option linter.unusedSimpArgs false
set_option linter.unusedVariables false
def GetPost (m : Ms) (E : Nat) (w : World) (e : Ending) (w' : World) : Prop := ∃ x : Mi, e = .returned (.tuple #[miV x, .int .i64 (E : Int)]) ∧ x.m = m ∧ (UsOk w' x.us ∧ TyU w' x.us) ∧ Below w.heap.size w w'
def GetNew (m : Ms) (E : Nat) (w : World) (e : Ending) (w' : World) : Prop := ∃ x : Mi, e = .returned (.tuple #[miV x, .int .i64 (E : Int)]) ∧ x.m = m ∧ (UsOk w' x.us ∧ TyU w' x.us) ∧ (∀ b off, x.us.A = some ⟨b, off, none⟩ → w.heap.size ≤ b) ∧ Below w.heap.size w w'
theorem GetNew.post {m : Ms} {E : Nat} {w w' : World} {e : Ending} (h : GetNew m E w e w') : GetPost m E w e w' := by
  obtain ⟨x, h1, h2, h3, _, h4⟩ := h
  exact ⟨x, h1, h2, h3, h4⟩
structure Rd (S : Nat → Prop) (w : World) (X M B R base : Nat) (s : St) (m : Ms) (wr : World) : Prop where
  rd : RdAt S wr B s
  mg : ∃ x, MgIs wr M base x m
  own : wr.cell? ⟨R, 0, none⟩ = some (.pointer (some ⟨B, 0, none⟩))
  out : wr.heap[X]? = some (.cells #[.int .i64 0, .int .u32 0, .int .i64 0, .int .i64 0, .bool false, .slice none 0 0] 87 (0, 0))
  below : Below w.heap.size w wr
  size : base ≤ wr.heap.size
theorem Rd.part {S : Nat → Prop} {w wr w2 : World} {X M B R base : Nat} {s s2 : St} {m m2 : Ms} (h : Rd S w X M B R base s m wr) (hr : RdAt S w2 B s2) (hm : ∃ x, MgIs w2 M base x m2) (hb : But (fun k => k = B ∨ k = M) wr w2) (hd : R ≠ B ∧ R ≠ M ∧ X ≠ B ∧ X ≠ M) (hB : w.heap.size ≤ B ∧ w.heap.size ≤ M) : Rd S w X M B R base s2 m2 w2 :=
  ⟨hr, hm, (hb.cell (p := ⟨R, 0, none⟩) (bcell_lt h.own) (by rintro (e | e); exact hd.1 e; exact hd.2.1 e)).trans h.own, (hb.block X (block_lt h.out) (by rintro (e | e); exact hd.2.2.1 e; exact hd.2.2.2 e)).trans h.out,
    h.below.trans (hb.below h.below.size (fun k hk e => by rcases e with e | e <;> omega)), Nat.le_trans h.size hb.size⟩
end Go.Proofs.YtaicipldjmngaaaGreatDoor.sp
