/-
  The frame of the rows, of whatever seat: what comes in (integers, slices of integers), each with its bound and its bulk.
-/
import Derived.Test.YtbhhalkpghcflaaRows
import Derived.Test.YtbhhalkpghcflaaZj3
import Derived.WalkKit
import Derived.ProofKit
import Derived.OpenShut
import Derived.ShutString
import Derived.ChangeOld
import Derived.Below
import Derived.Lay
import Derived.Shelf.Vars
import Derived.LaidMore
import Derived.Stop.Joined
import Derived.SizedLaws
import Derived.Lib.SmallJoins
import Derived.Deep.Slices
import Derived.Deep.Fields
import Derived.ChangeSame
import Derived.SliceStrings
import Derived.JoinedCond
namespace Go.Proofs.Ytbhhalkpghcflaa
open Go.Joins Go.ChangeShapes Go.WideShapes Go.ChangeAt Go.RowKit
variable {H : Type} {enc : TypeId × Value → H}

theorem own : ownKnob Try.prog.godebug = none := by kernel_rfl
theorem laidOut : laidOutB Try.prog = true := by kernel_rfl
theorem bulk_pos (d : DataW H) : 1 ≤ Rows.uptoBulk d := by
  cases d with
  | lit x => cases x <;> simp [Rows.uptoBulk]
  | _ => simp [Rows.uptoBulk]
theorem bulk_len : ∀ l : List (DataW H), l.length ≤ Rows.uptoBulkAll l
  | [] => Nat.zero_le _
  | d :: r => by
    have h1 := bulk_pos d
    have h2 := bulk_len r
    simp only [Rows.uptoBulkAll, List.length_cons]
    omega
theorem bulk_mem : ∀ (l : List (DataW H)) (d : DataW H), d ∈ l → Rows.uptoBulk d ≤ Rows.uptoBulkAll l
  | x :: r, d, h => by
    simp only [Rows.uptoBulkAll]
    rcases List.mem_cons.1 h with rfl | h
    · omega
    · have := bulk_mem r d h
      omega
set_option maxRecDepth 100000 in
/-- An integer that came in. -/
theorem int_arg {W : World} {base : Nat} {T : TypeId} {k : IntKind} {v : Value} {d : DataW H} {p : List MemPlace} (hT : Try.prog.underlying T = some (.int k)) (hok : Value.okWide Try.prog W .any base T v)
    (h : DataW.Trod enc Try.prog W 0 (fun _ => true) true T v d p) : ∃ z : Int, v = .int k z ∧ (Lit.int k z).wf = true := by
  obtain ⟨m, hm⟩ := h
  obtain ⟨z, e, _, wz⟩ := DataW.trod_int hT hm
  obtain ⟨y, rfl⟩ := okWide_int hT hok
  exact ⟨z, by simpa [Value.cells] using e, wz⟩
/-- What the datum of a slice weighs. -/
theorem slice_weighed {W : World} {fuel : Nat} {T E : TypeId} {k : IntKind} {a0 : Option Addr} {len0 cap0 : Nat} {x : DataW H × List MemPlace} (hT : Try.prog.underlying T = some (.slice E)) (hE : Try.prog.underlying E = some (.int k)) (hC : Try.prog.cellsOf E = 1)
    (hf : DataW.trod enc Try.prog W 0 (fun _ => true) true fuel T [.slice a0 len0 cap0] = some x) : len0 = 0 ∨ ∃ el sp, x.1 = .slice el sp ∧ el.length = len0 := by
  rcases open_ints hT hE hC hf with ⟨hcs, _⟩ | ⟨a, len, cap, zs, hcs, _, hl, hm, hz, hx, _⟩
  · simp only [List.cons.injEq, Value.slice.injEq, and_true] at hcs
    exact Or.inl hcs.2.1
  · simp only [List.cons.injEq, Value.slice.injEq, and_true] at hcs
    obtain ⟨rfl, rfl, rfl⟩ := hcs
    have hz' : zs.length = cap0 := by simpa using hz
    exact Or.inr ⟨_, _, by rw [hx], by simp [lits]; omega⟩
/-- A natural number of a kind. -/
def natV (k : IntKind) (n : Nat) : Value := .int k (n : Int)
/-- A slice of numbers of an unsigned kind that came in. -/
theorem nats_arg {W : World} {T E : TypeId} {k : IntKind} {most : Nat} {a0 : Option Addr} {len0 cap0 : Nat} {d : DataW H} {p : List MemPlace} (hT : Try.prog.underlying T = some (.slice E)) (hE : Try.prog.underlying E = some (.int k)) (hC : Try.prog.cellsOf E = 1)
    (hk : ∀ z, (Lit.int k z).wf = true → 0 ≤ z ∧ z ≤ (most : Int)) (h : DataW.Trod enc Try.prog W 0 (fun _ => true) true T (.slice a0 len0 cap0) d p) :
    ∃ xs : List Nat, RV W a0 len0 (xs.map (natV k)) ∧ (∀ x ∈ xs, x ≤ most) ∧ len0 ≤ cap0 ∧ cap0 ≤ maxLen ∧ (a0 = none → cap0 = 0) := by
  obtain ⟨m, hm⟩ := h
  obtain ⟨zs, h1, h2, h3⟩ := ints_opened hT hE hC hm
  refine ⟨zs.map Int.toNat, ?_, ?_, h3⟩
  · have e : (zs.map Int.toNat).map (natV k) = zs.map (intV k) := by
      rw [List.map_map]
      refine List.map_congr_left fun z hz => ?_
      have := hk z (h2 z hz)
      show Value.int k ((z.toNat : Nat) : Int) = Value.int k z
      rw [show ((z.toNat : Nat) : Int) = z by omega]
    rw [e]
    exact h1
  · intro x hx
    obtain ⟨z, hz, rfl⟩ := List.mem_map.1 hx
    have := hk z (h2 z hz)
    omega
/-- How long a slice may be that came in, by its bytes. -/
theorem slice_reach {W : World} {T E : TypeId} {k : IntKind} {a0 : Option Addr} {len0 cap0 : Nat} {d : DataW H} {p : List MemPlace} {ts : List TypeId} {ds : List (DataW H)} (hT : Try.prog.underlying T = some (.slice E)) (hE : Try.prog.underlying E = some (.int k)) (hC : Try.prog.cellsOf E = 1)
    (h : DataW.Trod enc Try.prog W 0 (fun _ => true) true T (.slice a0 len0 cap0) d p) (hsz : (DataW.weightsEach Try.prog ts ds).all (· ≤ reachBytes) = true) {j : Nat} (ht : ts[j]? = some T) (hd : ds[j]? = some d) : len0 * Try.prog.bytesOf E ≤ 140737488351232 := by
  obtain ⟨m, hm⟩ := h
  rcases slice_weighed hT hE hC hm with h0 | ⟨el, sp, hx, hl⟩
  · rw [h0]; omega
  · simp only at hx
    rw [hx] at hd
    have h := sized_slice hsz ht hd hT
    have hr : reachBytes = 140737488351232 := by decide
    have : len0 * Try.prog.bytesOf E ≤ (el.length + sp.length) * Try.prog.bytesOf E := Nat.mul_le_mul_right _ (by omega)
    omega
/-- The same, by the bulk. -/
theorem slice_bulk {W : World} {T E : TypeId} {k : IntKind} {a0 : Option Addr} {len0 cap0 : Nat} {d : DataW H} {p : List MemPlace} (hT : Try.prog.underlying T = some (.slice E)) (hE : Try.prog.underlying E = some (.int k)) (hC : Try.prog.cellsOf E = 1)
    (h : DataW.Trod enc Try.prog W 0 (fun _ => true) true T (.slice a0 len0 cap0) d p) : len0 ≤ Rows.uptoBulk d := by
  obtain ⟨m, hm⟩ := h
  rcases slice_weighed hT hE hC hm with h0 | ⟨el, sp, hx, hl⟩
  · omega
  · simp only at hx
    have := bulk_len el
    rw [hx]
    simp only [Rows.uptoBulk]
    omega
end Go.Proofs.Ytbhhalkpghcflaa
