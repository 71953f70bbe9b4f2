/-
  The program's table at values of one type (int): a row's cells; New, made, Last, Raise, Copy, now, walked.
-/
import Derived.Test.YtnobpbbedclbkaaZj9
namespace Go.Proofs.Ytnobpbbedclbkaa.Sx
open Go.RowKit
set_option linter.unusedSimpArgs false
set_option linter.unusedVariables false

open Try renaming func33 → f_Copy, func35 → f_Last, func38 → f_Raise, func39 → f_made, func25 → f_new, func49 → f_now, ntmps33 → n_Copy, ntmps35 → n_Last, ntmps38 → n_Raise, ntmps39 → n_made, ntmps25 → n_new, ntmps49 → n_now
/-- A row's cells. -/
abbrev trC (r : Rw Int) : List Value := [.string r.key, .int .i64 r.val, .int .u64 (r.made : Int), .int .u64 (r.ix : Int)]
/-- A row as a value. -/
abbrev trV (r : Rw Int) : Value := .agg #[.string r.key, .int .i64 r.val, .int .u64 (r.made : Int), .int .u64 (r.ix : Int)]
abbrev VL := Int
abbrev kN : Nat := 4
abbrev kBY : Nat := 40
abbrev kMk : Nat := 2
abbrev tT : TypeId := 80
abbrev tR : TypeId := 65
abbrev tSR : TypeId := 78
abbrev tSSR : TypeId := 91
abbrev tPT : TypeId := 57
abbrev tV : TypeId := 3
abbrev gVals : Nat := 51
abbrev gIt : Nat := 52
abbrev gGrow : Nat := 47
abbrev gCat : Nat := 41
abbrev gAseq : Nat := 50
abbrev gColl : Nat := 48
abbrev gNew : Nat := 25
abbrev g_find1 : Nat := 46
abbrev g_now : Nat := 49
abbrev zA : Array Value := #[.string ⟨#[]⟩, .int .i64 0, .int .u64 0, .int .u64 0]
abbrev zC : List Value := [.string ⟨#[]⟩, .int .i64 0, .int .u64 0, .int .u64 0]
abbrev rA (k : ByteArray) (v : Int) (m i : Nat) : Array Value := #[.string k, .int .i64 v, .int .u64 (m : Int), .int .u64 (i : Int)]
abbrev trA (r : Rw Int) : Array Value := #[.string r.key, .int .i64 r.val, .int .u64 (r.made : Int), .int .u64 (r.ix : Int)]
abbrev vA (v : Int) : Array Value := #[.int .i64 v]
theorem trC_len (r : Rw Int) : (trC r).length = 4 := rfl
theorem trC_one (r : Rw Int) : ∀ u ∈ trC r, u.oneCell' = true := fun u hu => by
  simp only [trC, List.mem_cons, List.not_mem_nil, or_false] at hu
  rcases hu with rfl | rfl | rfl | rfl <;> rfl
theorem tr_cells {w : World} {b o : Nat} {r : Rw Int} (h : ItAt trC w b o r) : w.cell? ⟨b, o, none⟩ = some (.string r.key) ∧ w.cell? ⟨b, o + 1, none⟩ = some (.int .i64 r.val) ∧ w.cell? ⟨b, o + 2, none⟩ = some (.int .u64 (r.made : Int)) ∧ w.cell? ⟨b, o + 3, none⟩ = some (.int .u64 (r.ix : Int)) :=
  ⟨h 0 _ rfl, h 1 _ rfl, h 2 _ rfl, h 3 _ rfl⟩
theorem blk {w : World} {B : Nat} {v0 v1 v2 v3 : Value} {t : TypeId} (h : w.heap[B]? = some (.cells #[v0, v1, v2, v3] t (0, 0))) : w.cell? ⟨B, 0, none⟩ = some v0 ∧ w.cell? ⟨B, 1, none⟩ = some v1 ∧ w.cell? ⟨B, 2, none⟩ = some v2 ∧ w.cell? ⟨B, 3, none⟩ = some v3 :=
  ⟨cellsN h 0 _ rfl, cellsN h 1 _ rfl, cellsN h 2 _ rfl, cellsN h 3 _ rfl⟩
theorem frz {w : World} {B : Nat} {cur : Array Value} {t : TypeId} (h : w.heap[B]? = some (.cells cur t (0, 0))) : w.frozen? ⟨B, 0, none⟩ = false ∧ w.frozen? ⟨B, 1, none⟩ = false ∧ w.frozen? ⟨B, 2, none⟩ = false ∧ w.frozen? ⟨B, 3, none⟩ = false :=
  ⟨blk_froz h 0, blk_froz h 1, blk_froz h 2, blk_froz h 3⟩
theorem tw_info : (Try.prog.info? 65).map (fun i => (i.zero, i.size, i.bytes)) = some (some (.agg #[.string ⟨#[]⟩, .int .i64 0, .int .u64 0, .int .u64 0]), 4, 40) := by kernel_rfl
/-- Rows of the program's, of the call's own. -/
abbrev twRow (w : World) (base : Nat) (v : Value) (l : List (Rw Int)) : Prop := rowK trC 65 4 w base v l
abbrev TIs := PtIs trC 4 80
abbrev TAt := PtAt trC 4 80
abbrev Now := NowIs trC 4 78 52
abbrev New := NewRows trC 4
theorem made_no {w : World} {p : Option Addr} (h : NoTp 80 w p) : Calls Try.prog 39 #[.pointer p] w fun e w' => e = .returned (.bool false) ∧ w = w' := run_made_no
section
variable {S : Nat → Prop} {w : World} {B c : Nat} {A : Option Addr} {t : Tb Int}
theorem made_is (h : TIs S w B A c t) (h1 : 1 ≤ t.most) : Calls Try.prog 39 #[.pointer (some ⟨B, 0, none⟩)] w fun e w' => e = .returned (.bool true) ∧ w = w' := run_made_is
theorem made_yes (h : TAt S w B t) : Calls Try.prog 39 #[.pointer (some ⟨B, 0, none⟩)] w fun e w' => e = .returned (.bool true) ∧ w = w' := by
  obtain ⟨hok, A, c, h⟩ := h
  exact made_is h hok.most.1
set_option maxHeartbeats 1000000 in
theorem new_any (m : Int) (w : World) (hm : -9223372036854775808 ≤ m ∧ m ≤ 9223372036854775807) :
    Calls Try.prog 25 #[.int .i64 m] w fun e w' => ∃ B, e = .returned (.pointer (some ⟨B, 0, none⟩)) ∧ TAt (fun k => w.heap.size ≤ k) w' B ⟨mostT m, [], 0⟩ ∧ Below w.heap.size w w' := run_new_any
theorem last_any (h : TAt S w B t) : Calls Try.prog 35 #[.pointer (some ⟨B, 0, none⟩)] w fun e w' => e = .returned (.int .u64 (t.last : Int)) ∧ w = w' := run_last_any
theorem last_no {p : Option Addr} (h : NoTp 80 w p) : Calls Try.prog 35 #[.pointer p] w fun e w' => e = .returned (.int .u64 0) ∧ w = w' := run_last_no
theorem raise_is (i : Nat) (h : TIs S w B A c t) (h1 : 1 ≤ t.most) : Calls Try.prog 38 #[.pointer (some ⟨B, 0, none⟩), .int .u64 (i : Int)] w fun e w' => e = .returned (.tuple #[]) ∧ TIs S w' B A c (t.raise i) ∧ But (· = B) w w' := run_raise_is
theorem raise_any (i : Nat) (h : TAt S w B t) (hi : i < 18446744073709551616) : Calls Try.prog 38 #[.pointer (some ⟨B, 0, none⟩), .int .u64 (i : Int)] w fun e w' => e = .returned (.tuple #[]) ∧ TAt S w' B (t.raise i) ∧ But (· = B) w w' := by
  obtain ⟨hok, A, c, h⟩ := h
  exact (raise_is i h hok.most.1).mono fun e w' ⟨a, b, d⟩ => ⟨a, ⟨hok.raise hi, A, c, b⟩, d⟩
theorem copy_any (h : TAt S w B t) : Calls Try.prog 33 #[.pointer (some ⟨B, 0, none⟩)] w fun e w' => ∃ B', e = .returned (.pointer (some ⟨B', 0, none⟩)) ∧ w.heap.size ≤ B' ∧ TAt (fun k => S k ∨ w.heap.size ≤ k) w' B' t ∧ Below w.heap.size w w' := run_copy_any
/-- slices.Values at rows: a function over a box that holds them. -/
theorem values_any (A : Option Addr) (n c : Nat) (w : World) : Calls Try.prog 51 #[.slice A n c] w fun e w' => e = .returned (.func (.func 52) #[] #[.pointer (some ⟨w.heap.size, 0, none⟩)]) ∧ w' = w.alloc (.cells #[.slice A n c] 78) := by
  go_enter Try.func51, Try.ntmps51
  go_wp2
  go_ret
  exact ⟨rfl, rfl⟩
theorem now_is (h : TIs S w B A c t) (hmo : 1 ≤ t.most) : Calls Try.prog 49 #[.pointer (some ⟨B, 0, none⟩)] w fun e w' => ∃ v Bx, e = .returned v ∧ Now w w' v t.l Bx A c := run_now_is
theorem now_no {p : Option Addr} (h : NoTp 80 w p) : Calls Try.prog 49 #[.pointer p] w fun e w' => ∃ v Bx A c, e = .returned v ∧ Now w w' v [] Bx A c := run_now_no
end
end Go.Proofs.Ytnobpbbedclbkaa.Sx
