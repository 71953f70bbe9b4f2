import Derived.Test.YtilkbfmaofmjoaaGreatDoorZj10
import Derived.Test.YtilkbfmaofmjoaaGreatDoorZj9
import Derived.Test.YtilkbfmaofmjoaaGreatDoorZj11
namespace Go.Proofs.YtilkbfmaofmjoaaGreatDoor.Ct
open Go.RowKit
set_option linter.unusedSimpArgs false
set_option linter.unusedVariables false
open Tryz renaming func78 → f_Copy, func70 → f_Last, func109 → f_Raise, func106 → f_made, func35 → f_new, func95 → f_now, ntmps78 → n_Copy, ntmps70 → n_Last, ntmps109 → n_Raise, ntmps106 → n_made, ntmps35 → n_new, ntmps95 → n_now
abbrev trC (r : Rw CkW) : List Value := [.string r.key, .int .i64 r.val.a.node, .string r.val.a.id, .string r.val.a.svc, .string r.val.a.note, .int .i64 r.val.a.status, .int .u64 (r.val.jm : Int), .int .u64 (r.val.ji : Int), .int .u64 (r.made : Int), .int .u64 (r.ix : Int)]
abbrev trV (r : Rw CkW) : Value := .agg #[.string r.key, .int .i64 r.val.a.node, .string r.val.a.id, .string r.val.a.svc, .string r.val.a.note, .int .i64 r.val.a.status, .int .u64 (r.val.jm : Int), .int .u64 (r.val.ji : Int), .int .u64 (r.made : Int), .int .u64 (r.ix : Int)]
abbrev VL := CkW
abbrev kN : Nat := 10
abbrev kBY : Nat := 112
abbrev kMk : Nat := 8
abbrev tT : TypeId := 143
abbrev tR : TypeId := 120
abbrev tSR : TypeId := 103
abbrev tPT : TypeId := 68
abbrev tV : TypeId := 33
abbrev gIt : Nat := 144
abbrev gCat : Nat := 108
abbrev g_find1 : Nat := 134
abbrev zA : Array Value := #[.string ⟨#[]⟩, .int .i64 0, .string ⟨#[]⟩, .string ⟨#[]⟩, .string ⟨#[]⟩, .int .i64 0, .int .u64 0, .int .u64 0, .int .u64 0, .int .u64 0]
abbrev zC : List Value := [.string ⟨#[]⟩, .int .i64 0, .string ⟨#[]⟩, .string ⟨#[]⟩, .string ⟨#[]⟩, .int .i64 0, .int .u64 0, .int .u64 0, .int .u64 0, .int .u64 0]
abbrev rA (k : ByteArray) (v : CkW) (m i : Nat) : Array Value := #[.string k, .int .i64 v.a.node, .string v.a.id, .string v.a.svc, .string v.a.note, .int .i64 v.a.status, .int .u64 (v.jm : Int), .int .u64 (v.ji : Int), .int .u64 (m : Int), .int .u64 (i : Int)]
abbrev trA (r : Rw CkW) : Array Value := #[.string r.key, .int .i64 r.val.a.node, .string r.val.a.id, .string r.val.a.svc, .string r.val.a.note, .int .i64 r.val.a.status, .int .u64 (r.val.jm : Int), .int .u64 (r.val.ji : Int), .int .u64 (r.made : Int), .int .u64 (r.ix : Int)]
abbrev vA (v : CkW) : Array Value := #[.int .i64 v.a.node, .string v.a.id, .string v.a.svc, .string v.a.note, .int .i64 v.a.status, .int .u64 (v.jm : Int), .int .u64 (v.ji : Int)]
theorem trC_len (r : Rw CkW) : (trC r).length = 10 := rfl
theorem trC_one (r : Rw CkW) : ∀ u ∈ trC r, u.oneCell' = true := fun u hu => by
  simp only [trC, List.mem_cons, List.not_mem_nil, or_false] at hu
  rcases hu with rfl | rfl | rfl | rfl | rfl | rfl | rfl | rfl | rfl | rfl <;> rfl
theorem tr_cells {w : World} {b o : Nat} {r : Rw CkW} (h : ItAt trC w b o r) : w.cell? ⟨b, o, none⟩ = some (.string r.key) ∧ w.cell? ⟨b, o + 1, none⟩ = some (.int .i64 r.val.a.node) ∧ w.cell? ⟨b, o + 2, none⟩ = some (.string r.val.a.id) ∧ w.cell? ⟨b, o + 3, none⟩ = some (.string r.val.a.svc) ∧ w.cell? ⟨b, o + 4, none⟩ = some (.string r.val.a.note) ∧ w.cell? ⟨b, o + 5, none⟩ = some (.int .i64 r.val.a.status) ∧ w.cell? ⟨b, o + 6, none⟩ = some (.int .u64 (r.val.jm : Int)) ∧ w.cell? ⟨b, o + 7, none⟩ = some (.int .u64 (r.val.ji : Int)) ∧ w.cell? ⟨b, o + 8, none⟩ = some (.int .u64 (r.made : Int)) ∧ w.cell? ⟨b, o + 9, none⟩ = some (.int .u64 (r.ix : Int)) :=
  ⟨h 0 _ rfl, h 1 _ rfl, h 2 _ rfl, h 3 _ rfl, h 4 _ rfl, h 5 _ rfl, h 6 _ rfl, h 7 _ rfl, h 8 _ rfl, h 9 _ rfl⟩
theorem blk {w : World} {B : Nat} {v0 v1 v2 v3 v4 v5 v6 v7 v8 v9 : Value} {t : TypeId} (h : w.heap[B]? = some (.cells #[v0, v1, v2, v3, v4, v5, v6, v7, v8, v9] t (0, 0))) : w.cell? ⟨B, 0, none⟩ = some v0 ∧ w.cell? ⟨B, 1, none⟩ = some v1 ∧ w.cell? ⟨B, 2, none⟩ = some v2 ∧ w.cell? ⟨B, 3, none⟩ = some v3 ∧ w.cell? ⟨B, 4, none⟩ = some v4 ∧ w.cell? ⟨B, 5, none⟩ = some v5 ∧ w.cell? ⟨B, 6, none⟩ = some v6 ∧ w.cell? ⟨B, 7, none⟩ = some v7 ∧ w.cell? ⟨B, 8, none⟩ = some v8 ∧ w.cell? ⟨B, 9, none⟩ = some v9 :=
  ⟨cellsN h 0 _ rfl, cellsN h 1 _ rfl, cellsN h 2 _ rfl, cellsN h 3 _ rfl, cellsN h 4 _ rfl, cellsN h 5 _ rfl, cellsN h 6 _ rfl, cellsN h 7 _ rfl, cellsN h 8 _ rfl, cellsN h 9 _ rfl⟩
theorem frz {w : World} {B : Nat} {cur : Array Value} {t : TypeId} (h : w.heap[B]? = some (.cells cur t (0, 0))) : w.frozen? ⟨B, 0, none⟩ = false ∧ w.frozen? ⟨B, 1, none⟩ = false ∧ w.frozen? ⟨B, 2, none⟩ = false ∧ w.frozen? ⟨B, 3, none⟩ = false ∧ w.frozen? ⟨B, 4, none⟩ = false ∧ w.frozen? ⟨B, 5, none⟩ = false ∧ w.frozen? ⟨B, 6, none⟩ = false ∧ w.frozen? ⟨B, 7, none⟩ = false ∧ w.frozen? ⟨B, 8, none⟩ = false ∧ w.frozen? ⟨B, 9, none⟩ = false :=
  ⟨blk_froz h 0, blk_froz h 1, blk_froz h 2, blk_froz h 3, blk_froz h 4, blk_froz h 5, blk_froz h 6, blk_froz h 7, blk_froz h 8, blk_froz h 9⟩
theorem vblk {w : World} {B : Nat} {v : CkW} {t : TypeId} (h : w.heap[B]? = some (.cells (vA v) t (0, 0))) : w.cell? ⟨B, 0, none⟩ = some (.int .i64 v.a.node) ∧ w.cell? ⟨B, 1, none⟩ = some (.string v.a.id) ∧ w.cell? ⟨B, 2, none⟩ = some (.string v.a.svc) ∧ w.cell? ⟨B, 3, none⟩ = some (.string v.a.note) ∧ w.cell? ⟨B, 4, none⟩ = some (.int .i64 v.a.status) ∧ w.cell? ⟨B, 5, none⟩ = some (.int .u64 (v.jm : Int)) ∧ w.cell? ⟨B, 6, none⟩ = some (.int .u64 (v.ji : Int)) :=
  ⟨cellsN h 0 _ rfl, cellsN h 1 _ rfl, cellsN h 2 _ rfl, cellsN h 3 _ rfl, cellsN h 4 _ rfl, cellsN h 5 _ rfl, cellsN h 6 _ rfl⟩
theorem tw_info : (Tryz.prog.info? 120).map (fun i => (i.zero, i.size, i.bytes)) = some (some (.agg #[.string ⟨#[]⟩, .int .i64 0, .string ⟨#[]⟩, .string ⟨#[]⟩, .string ⟨#[]⟩, .int .i64 0, .int .u64 0, .int .u64 0, .int .u64 0, .int .u64 0]), 10, 112) := by kernel_rfl
abbrev twRow (w : World) (base : Nat) (v : Value) (l : List (Rw CkW)) : Prop := rowK trC 120 10 w base v l
abbrev TIs := PtIs trC 10 143
abbrev TAt := PtAt trC 10 143
abbrev Now := NowIs trC 10 103 144
abbrev New := NewRows trC 10
section
variable {S : Nat → Prop} {w : World} {B c : Nat} {A : Option Addr} {t : Tb CkW}
theorem made_is (h : TIs S w B A c t) (h1 : 1 ≤ t.most) : Calls Tryz.prog 106 #[.pointer (some ⟨B, 0, none⟩)] w fun e w' => e = .returned (.bool true) ∧ w = w' := run_made_is
theorem made_yes (h : TAt S w B t) : Calls Tryz.prog 106 #[.pointer (some ⟨B, 0, none⟩)] w fun e w' => e = .returned (.bool true) ∧ w = w' := by
  obtain ⟨hok, A, c, h⟩ := h
  exact made_is h hok.most.1
set_option maxHeartbeats 1000000 in
theorem new_any (m : Int) (w : World) (hm : -9223372036854775808 ≤ m ∧ m ≤ 9223372036854775807) :
    Calls Tryz.prog 35 #[.int .i64 m] w fun e w' => ∃ B, e = .returned (.pointer (some ⟨B, 0, none⟩)) ∧ TAt (fun k => w.heap.size ≤ k) w' B ⟨mostT m, [], 0⟩ ∧ Below w.heap.size w w' := run_new_any
theorem last_any (h : TAt S w B t) : Calls Tryz.prog 70 #[.pointer (some ⟨B, 0, none⟩)] w fun e w' => e = .returned (.int .u64 (t.last : Int)) ∧ w = w' := run_last_any
theorem raise_is (i : Nat) (h : TIs S w B A c t) (h1 : 1 ≤ t.most) : Calls Tryz.prog 109 #[.pointer (some ⟨B, 0, none⟩), .int .u64 (i : Int)] w fun e w' => e = .returned (.tuple #[]) ∧ TIs S w' B A c (t.raise i) ∧ But (· = B) w w' := run_raise_is
theorem raise_any (i : Nat) (h : TAt S w B t) (hi : i < 18446744073709551616) : Calls Tryz.prog 109 #[.pointer (some ⟨B, 0, none⟩), .int .u64 (i : Int)] w fun e w' => e = .returned (.tuple #[]) ∧ TAt S w' B (t.raise i) ∧ But (· = B) w w' := by
  obtain ⟨hok, A, c, h⟩ := h
  exact (raise_is i h hok.most.1).mono fun e w' ⟨a, b, d⟩ => ⟨a, ⟨hok.raise hi, A, c, b⟩, d⟩
theorem values_any (A : Option Addr) (n c : Nat) (w : World) : Calls Tryz.prog 127 #[.slice A n c] w fun e w' => e = .returned (.func (.func 144) #[] #[.pointer (some ⟨w.heap.size, 0, none⟩)]) ∧ w' = w.alloc (.cells #[.slice A n c] 103) := by
  go_enter Tryz.func127, Tryz.ntmps127
  go_wp2
  go_ret
  exact ⟨rfl, rfl⟩
theorem now_is (h : TIs S w B A c t) (hmo : 1 ≤ t.most) : Calls Tryz.prog 95 #[.pointer (some ⟨B, 0, none⟩)] w fun e w' => ∃ v Bx, e = .returned v ∧ Now w w' v t.l Bx A c := run_now_is
end
end Go.Proofs.YtilkbfmaofmjoaaGreatDoor.Ct
