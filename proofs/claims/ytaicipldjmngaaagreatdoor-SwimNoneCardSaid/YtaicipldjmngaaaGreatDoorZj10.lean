import Derived.Test.YtaicipldjmngaaaGreatDoorZj6
import Derived.LoopIn
import Derived.RegionTactic
import Derived.ChangeAlike
namespace Go.Proofs.YtaicipldjmngaaaGreatDoor.dr
open Go.RowKit
set_option linter.unusedSimpArgs false
theorem int_info : (Tryz.prog.info? 3).map (fun i => (i.zero, i.size, i.bytes)) = some (some (.int .i64 0), 1, 8) := by kernel_rfl
theorem DwAt.wide {S : Nat → Prop} {w : World} {v : Value} {d : Dr} (h : DwAt S w v d) : DwAt (fun k => S k ∨ w.heap.size ≤ k) w v d :=
  ⟨h.1, h.2.imp id fun ⟨B, A, n, c, e, h0, hh, hr, h1⟩ => ⟨B, A, n, c, e, .inl h0, hh, hr.narrow (fun k hk h => h.resolve_right (by omega)), h1⟩⟩
theorem DwAt.names {S : Nat → Prop} {w : World} {v : Value} {d : Dr} (h : DwAt S w v d) (k : Nat) (hk : Tgt v k) : S k := by
  rcases h.2 with ⟨e, _⟩ | ⟨B, A, n, c, e, h0, _⟩
  · rw [Tgt, e] at hk; cases hk
  · rw [Tgt, e] at hk
    simp only [Value.pointer.injEq, Option.some.injEq, Addr.mk.injEq] at hk
    obtain ⟨rfl, _⟩ := hk
    exact h0
end Go.Proofs.YtaicipldjmngaaaGreatDoor.dr
