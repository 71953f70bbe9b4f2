import Derived.Test.YtaicipldjmngaaaGreatDoorZj16
namespace Go.Proofs.YtaicipldjmngaaaGreatDoor
open Go.RowKit
set_option linter.unusedSimpArgs false
end Go.Proofs.YtaicipldjmngaaaGreatDoor

namespace Go.Proofs.YtaicipldjmngaaaGreatDoor
open Go.RowKit
set_option linter.unusedSimpArgs false
end Go.Proofs.YtaicipldjmngaaaGreatDoor

namespace Go.Proofs.YtaicipldjmngaaaGreatDoor
open Go.RowKit
set_option linter.unusedSimpArgs false
theorem AddD.apart {w : World} {A : Option Addr} {n c : Nat} {xs : List UInt8} (h : RB w A n xs) (hn : A = none → c = 0) (hnc : n ≤ c) (base : Nat) : AddD w base (.slice A n n) n xs :=
  .inr ⟨A, rfl, h, fun e => by have := hn e; omega⟩
end Go.Proofs.YtaicipldjmngaaaGreatDoor

namespace Go.Proofs.YtaicipldjmngaaaGreatDoor
open Go.RowKit
set_option linter.unusedSimpArgs false
end Go.Proofs.YtaicipldjmngaaaGreatDoor

namespace Go.Proofs.YtaicipldjmngaaaGreatDoor
open Go.RowKit
set_option linter.unusedSimpArgs false
end Go.Proofs.YtaicipldjmngaaaGreatDoor
