/-
  What the laws of layer 15 need of the program's table holds of it.
-/
import Derived.Test.YtphjlcogjalidaaTpDrop
import Derived.Test.YtphjlcogjalidaaTpUnder
namespace Go.Proofs.Ytphjlcogjalidaa
open Go.RowKit
set_option linter.unusedVariables false

theorem prg : Prg PtAt where
  ok h := h.1
  mine h := by
    obtain ⟨_, A, c, h1⟩ := h
    exact h1.mine
  lt h := h.lt
  but h hb hS := h.but hb hS
  narrow h hs := h.narrow hs
  new m w hm := new_any m w hm
  put k v i w h hi hk := put_any k v i h hi hk
  drop k i w h hi _ := drop_any k i h hi
  get k w h _ := get_any k h
  raise i w h hi := raise_any i h hi
  last w h := last_any h
  count w h := count_any h
  list w h := list_any h
  under p w h hp := under_t p h hp
  copy w h := copy_any h
end Go.Proofs.Ytphjlcogjalidaa
