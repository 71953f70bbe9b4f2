/-
  What is asked of a field, by its place (layer 20).
-/
import Derived.Test.YtbhhalkpghcflaaZj22
namespace Go.Proofs.Ytbhhalkpghcflaa
open Go.RowKit
set_option linter.unusedSimpArgs false
set_option linter.unusedVariables false

/-- A command's own fields. -/
def CmW.vals (x : CmW) (tags : List (List UInt8)) : List Fv := [.num x.node, .num x.port, .num x.status, .text x.id, .text x.name, .text x.svc, .text x.note, .text x.key, .text x.val, .text x.src, .text x.dst, .texts tags, .flag x.allow, .idx x.old, .idx x.ses]
def rAt (x : CmW) (tags : List (List UInt8)) (sR : Bool) (k : Nat) : Bool := match (x.vals tags)[k]? with | some v => v.right | none => sR
def eAt (x : CmW) (tags : List (List UInt8)) (k : Nat) : Bool := match (x.vals tags)[k]? with | some v => v.empty | none => decide (x.sn = 0)
theorem Bx.c_ {w : World} {N : Nat} {x : CmW} (h : Bx w N x) (i : Nat) (v : Value) (hv : (cmC x)[i]? = some v) : w.cell? ⟨N, i, none⟩ = some v := by
  have := h.item i v hv
  rwa [Nat.zero_add] at this
def YesB (r : Bool) (w : World) (e : Ending) (w' : World) : Prop := e = .returned (.bool r) ∧ Below w.heap.size w w'
theorem yes_of {P : Program} {f : Nat} {A : Array Value} {w : World} {a b : Bool} (h : Calls P f A w fun e w' => e = .returned (.bool a) ∧ w = w') (he : a = b) : Calls P f A w (YesB b w) := h.mono fun e w' ⟨h1, h2⟩ => by subst h2; exact ⟨by rw [h1, he], Below.refl _ _⟩
theorem yes_ofB {P : Program} {f : Nat} {A : Array Value} {w : World} {a b : Bool} (h : Calls P f A w fun e w' => e = .returned (.bool a) ∧ Below w.heap.size w w') (he : a = b) : Calls P f A w (YesB b w) := h.mono fun e w' ⟨h1, h2⟩ => ⟨by rw [h1, he], h2⟩
section
variable {w : World} {N b k : Nat} {x : CmW} {tags : List (List UInt8)}
theorem empty_at (hB : Bx w N x) (h0 : Cm0 w x tags) (hb : w.cell? ⟨b, 0, none⟩ = some (.pointer (some ⟨N, 1 + k, none⟩))) (hk : k < 16) : Calls Try.prog (fnE k) #[.pointer (some ⟨b, 0, none⟩)] w (YesB (eAt x tags k) w) := by
  match k, hk with
  | 0, _ => exact yes_of (num_empty b _ x.node w hb (hB.c_ 1 _ rfl)) rfl
  | 1, _ => exact yes_of (num_empty b _ x.port w hb (hB.c_ 2 _ rfl)) rfl
  | 2, _ => exact yes_of (num_empty b _ x.status w hb (hB.c_ 3 _ rfl)) rfl
  | 3, _ => exact yes_of (text_empty b _ x.id w hb (hB.c_ 4 _ rfl)) rfl
  | 4, _ => exact yes_of (text_empty b _ x.name w hb (hB.c_ 5 _ rfl)) rfl
  | 5, _ => exact yes_of (text_empty b _ x.svc w hb (hB.c_ 6 _ rfl)) rfl
  | 6, _ => exact yes_of (text_empty b _ x.note w hb (hB.c_ 7 _ rfl)) rfl
  | 7, _ => exact yes_of (text_empty b _ x.key w hb (hB.c_ 8 _ rfl)) rfl
  | 8, _ => exact yes_of (text_empty b _ x.val w hb (hB.c_ 9 _ rfl)) rfl
  | 9, _ => exact yes_of (text_empty b _ x.src w hb (hB.c_ 10 _ rfl)) rfl
  | 10, _ => exact yes_of (text_empty b _ x.dst w hb (hB.c_ 11 _ rfl)) rfl
  | 11, _ => exact yes_of (texts_empty b _ x.tA x.tn x.tc w hb (hB.c_ 12 _ rfl) h0.small.tn) (by show _ = decide (tags = []); rw [← h0.len, decide_eq_decide]; exact List.length_eq_zero_iff)
  | 12, _ => exact yes_of (flag_empty b _ x.allow w hb (hB.c_ 13 _ rfl)) rfl
  | 13, _ => exact yes_of (idx_empty b _ x.old w hb (hB.c_ 14 _ rfl)) rfl
  | 14, _ => exact yes_of (idx_empty b _ x.ses w hb (hB.c_ 15 _ rfl)) rfl
  | 15, _ => exact yes_of (subs_empty b _ x.sA x.sn x.sc w hb (hB.c_ 16 _ rfl) h0.small.sn) rfl
  | k + 16, h => exact absurd h (by omega)
theorem right_at {subs : List Sub} {f : Sub → Bool} (hB : Bx w N x) (h0 : Cm0 w x tags) (hb : w.cell? ⟨b, 0, none⟩ = some (.pointer (some ⟨N, 1 + k, none⟩))) (hk : k < 16) (hs : k = 15 → (x.sn ≤ 8 → SK cmC 17 w x.sA x.sn (subs.map (·.1))) ∧ (x.sn ≤ 8 → ∀ y ∈ subs, Asks w y.1 (f y))) :
    Calls Try.prog (fnR k) (capR k b) w (YesB (rAt x tags (decide (x.sn ≤ 8) && subs.all f) k) w) := by
  match k, hk with
  | 0, _ => exact yes_of (num_right b _ x.node w hb (hB.c_ 1 _ rfl)) rfl
  | 1, _ => exact yes_of (num_right b _ x.port w hb (hB.c_ 2 _ rfl)) rfl
  | 2, _ => exact yes_of (num_right b _ x.status w hb (hB.c_ 3 _ rfl)) rfl
  | 3, _ => exact yes_of (text_right b _ x.id w hb (hB.c_ 4 _ rfl)) rfl
  | 4, _ => exact yes_of (text_right b _ x.name w hb (hB.c_ 5 _ rfl)) rfl
  | 5, _ => exact yes_of (text_right b _ x.svc w hb (hB.c_ 6 _ rfl)) rfl
  | 6, _ => exact yes_of (text_right b _ x.note w hb (hB.c_ 7 _ rfl)) rfl
  | 7, _ => exact yes_of (text_right b _ x.key w hb (hB.c_ 8 _ rfl)) rfl
  | 8, _ => exact yes_of (text_right b _ x.val w hb (hB.c_ 9 _ rfl)) rfl
  | 9, _ => exact yes_of (text_right b _ x.src w hb (hB.c_ 10 _ rfl)) rfl
  | 10, _ => exact yes_of (text_right b _ x.dst w hb (hB.c_ 11 _ rfl)) rfl
  | 11, _ => exact yes_ofB (texts_right b _ x.tA x.tn x.tc tags w hb (hB.c_ 12 _ rfl) h0.row h0.small.tn) rfl
  | 12, _ => exact yes_of (flag_right w) rfl
  | 13, _ => exact yes_of (idx_right w) rfl
  | 14, _ => exact yes_of (idx_right w) rfl
  | 15, _ => exact yes_ofB (subs_right b _ x.sA x.sn x.sc subs f w hb (hB.c_ 16 _ rfl) (hs rfl).1 h0.small.sn (hs rfl).2) rfl
  | k + 16, h => exact absurd h (by omega)
end
/-! ### The functions behind the accesses -/
theorem call_fnE (k : Nat) (hk : k < 16) (args : Array Value) (w : World) : (callFunc (fnE k) args).run Try.prog w = .ok (.enter (fnE k) args) w := by
  match k, hk with
  | 0, _ => show _ = _; kernel_rfl
  | 1, _ => show _ = _; kernel_rfl
  | 2, _ => show _ = _; kernel_rfl
  | 3, _ => show _ = _; kernel_rfl
  | 4, _ => show _ = _; kernel_rfl
  | 5, _ => show _ = _; kernel_rfl
  | 6, _ => show _ = _; kernel_rfl
  | 7, _ => show _ = _; kernel_rfl
  | 8, _ => show _ = _; kernel_rfl
  | 9, _ => show _ = _; kernel_rfl
  | 10, _ => show _ = _; kernel_rfl
  | 11, _ => show _ = _; kernel_rfl
  | 12, _ => show _ = _; kernel_rfl
  | 13, _ => show _ = _; kernel_rfl
  | 14, _ => show _ = _; kernel_rfl
  | 15, _ => show _ = _; kernel_rfl
  | k + 16, h => exact absurd h (by omega)
theorem call_fnR (k : Nat) (hk : k < 16) (args : Array Value) (w : World) : (callFunc (fnR k) args).run Try.prog w = .ok (.enter (fnR k) args) w := by
  match k, hk with
  | 0, _ => show _ = _; kernel_rfl
  | 1, _ => show _ = _; kernel_rfl
  | 2, _ => show _ = _; kernel_rfl
  | 3, _ => show _ = _; kernel_rfl
  | 4, _ => show _ = _; kernel_rfl
  | 5, _ => show _ = _; kernel_rfl
  | 6, _ => show _ = _; kernel_rfl
  | 7, _ => show _ = _; kernel_rfl
  | 8, _ => show _ = _; kernel_rfl
  | 9, _ => show _ = _; kernel_rfl
  | 10, _ => show _ = _; kernel_rfl
  | 11, _ => show _ = _; kernel_rfl
  | 12, _ => show _ = _; kernel_rfl
  | 13, _ => show _ = _; kernel_rfl
  | 14, _ => show _ = _; kernel_rfl
  | 15, _ => show _ = _; kernel_rfl
  | k + 16, h => exact absurd h (by omega)
theorem call_fnL (k : Nat) (hk : k < 16) (args : Array Value) (w : World) : (callFunc (fnL k) args).run Try.prog w = .ok (.enter (fnL k) args) w := by
  match k, hk with
  | 0, _ => show _ = _; kernel_rfl
  | 1, _ => show _ = _; kernel_rfl
  | 2, _ => show _ = _; kernel_rfl
  | 3, _ => show _ = _; kernel_rfl
  | 4, _ => show _ = _; kernel_rfl
  | 5, _ => show _ = _; kernel_rfl
  | 6, _ => show _ = _; kernel_rfl
  | 7, _ => show _ = _; kernel_rfl
  | 8, _ => show _ = _; kernel_rfl
  | 9, _ => show _ = _; kernel_rfl
  | 10, _ => show _ = _; kernel_rfl
  | 11, _ => show _ = _; kernel_rfl
  | 12, _ => show _ = _; kernel_rfl
  | 13, _ => show _ = _; kernel_rfl
  | 14, _ => show _ = _; kernel_rfl
  | 15, _ => show _ = _; kernel_rfl
  | k + 16, h => exact absurd h (by omega)
theorem call_fnD (k : Nat) (hk : k < 16) (args : Array Value) (w : World) : (callFunc (fnD k) args).run Try.prog w = .ok (.enter (fnD k) args) w := by
  match k, hk with
  | 0, _ => show _ = _; kernel_rfl
  | 1, _ => show _ = _; kernel_rfl
  | 2, _ => show _ = _; kernel_rfl
  | 3, _ => show _ = _; kernel_rfl
  | 4, _ => show _ = _; kernel_rfl
  | 5, _ => show _ = _; kernel_rfl
  | 6, _ => show _ = _; kernel_rfl
  | 7, _ => show _ = _; kernel_rfl
  | 8, _ => show _ = _; kernel_rfl
  | 9, _ => show _ = _; kernel_rfl
  | 10, _ => show _ = _; kernel_rfl
  | 11, _ => show _ = _; kernel_rfl
  | 12, _ => show _ = _; kernel_rfl
  | 13, _ => show _ = _; kernel_rfl
  | 14, _ => show _ = _; kernel_rfl
  | 15, _ => show _ = _; kernel_rfl
  | k + 16, h => exact absurd h (by omega)
theorem ac_index (h k : Nat) (hk : k < 16) (w : World) : (Instr.index TAcs (.agg (acCs h).toArray) (.int .i64 (k : Int))).run Try.prog w = .ok (.agg (acC k (h + 1 + 2 * k)).toArray) w := by
  match k, hk with
  | 0, _ => show _ = _; kernel_rfl
  | 1, _ => show _ = _; kernel_rfl
  | 2, _ => show _ = _; kernel_rfl
  | 3, _ => show _ = _; kernel_rfl
  | 4, _ => show _ = _; kernel_rfl
  | 5, _ => show _ = _; kernel_rfl
  | 6, _ => show _ = _; kernel_rfl
  | 7, _ => show _ = _; kernel_rfl
  | 8, _ => show _ = _; kernel_rfl
  | 9, _ => show _ = _; kernel_rfl
  | 10, _ => show _ = _; kernel_rfl
  | 11, _ => show _ = _; kernel_rfl
  | 12, _ => show _ = _; kernel_rfl
  | 13, _ => show _ = _; kernel_rfl
  | 14, _ => show _ = _; kernel_rfl
  | 15, _ => show _ = _; kernel_rfl
  | k + 16, h => exact absurd h (by omega)
end Go.Proofs.Ytbhhalkpghcflaa
