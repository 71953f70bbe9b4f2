/-
  Whether a command may have such commands (layer 20): every, over commands.
-/
import Derived.Test.YtbhhalkpghcflaaZj12
import Derived.Test.YtbhhalkpghcflaaZj8
namespace Go.Proofs.Ytbhhalkpghcflaa
open Go.RowKit
set_option linter.unusedSimpArgs false
set_option linter.unusedVariables false

abbrev Sub := CmW × List (List UInt8)
/-- What is asked of a command within one. -/
def Asks (w : World) (y : CmW) (r : Bool) : Prop := ∀ w', Below w.heap.size w w' → Calls Try.prog 16 #[cmV y, .int .u64 32767] w' fun e w'' => e = .returned (.bool r) ∧ Below w'.heap.size w' w''
theorem Asks.below {w w' : World} {y : CmW} {r : Bool} (h : Asks w y r) (hb : Below w.heap.size w w') : Asks w' y r := fun w2 h2 => h w2 (hb.trans (h2.mono hb.size))
theorem inner_right (y : CmW) (r : Bool) (w : World) (h : Asks w y r) : Calls Try.prog 88 #[cmV y] w fun e w' => e = .returned (.bool r) ∧ Below w.heap.size w w' := by
  have C := Lib.hid (h _ ((Below.refl _ w).alloc (Nat.le_refl _) (.cells (cmC y).toArray TCm)))
  have HIt := Lib.hid (Bx.new w y).item
  clear h
  unfold cmV strV
  unfold cmV cmC strV at C
  go_enter Try.func88, Try.ntmps88
  go_wp2_with (first | (refine wpList_load_mid rfl TCm (.tmp 1) rfl w.heap.size 0 rfl (cmC y) _ HIt.out Try.underlying26 rfl (by kernel_rfl) ?_; unfold cmC strV) | (go_at_call 16; refine C.out.mono ?_; rintro e w6 ⟨rfl, hb6⟩; have HB := Lib.hid hb6; clear hb6))
  go_ret
  exact ⟨rfl, ((Below.refl _ w).alloc (Nat.le_refl _) _).trans (HB.out.mono (by simp))⟩
theorem not_cmd (b : Nat) (y : CmW) (r : Bool) (w : World) (hc : w.cell? ⟨b, 0, none⟩ = some (.func (.func 88) #[] #[])) (h : Asks w y r) : Calls Try.prog 102 #[cmV y, .pointer (some ⟨b, 0, none⟩)] w fun e w' => e = .returned (.bool (!r)) ∧ Below w.heap.size w w' := by
  have hb0 := (Below.refl _ w).alloc (Nat.le_refl _) (.cells (cmC y).toArray TCm)
  have C := Lib.hid (inner_right y r _ (h.below hb0))
  have HIt := Lib.hid (Bx.new w y).item
  have hc' : (w.alloc (.cells (cmC y).toArray TCm)).cell? ⟨b, 0, none⟩ = some (.func (.func 88) #[] #[]) := (hb0.cell (p := ⟨b, 0, none⟩) (World.block_lt_of_cell? _ _ hc)).trans hc
  unfold cmC strV at hc'
  clear h hb0
  unfold cmV strV
  unfold cmV cmC strV at C
  go_enter Try.func102, Try.ntmps102
  go_wp2_with (first | (refine wpList_load_mid rfl TCm (.tmp 2) rfl w.heap.size 0 rfl (cmC y) _ HIt.out Try.underlying26 rfl (by kernel_rfl) ?_; unfold cmC strV) | (go_at_call 88; refine C.out.mono ?_; rintro e w6 ⟨rfl, hb6⟩; have HB := Lib.hid hb6; clear hb6))
  go_ret
  exact ⟨rfl, ((Below.refl _ w).alloc (Nat.le_refl _) _).trans (HB.out.mono (by simp))⟩
set_option maxHeartbeats 2000000 in
theorem index_cmd (A : Option Addr) (n c b : Nat) (l : List Sub) (f : Sub → Bool) (w : World) (hr : SK cmC 17 w A n (l.map (·.1))) (hn : n ≤ maxLen) (h : w.cell? ⟨b, 0, none⟩ = some (.func (.func 88) #[] #[])) (ha : ∀ y ∈ l, Asks w y.1 (f y)) :
    Calls Try.prog 105 #[.slice A n c, .func (.func 102) #[] #[.pointer (some ⟨b, 0, none⟩)]] w (Idx (!l.all f) w) := by
  have hbl : b < w.heap.size := World.block_lt_of_cell? _ _ h
  have C := Lib.hid (fun y (hy : y ∈ l) w' (hb : Below w.heap.size w w') => not_cmd b y.1 (f y) w' ((hb.cell (p := ⟨b, 0, none⟩) hbl).trans h) ((ha y hy).below hb))
  have hl : l.length = n := by simpa using hr.1
  have HR := Lib.hid hr
  have HL := Lib.hid hl
  unfold maxLen at hn
  clear hr hl h ha hbl
  go_enter Try.func105, Try.ntmps105
  go_wp2
  go_loopw [8] (fun i w' => ∃ k : Nat, k ≤ n ∧ i = .int .i64 k ∧ UpTo (fun _ s => f s) l k ∧ Below w.heap.size w w') (fun i _ => n - (intOf i).toNat)
  case atStart => exact ⟨0, Nat.zero_le _, rfl, UpTo.zero _ _, Below.refl _ _⟩
  case round =>
    obtain ⟨k, hk, rfl, hU, hb⟩ := hrel
    have HU := Lib.hid hU
    have HB := Lib.hid hb
    clear hU hb
    by_cases hlt : k < n
    · obtain ⟨p, off, e, hpl, hit⟩ := (HR.out.below HB.out).at_ hlt (by simpa [HL.out] using hlt)
      obtain ⟨y, hs⟩ : ∃ y, l[k]'(by rw [HL.out]; exact hlt) = y := ⟨_, rfl⟩
      rw [List.getElem_map, hs] at hit
      have HIt := Lib.hid hit
      have HS := Lib.hid hs
      have hm : y ∈ l := by rw [← hs]; exact List.getElem_mem _
      have HM := Lib.hid hm
      subst e
      have C2 := Lib.hid (C.out y hm wr HB.out)
      clear hs hm hit hpl
      unfold cmV strV at C2
      cases ht : f y with
      | true =>
        rw [ht] at C2
        have HT := Lib.hid ht
        clear ht
        go_wp2_with (first | (refine wpList_load_mid rfl TCm (.tmp 14) rfl p (off + k * 17) rfl (cmC y.1) _ HIt.out Try.underlying26 rfl (by kernel_rfl) ?_; unfold cmC strV) | (go_at_call 102; refine C2.out.mono ?_; rintro e w6 ⟨rfl, hb6⟩; have HB6 := Lib.hid hb6; clear hb6))
        go_roundw
        case rel => exact ⟨k + 1, by omega, by go_num, HU.out.next (by rw [HL.out]; exact hlt) (by rw [HS.out]; exact HT.out), HB.out.trans (HB6.out.mono HB.out.size)⟩
        case measure => simp [intOf]; omega
      | false =>
        rw [ht] at C2
        have HT := Lib.hid ht
        clear ht
        go_wp2_with (first | (refine wpList_load_mid rfl TCm (.tmp 14) rfl p (off + k * 17) rfl (cmC y.1) _ HIt.out Try.underlying26 rfl (by kernel_rfl) ?_; unfold cmC strV) | (go_at_call 102; refine C2.out.mono ?_; rintro e w6 ⟨rfl, hb6⟩; have HB6 := Lib.hid hb6; clear hb6))
        go_ret
        exact ⟨k, rfl, by rw [all_no HM.out HT.out]; simp, HB.out.trans (HB6.out.mono HB.out.size)⟩
    · obtain rfl : k = n := by omega
      go_wp2
      go_ret
      exact ⟨-1, rfl, by rw [HU.out.all_ (f := f) (Nat.le_of_eq HL.out)]; rfl, HB.out⟩
theorem contains_cmd (A : Option Addr) (n c b : Nat) (l : List Sub) (f : Sub → Bool) (w : World) (hr : SK cmC 17 w A n (l.map (·.1))) (hn : n ≤ maxLen) (h : w.cell? ⟨b, 0, none⟩ = some (.func (.func 88) #[] #[])) (ha : ∀ y ∈ l, Asks w y.1 (f y)) :
    Calls Try.prog 101 #[.slice A n c, .func (.func 102) #[] #[.pointer (some ⟨b, 0, none⟩)]] w fun e w' => e = .returned (.bool (!l.all f)) ∧ Below w.heap.size w w' := by
  have C := Lib.hid (index_cmd A n c b l f w hr hn h ha)
  obtain ⟨B, hB⟩ : ∃ B, (!l.all f) = B := ⟨_, rfl⟩
  rw [hB] at C ⊢
  clear hr hn h hB ha
  go_enter Try.func101, Try.ntmps101
  go_wp2_with (go_at_call 105; refine C.out.mono ?_; rintro e w1 ⟨z, rfl, hz, hb⟩; have HB := Lib.hid hb; have HZ := Lib.hid hz; clear hb hz)
  go_ret
  exact ⟨rb HZ.out, HB.out⟩
theorem every_cmd (A : Option Addr) (n c : Nat) (l : List Sub) (f : Sub → Bool) (w : World) (hr : SK cmC 17 w A n (l.map (·.1))) (hn : n ≤ maxLen) (ha : ∀ y ∈ l, Asks w y.1 (f y)) :
    Calls Try.prog 87 #[.slice A n c, .func (.func 88) #[] #[]] w fun e w' => e = .returned (.bool (l.all f)) ∧ Below w.heap.size w w' := by
  have hb0 := (Below.refl _ w).alloc (Nat.le_refl _) (.cells #[.func (.func 88) #[] #[]] 27)
  have C := Lib.hid (contains_cmd A n c w.heap.size l f (w.alloc (.cells #[.func (.func 88) #[] #[]] 27)) (hr.below hb0) hn (by rw [cell_of_row _ w.heap.size 0 _ _ (0, 0) (heap_alloc_new w _)]; rfl) (fun y hy => (ha y hy).below hb0))
  have hmf := hmf
  obtain ⟨B, hB⟩ : ∃ B, l.all f = B := ⟨_, rfl⟩
  rw [hB] at C ⊢
  clear hr hn hB ha hb0
  go_enter Try.func87, Try.ntmps87
  go_wp2_with (go_at_call 101; refine C.out.mono ?_; rintro e w1 ⟨rfl, hb⟩; have HB := Lib.hid hb; clear hb)
  go_ret
  exact ⟨by simp, ((Below.refl _ w).alloc (Nat.le_refl _) _).trans (HB.out.mono (by simp))⟩
theorem subs_empty (b : Nat) (p : Addr) (A : Option Addr) (n c : Nat) (w : World) (h1 : w.cell? ⟨b, 0, none⟩ = some (.pointer (some p))) (h2 : w.cell? p = some (.slice A n c)) (hn : n ≤ maxLen) : Calls Try.prog 85 #[.pointer (some ⟨b, 0, none⟩)] w fun e w' => e = .returned (.bool (decide (n = 0))) ∧ w = w' := by
  unfold maxLen at hn
  go_enter Try.func85, Try.ntmps85
  go_wp2
  go_ret
  exact ⟨rb (show ((n : Int) == 0) = decide (n = 0) by rw [Bool.eq_iff_iff]; simp), rfl⟩
theorem subs_right (b : Nat) (p : Addr) (A : Option Addr) (n c : Nat) (l : List Sub) (f : Sub → Bool) (w : World) (h1 : w.cell? ⟨b, 0, none⟩ = some (.pointer (some p))) (h2 : w.cell? p = some (.slice A n c)) (hr : n ≤ 8 → SK cmC 17 w A n (l.map (·.1))) (hn : n ≤ maxLen) (ha : n ≤ 8 → ∀ y ∈ l, Asks w y.1 (f y)) : Calls Try.prog 86 #[.pointer (some ⟨b, 0, none⟩)] w fun e w' => e = .returned (.bool (decide (n ≤ 8) && l.all f)) ∧ Below w.heap.size w w' := by
  by_cases h8 : n ≤ 8
  · have C := Lib.hid (every_cmd A n c l f w (hr h8) hn (ha h8))
    unfold maxLen at hn
    obtain ⟨B, hB⟩ : ∃ B, l.all f = B := ⟨_, rfl⟩
    rw [hB] at C ⊢
    clear hr hB ha
    have g : decide ((n : Int) ≤ 8) = true := decide_eq_true (by omega)
    rw [decide_eq_true h8, Bool.true_and]
    go_enter Try.func86, Try.ntmps86
    go_wp2_with (go_at_call 87; refine C.out.mono ?_; rintro e w1 ⟨rfl, hb⟩; have HB := Lib.hid hb; clear hb)
    go_ret
    exact ⟨rfl, HB.out⟩
  · clear hr ha
    unfold maxLen at hn
    have g : decide ((n : Int) ≤ 8) = false := decide_eq_false (by omega)
    rw [decide_eq_false h8, Bool.false_and]
    go_enter Try.func86, Try.ntmps86
    go_wp2
    go_ret
    exact ⟨rfl, Below.refl _ _⟩
end Go.Proofs.Ytbhhalkpghcflaa
/-
  What is asked of a field, by its place (layer 20).
-/
namespace Go.Proofs.Ytbhhalkpghcflaa
open Go.RowKit
set_option linter.unusedSimpArgs false
set_option linter.unusedVariables false

/-- A command's own fields. -/
def CmW.vals (x : CmW) (tags : List (List UInt8)) : List Fv := [.num x.node, .num x.port, .num x.status, .text x.id, .text x.name, .text x.svc, .text x.note, .text x.key, .text x.val, .text x.src, .text x.dst, .texts tags, .flag x.allow, .idx x.old, .idx x.ses]
def rAt (x : CmW) (tags : List (List UInt8)) (sR : Bool) (k : Nat) : Bool := match (x.vals tags)[k]? with | some v => v.right | none => sR
def eAt (x : CmW) (tags : List (List UInt8)) (k : Nat) : Bool := match (x.vals tags)[k]? with | some v => v.empty | none => decide (x.sn = 0)
theorem Bx.c_ {w : World} {N : Nat} {x : CmW} (h : Bx w N x) (i : Nat) (v : Value) (hv : (cmC x)[i]? = some v) : w.cell? ⟨N, i, none⟩ = some v := by
  have := h.item i v hv
  rwa [Nat.zero_add] at this
def YesB (r : Bool) (w : World) (e : Ending) (w' : World) : Prop := e = .returned (.bool r) ∧ Below w.heap.size w w'
theorem yes_of {P : Program} {f : Nat} {A : Array Value} {w : World} {a b : Bool} (h : Calls P f A w fun e w' => e = .returned (.bool a) ∧ w = w') (he : a = b) : Calls P f A w (YesB b w) := h.mono fun e w' ⟨h1, h2⟩ => by subst h2; exact ⟨by rw [h1, he], Below.refl _ _⟩
theorem yes_ofB {P : Program} {f : Nat} {A : Array Value} {w : World} {a b : Bool} (h : Calls P f A w fun e w' => e = .returned (.bool a) ∧ Below w.heap.size w w') (he : a = b) : Calls P f A w (YesB b w) := h.mono fun e w' ⟨h1, h2⟩ => ⟨by rw [h1, he], h2⟩
section
variable {w : World} {N b k : Nat} {x : CmW} {tags : List (List UInt8)}
theorem empty_at (hB : Bx w N x) (h0 : Cm0 w x tags) (hb : w.cell? ⟨b, 0, none⟩ = some (.pointer (some ⟨N, 1 + k, none⟩))) (hk : k < 16) : Calls Try.prog (fnE k) #[.pointer (some ⟨b, 0, none⟩)] w (YesB (eAt x tags k) w) := by
  match k, hk with
  | 0, _ => exact yes_of (num_empty b _ x.node w hb (hB.c_ 1 _ rfl)) rfl
  | 1, _ => exact yes_of (num_empty b _ x.port w hb (hB.c_ 2 _ rfl)) rfl
  | 2, _ => exact yes_of (num_empty b _ x.status w hb (hB.c_ 3 _ rfl)) rfl
  | 3, _ => exact yes_of (text_empty b _ x.id w hb (hB.c_ 4 _ rfl)) rfl
  | 4, _ => exact yes_of (text_empty b _ x.name w hb (hB.c_ 5 _ rfl)) rfl
  | 5, _ => exact yes_of (text_empty b _ x.svc w hb (hB.c_ 6 _ rfl)) rfl
  | 6, _ => exact yes_of (text_empty b _ x.note w hb (hB.c_ 7 _ rfl)) rfl
  | 7, _ => exact yes_of (text_empty b _ x.key w hb (hB.c_ 8 _ rfl)) rfl
  | 8, _ => exact yes_of (text_empty b _ x.val w hb (hB.c_ 9 _ rfl)) rfl
  | 9, _ => exact yes_of (text_empty b _ x.src w hb (hB.c_ 10 _ rfl)) rfl
  | 10, _ => exact yes_of (text_empty b _ x.dst w hb (hB.c_ 11 _ rfl)) rfl
  | 11, _ => exact yes_of (texts_empty b _ x.tA x.tn x.tc w hb (hB.c_ 12 _ rfl) h0.small.tn) (by show _ = decide (tags = []); rw [← h0.len, decide_eq_decide]; exact List.length_eq_zero_iff)
  | 12, _ => exact yes_of (flag_empty b _ x.allow w hb (hB.c_ 13 _ rfl)) rfl
  | 13, _ => exact yes_of (idx_empty b _ x.old w hb (hB.c_ 14 _ rfl)) rfl
  | 14, _ => exact yes_of (idx_empty b _ x.ses w hb (hB.c_ 15 _ rfl)) rfl
  | 15, _ => exact yes_of (subs_empty b _ x.sA x.sn x.sc w hb (hB.c_ 16 _ rfl) h0.small.sn) rfl
  | k + 16, h => exact absurd h (by omega)
theorem right_at {subs : List Sub} {f : Sub → Bool} (hB : Bx w N x) (h0 : Cm0 w x tags) (hb : w.cell? ⟨b, 0, none⟩ = some (.pointer (some ⟨N, 1 + k, none⟩))) (hk : k < 16) (hs : k = 15 → (x.sn ≤ 8 → SK cmC 17 w x.sA x.sn (subs.map (·.1))) ∧ (x.sn ≤ 8 → ∀ y ∈ subs, Asks w y.1 (f y))) :
    Calls Try.prog (fnR k) (capR k b) w (YesB (rAt x tags (decide (x.sn ≤ 8) && subs.all f) k) w) := by
  match k, hk with
  | 0, _ => exact yes_of (num_right b _ x.node w hb (hB.c_ 1 _ rfl)) rfl
  | 1, _ => exact yes_of (num_right b _ x.port w hb (hB.c_ 2 _ rfl)) rfl
  | 2, _ => exact yes_of (num_right b _ x.status w hb (hB.c_ 3 _ rfl)) rfl
  | 3, _ => exact yes_of (text_right b _ x.id w hb (hB.c_ 4 _ rfl)) rfl
  | 4, _ => exact yes_of (text_right b _ x.name w hb (hB.c_ 5 _ rfl)) rfl
  | 5, _ => exact yes_of (text_right b _ x.svc w hb (hB.c_ 6 _ rfl)) rfl
  | 6, _ => exact yes_of (text_right b _ x.note w hb (hB.c_ 7 _ rfl)) rfl
  | 7, _ => exact yes_of (text_right b _ x.key w hb (hB.c_ 8 _ rfl)) rfl
  | 8, _ => exact yes_of (text_right b _ x.val w hb (hB.c_ 9 _ rfl)) rfl
  | 9, _ => exact yes_of (text_right b _ x.src w hb (hB.c_ 10 _ rfl)) rfl
  | 10, _ => exact yes_of (text_right b _ x.dst w hb (hB.c_ 11 _ rfl)) rfl
  | 11, _ => exact yes_ofB (texts_right b _ x.tA x.tn x.tc tags w hb (hB.c_ 12 _ rfl) h0.row h0.small.tn) rfl
  | 12, _ => exact yes_of (flag_right w) rfl
  | 13, _ => exact yes_of (idx_right w) rfl
  | 14, _ => exact yes_of (idx_right w) rfl
  | 15, _ => exact yes_ofB (subs_right b _ x.sA x.sn x.sc subs f w hb (hB.c_ 16 _ rfl) (hs rfl).1 h0.small.sn (hs rfl).2) rfl
  | k + 16, h => exact absurd h (by omega)
end
/-! ### The functions behind the accesses -/
theorem call_fnE (k : Nat) (hk : k < 16) (args : Array Value) (w : World) : (callFunc (fnE k) args).run Try.prog w = .ok (.enter (fnE k) args) w := by
  match k, hk with
  | 0, _ => show _ = _; kernel_rfl
  | 1, _ => show _ = _; kernel_rfl
  | 2, _ => show _ = _; kernel_rfl
  | 3, _ => show _ = _; kernel_rfl
  | 4, _ => show _ = _; kernel_rfl
  | 5, _ => show _ = _; kernel_rfl
  | 6, _ => show _ = _; kernel_rfl
  | 7, _ => show _ = _; kernel_rfl
  | 8, _ => show _ = _; kernel_rfl
  | 9, _ => show _ = _; kernel_rfl
  | 10, _ => show _ = _; kernel_rfl
  | 11, _ => show _ = _; kernel_rfl
  | 12, _ => show _ = _; kernel_rfl
  | 13, _ => show _ = _; kernel_rfl
  | 14, _ => show _ = _; kernel_rfl
  | 15, _ => show _ = _; kernel_rfl
  | k + 16, h => exact absurd h (by omega)
theorem call_fnR (k : Nat) (hk : k < 16) (args : Array Value) (w : World) : (callFunc (fnR k) args).run Try.prog w = .ok (.enter (fnR k) args) w := by
  match k, hk with
  | 0, _ => show _ = _; kernel_rfl
  | 1, _ => show _ = _; kernel_rfl
  | 2, _ => show _ = _; kernel_rfl
  | 3, _ => show _ = _; kernel_rfl
  | 4, _ => show _ = _; kernel_rfl
  | 5, _ => show _ = _; kernel_rfl
  | 6, _ => show _ = _; kernel_rfl
  | 7, _ => show _ = _; kernel_rfl
  | 8, _ => show _ = _; kernel_rfl
  | 9, _ => show _ = _; kernel_rfl
  | 10, _ => show _ = _; kernel_rfl
  | 11, _ => show _ = _; kernel_rfl
  | 12, _ => show _ = _; kernel_rfl
  | 13, _ => show _ = _; kernel_rfl
  | 14, _ => show _ = _; kernel_rfl
  | 15, _ => show _ = _; kernel_rfl
  | k + 16, h => exact absurd h (by omega)
theorem call_fnL (k : Nat) (hk : k < 16) (args : Array Value) (w : World) : (callFunc (fnL k) args).run Try.prog w = .ok (.enter (fnL k) args) w := by
  match k, hk with
  | 0, _ => show _ = _; kernel_rfl
  | 1, _ => show _ = _; kernel_rfl
  | 2, _ => show _ = _; kernel_rfl
  | 3, _ => show _ = _; kernel_rfl
  | 4, _ => show _ = _; kernel_rfl
  | 5, _ => show _ = _; kernel_rfl
  | 6, _ => show _ = _; kernel_rfl
  | 7, _ => show _ = _; kernel_rfl
  | 8, _ => show _ = _; kernel_rfl
  | 9, _ => show _ = _; kernel_rfl
  | 10, _ => show _ = _; kernel_rfl
  | 11, _ => show _ = _; kernel_rfl
  | 12, _ => show _ = _; kernel_rfl
  | 13, _ => show _ = _; kernel_rfl
  | 14, _ => show _ = _; kernel_rfl
  | 15, _ => show _ = _; kernel_rfl
  | k + 16, h => exact absurd h (by omega)
theorem call_fnD (k : Nat) (hk : k < 16) (args : Array Value) (w : World) : (callFunc (fnD k) args).run Try.prog w = .ok (.enter (fnD k) args) w := by
  match k, hk with
  | 0, _ => show _ = _; kernel_rfl
  | 1, _ => show _ = _; kernel_rfl
  | 2, _ => show _ = _; kernel_rfl
  | 3, _ => show _ = _; kernel_rfl
  | 4, _ => show _ = _; kernel_rfl
  | 5, _ => show _ = _; kernel_rfl
  | 6, _ => show _ = _; kernel_rfl
  | 7, _ => show _ = _; kernel_rfl
  | 8, _ => show _ = _; kernel_rfl
  | 9, _ => show _ = _; kernel_rfl
  | 10, _ => show _ = _; kernel_rfl
  | 11, _ => show _ = _; kernel_rfl
  | 12, _ => show _ = _; kernel_rfl
  | 13, _ => show _ = _; kernel_rfl
  | 14, _ => show _ = _; kernel_rfl
  | 15, _ => show _ = _; kernel_rfl
  | k + 16, h => exact absurd h (by omega)
theorem ac_index (h k : Nat) (hk : k < 16) (w : World) : (Instr.index TAcs (.agg (acCs h).toArray) (.int .i64 (k : Int))).run Try.prog w = .ok (.agg (acC k (h + 1 + 2 * k)).toArray) w := by
  match k, hk with
  | 0, _ => show _ = _; kernel_rfl
  | 1, _ => show _ = _; kernel_rfl
  | 2, _ => show _ = _; kernel_rfl
  | 3, _ => show _ = _; kernel_rfl
  | 4, _ => show _ = _; kernel_rfl
  | 5, _ => show _ = _; kernel_rfl
  | 6, _ => show _ = _; kernel_rfl
  | 7, _ => show _ = _; kernel_rfl
  | 8, _ => show _ = _; kernel_rfl
  | 9, _ => show _ = _; kernel_rfl
  | 10, _ => show _ = _; kernel_rfl
  | 11, _ => show _ = _; kernel_rfl
  | 12, _ => show _ = _; kernel_rfl
  | 13, _ => show _ = _; kernel_rfl
  | 14, _ => show _ = _; kernel_rfl
  | 15, _ => show _ = _; kernel_rfl
  | k + 16, h => exact absurd h (by omega)
end Go.Proofs.Ytbhhalkpghcflaa
