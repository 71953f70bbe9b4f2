/-
  Read; readers that are not there, and such as no call made (layer 4).
-/
import Derived.Test.YtbhhalkpghcflaaZj23
namespace Go.Proofs.Ytbhhalkpghcflaa
open Go.RowKit
set_option linter.unusedSimpArgs false

theorem read_any (A : Option Addr) (n c : Nat) (xs : List UInt8) (w : World) (h : RB w A n xs) (hnil : A = none → c = 0) (_ : n ≤ c) (hn : n ≤ 140737488355328) :
    Calls Try.prog 24 #[.slice A n c] w fun e w' => ∃ B, e = .returned (.pointer (some ⟨B, 0, none⟩)) ∧ w.heap.size ≤ B ∧ RdAt (fun k => k = B ∨ k < w.heap.size) w' B ⟨xs, 0⟩ ∧ Below w.heap.size w w' := by
  obtain ⟨i0, hi, hz0, hz1, hz2⟩ := info_parts u8_info
  have HR := Lib.hid h
  have HNil := Lib.hid hnil
  clear h hnil
  go_enter Try.func24, Try.ntmps24
  go_wp2_with (at_builtin; refine wpList_append_rbh rfl (.const (.slice none 0 0)) (.tmp 3) 32 rfl w.heap.size i0 Try.underlying32 hi hz0 hz1 hz2 _ 0 [] rfl (World.ownsRow_nil _ _ _ _) A n c xs rfl HNil.out HR.out ?c1 ?c2 ?c3 ?_)
  case c1 => unfold maxLen; omega
  case c2 => omega
  case c3 => exact Nat.le_refl _
  refine Lib.hid ?_
  intro v1 w1 hown1 hg1
  have hown : w1.ownsRow w.heap.size 5 1 v1 n (xs.map byteV) := by simpa using hown1
  have HB1 : Hid (Below w.heap.size w w1) := Lib.hid ((Below.refl _ w).grown hg1 (Nat.le_refl _) (fun j hj => by simp [Value.ownBlock] at hj))
  obtain ⟨A1, c1, rfl, hr1, hn1, hc1, _⟩ := RB.own hown
  have HR1 := Lib.hid hr1
  have HN1 := Lib.hid hn1
  have HBlk : Hid (∀ b off, A1 = some ⟨b, off, none⟩ → w.heap.size ≤ b ∧ b < w1.heap.size) := Lib.hid (fun b off e => hown.lt b (by rw [e]; rfl))
  clear hown hown1 hg1 hr1 hn1
  go_wp2
  go_ret
  have hsz := HB1.out.size
  have hb2 : Below w1.heap.size w1 (w1.alloc (.cells #[.bool true, .slice A1 n c1, .int .i64 0] 81)) := (Below.refl _ _).alloc (Nat.le_refl _) _
  refine ⟨w1.heap.size, rfl, hsz, ⟨.inl rfl, A1, n, c1, heap_alloc_new w1 _, ⟨HR1.out.below hb2, fun b off e _ => ?_⟩, hc1, HN1.out, hn⟩, HB1.out.trans (hb2.mono hsz)⟩
  have := HBlk.out b off e
  rintro (h | h) <;> omega

/-- No reader, or one that no call made. -/
def NoRd (w : World) (r : Value) : Prop := r = .pointer none ∨ ∃ B, r = .pointer (some ⟨B, 0, none⟩) ∧ w.heap[B]? = some (.cells #[.bool false, .slice none 0 0, .int .i64 0] 81 (0, 0))
theorem NoRd.below {w w' : World} {r : Value} (h : NoRd w r) (hb : Below w.heap.size w w') : NoRd w' r := by
  rcases h with h | ⟨B, e, h⟩
  · exact .inl h
  · exact .inr ⟨B, e, (hb.block B (Array.getElem?_eq_some_iff.1 h).1).trans h⟩
theorem noRd_cells {w : World} {B : Nat} (h : w.heap[B]? = some (.cells #[.bool false, .slice none 0 0, .int .i64 0] 81 (0, 0))) :
    w.cell? ⟨B, 0, none⟩ = some (.bool false) ∧ w.cell? ⟨B, 1, none⟩ = some (.slice none 0 0) ∧ w.cell? ⟨B, 2, none⟩ = some (.int .i64 0) :=
  ⟨by rw [cell_of_row _ B 0 _ _ _ h]; rfl, by rw [cell_of_row _ B 1 _ _ _ h]; rfl, by rw [cell_of_row _ B 2 _ _ _ h]; rfl⟩
theorem item_u64_no (r fv : Value) (w : World) (h : NoRd w r) : Calls Try.prog 41 #[r, fv] w fun e w' => e = .returned (.int .u64 0) ∧ w = w' := by
  rcases h with rfl | ⟨B, rfl, hh⟩
  · go_enter Try.func41, Try.ntmps41
    go_wp2
    go_ret
    exact ⟨rfl, rfl⟩
  · obtain ⟨c0, c1, c2⟩ := noRd_cells hh
    clear hh
    go_enter Try.func41, Try.ntmps41
    go_wp2
    go_ret
    exact ⟨rfl, rfl⟩
theorem item_str_no (r fv : Value) (w : World) (h : NoRd w r) : Calls Try.prog 92 #[r, fv] w fun e w' => e = .returned (.string ⟨#[]⟩) ∧ w = w' := by
  rcases h with rfl | ⟨B, rfl, hh⟩
  · go_enter Try.func92, Try.ntmps92
    go_wp2
    go_ret
    exact ⟨rfl, rfl⟩
  · obtain ⟨c0, c1, c2⟩ := noRd_cells hh
    clear hh
    go_enter Try.func92, Try.ntmps92
    go_wp2
    go_ret
    exact ⟨rfl, rfl⟩
theorem item_bool_no (r fv : Value) (w : World) (h : NoRd w r) : Calls Try.prog 99 #[r, fv] w fun e w' => e = .returned (.bool false) ∧ w = w' := by
  rcases h with rfl | ⟨B, rfl, hh⟩
  · go_enter Try.func99, Try.ntmps99
    go_wp2
    go_ret
    exact ⟨rfl, rfl⟩
  · obtain ⟨c0, c1, c2⟩ := noRd_cells hh
    clear hh
    go_enter Try.func99, Try.ntmps99
    go_wp2
    go_ret
    exact ⟨rfl, rfl⟩
theorem noNum_any (r : Value) (m : Nat) (w : World) (h : NoRd w r) : Calls Try.prog 25 #[r, .int .u64 (m : Int)] w fun e w' => e = .returned (.int .u64 0) ∧ Below w.heap.size w w' := by
  have hb : Below w.heap.size w (w.alloc (.cells #[.int .u64 (m : Int)] 23)) := (Below.refl _ w).alloc (Nat.le_refl _) _
  have s1 := fun fv => item_u64_no r fv _ (h.below hb)
  have S1 := Lib.hid s1
  have HB := Lib.hid hb
  clear s1 hb h
  go_enter Try.func25, Try.ntmps25
  go_wp2_with fail
  refine (S1.out _).mono ?_
  rintro e w1 ⟨rfl, rfl⟩
  go_wp2
  go_ret
  exact ⟨rfl, HB.out⟩
theorem noText_any (r : Value) (m : Int) (w : World) (h : NoRd w r) : Calls Try.prog 67 #[r, .int .i64 m] w fun e w' => e = .returned (.string ⟨#[]⟩) ∧ Below w.heap.size w w' := by
  have hb : Below w.heap.size w (w.alloc (.cells #[.int .i64 m] 3)) := (Below.refl _ w).alloc (Nat.le_refl _) _
  have s1 := fun fv => item_str_no r fv _ (h.below hb)
  have S1 := Lib.hid s1
  have HB := Lib.hid hb
  clear s1 hb h
  go_enter Try.func67, Try.ntmps67
  go_wp2_with fail
  refine (S1.out _).mono ?_
  rintro e w1 ⟨rfl, rfl⟩
  go_wp2
  go_ret
  exact ⟨rfl, HB.out⟩
theorem noFlag_any (r : Value) (w : World) (h : NoRd w r) : Calls Try.prog 80 #[r] w fun e w' => e = .returned (.bool false) ∧ Below w.heap.size w w' := by
  have s1 := fun fv => item_bool_no r fv w h
  have S1 := Lib.hid s1
  clear s1 h
  go_enter Try.func80, Try.ntmps80
  go_wp2_with fail
  refine (S1.out _).mono ?_
  rintro e w1 ⟨rfl, rfl⟩
  go_wp2
  go_ret
  exact ⟨rfl, Below.refl _ _⟩
theorem noLeft_any (r : Value) (w : World) (h : NoRd w r) : Calls Try.prog 45 #[r] w fun e w' => e = .returned (.int .i64 0) ∧ w = w' := by
  rcases h with rfl | ⟨B, rfl, hh⟩
  · go_enter Try.func45, Try.ntmps45
    go_wp2
    go_ret
    exact ⟨rfl, rfl⟩
  · obtain ⟨c0, c1, c2⟩ := noRd_cells hh
    clear hh
    go_enter Try.func45, Try.ntmps45
    go_wp2
    go_ret
    exact ⟨rfl, rfl⟩
theorem noWrong_any (r : Value) (w : World) (h : NoRd w r) : Calls Try.prog 44 #[r] w fun e w' => e = .returned (.int .i64 0) ∧ w = w' := by
  rcases h with rfl | ⟨B, rfl, hh⟩
  · go_enter Try.func44, Try.ntmps44
    go_wp2
    go_ret
    exact ⟨rfl, rfl⟩
  · obtain ⟨c0, c1, c2⟩ := noRd_cells hh
    clear hh
    go_enter Try.func44, Try.ntmps44
    go_wp2
    go_ret
    exact ⟨rfl, rfl⟩
theorem noDone_any (r : Value) (w : World) (h : NoRd w r) : Calls Try.prog 28 #[r] w fun e w' => e = .returned (.int .i64 0) ∧ w = w' := by
  have s1 := noWrong_any r w h
  have s2 := noLeft_any r w h
  clear h
  go_enter Try.func28, Try.ntmps28
  go_wp2_with fail
  refine s1.mono ?_
  rintro e w1 ⟨rfl, rfl⟩
  go_wp2_with fail
  refine s2.mono ?_
  rintro e w1 ⟨rfl, rfl⟩
  go_wp2_with fail
  refine s1.mono ?_
  rintro e w1 ⟨rfl, rfl⟩
  go_wp2
  go_ret
  exact ⟨rfl, rfl⟩
theorem noItemsTexts (r fv : Value) (many : Int) (m : Int) (w : World) (h : NoRd w r) (hm : many ≤ 9223372036854775807) : Calls Try.prog 98 #[r, .int .i64 many, fv, .int .i64 m] w fun e w' => e = .returned (.slice none 0 0) ∧ Below w.heap.size w w' := by
  have s0 := bound_any many w hm
  have s1 := noNum_any r many.toNat w h
  obtain ⟨M, hM⟩ : ∃ M, many.toNat = M := ⟨_, rfl⟩
  rw [hM] at s0 s1
  clear h hM
  go_enter Try.func98, Try.ntmps98
  go_wp2_with fail
  refine s0.mono ?_
  rintro e w1 ⟨rfl, rfl⟩
  go_wp2_with fail
  refine s1.mono ?_
  rintro e w1 ⟨rfl, hb⟩
  have HB := Lib.hid hb
  clear s0 s1 hb
  go_wp2
  go_loopw [9, 15] (fun lv cv wr => lv = .slice none 0 0 ∧ cv = .int .u64 0 ∧ Hid (Below w.heap.size w wr)) (fun _ _ _ => 0)
  case atStart => exact ⟨rfl, rfl, HB⟩
  case round =>
    obtain ⟨rfl, rfl, hbr⟩ := hrel
    go_wp2
    go_ret
    exact ⟨rfl, hbr.out⟩
theorem noTexts_any (r : Value) (many : Int) (m : Int) (w : World) (h : NoRd w r) (hm : many ≤ 9223372036854775807) : Calls Try.prog 74 #[r, .int .i64 many, .int .i64 m] w fun e w' => e = .returned (.slice none 0 0) ∧ Below w.heap.size w w' := by
  have s1 := fun fv => noItemsTexts r fv many m w h hm
  have S1 := Lib.hid s1
  clear s1 h hm
  go_enter Try.func74, Try.ntmps74
  go_wp2_with fail
  refine (S1.out _).mono ?_
  rintro e w1 ⟨rfl, hb⟩
  have HB := Lib.hid hb
  clear hb
  go_wp2
  go_ret
  exact ⟨rfl, HB.out⟩
end Go.Proofs.Ytbhhalkpghcflaa
