/-
  items at its two instances; the Reader's Texts and Nums (layer 4).
-/
import Derived.Test.YtjbemjnofnifaaaZj7
namespace Go.Proofs.Ytjbemjnofnifaaa
open Go.RowKit
set_option linter.unusedSimpArgs false

theorem But.then_below {S : Nat → Prop} {a b c : World} (h : But S a b) (k : Below a.heap.size b c) : But S a c :=
  ⟨k.os.trans h.os, k.tape.trans h.tape, k.output.trans h.output, Nat.le_trans h.size k.size, fun i hi hs => (k.block i hi).trans (h.block i hi hs)⟩
theorem RdAt.widen {S : Nat → Prop} {w : World} {B : Nat} {s : St} (h : RdAt S w B s) : RdAt (fun k => S k ∨ w.heap.size ≤ k) w B s := by
  obtain ⟨hB, A, n, c, hh, hr, hm⟩ := h
  refine ⟨.inl hB, A, n, c, hh, ⟨hr.1, fun b off e hn => ?_⟩, hm⟩
  obtain ⟨b', off', e', hlt, _⟩ := hr.1.2 hn
  rw [e] at e'
  simp only [Option.some.injEq, Addr.mk.injEq] at e'
  rintro (h | h)
  · exact hr.2 b off e hn h
  · omega
theorem RdAt.narrow {S S' : Nat → Prop} {w : World} {B : Nat} {s : St} (h : RdAt S' w B s) (hS : ∀ k, S k → S' k) (hB : S B) : RdAt S w B s := by
  obtain ⟨_, A, n, c, hh, hr, hm⟩ := h
  exact ⟨hB, A, n, c, hh, ⟨hr.1, fun b off e hn hs => hr.2 b off e hn (hS b hs)⟩, hm⟩
/-- A value more. -/
theorem wpList_append_valD {P : Program} {w : World} {ops : Array Oper} {rest : List Oper} {o : Oper} {a : Act} {Q : Exit → Act → World → Prop} (hgd : o.guard = none) (s x : Operand) (t : TypeId)
    (ho : o.op = .call { callee := .builtin .append, args := #[s, x], argTypes := #[t, t] })
    (base : Nat) (e : TypeId) (i : TypeInfo) (z : Value) (bytes : Nat) (ht : P.underlying t = some (.slice e)) (hi : P.info? e = some i) (hz : i.zero = some z)
    (hsize : i.size = 1) (hby : i.bytes = bytes) (hzs : z.cells.size = 1)
    (v : Value) (m : Nat) (ys : List Value) (hs : a.eval s = v) (w0 : World) (u : Value) (hw : w = w0.alloc (.cells #[u] e)) (hu : u.oneCell' = true) (hown : w0.ownsRow base e 1 v m ys)
    (hx : a.eval x = .slice (some ⟨w0.heap.size, 0, none⟩) 1 1) (hm : (m + 1) * bytes ≤ 140737488355328) (hm2 : m + 1 ≤ 140737488355328) (hbase : base ≤ w0.heap.size)
    (h : Hid (∀ v' w', w'.ownsRow base e 1 v' (m + 1) (ys ++ [u]) → Below base w0 w' → wpList P ops Q rest (a.put o.dst v') w')) : wpList P ops Q (o :: rest) a w := by
  subst hw
  have hb0 : Below w0.heap.size w0 (w0.alloc (.cells #[u] e)) := (Below.refl _ _).alloc (Nat.le_refl _) _
  have hown' := bown_keep hown hb0
  refine wpList_append_own _ hgd s x t ho base e i z 1 bytes ht hi hz hsize hby hzs (by decide) v m ys hs hown' ⟨w0.heap.size, 0, none⟩ 1 1 [u] hx rfl (fun j u' hu' => ?_) (fun u' hu' => ?_) (by unfold maxLen; omega) hm (by simp; omega) (fun v' w' h1 h2 _ => h.out v' w' h1 ((hb0.mono hbase).trans ((Below.refl _ _).grown h2 (by simp; omega) (fun j hj => (hown'.lt j hj).1))))
  · match j, hu' with
    | 0, hu' =>
      simp only [List.getElem?_cons_zero, Option.some.injEq] at hu'
      subst hu'
      show (w0.alloc (.cells #[u] e)).cell? _ = _
      rw [show (⟨w0.heap.size, 0, none⟩ : Addr).add 0 = ⟨w0.heap.size, 0, none⟩ from by simp [Addr.add], cell_of_row _ w0.heap.size 0 _ _ (0, 0) (heap_alloc_new w0 _)]
      rfl
    | j + 1, hu' => simp at hu'
  · simp only [List.mem_singleton] at hu'
    subst hu'
    exact hu
/-- Each element takes a byte at least. -/
theorem after_room {α : Type} (f : It α) (hf : ∀ b, f.err b = 0 → 0 < f.size b ∧ f.size b ≤ b.length) : ∀ (k : Nat) (s : St), (f.after k s).e = 0 → k + (f.after k s).b.length ≤ s.b.length
  | 0, s, _ => by rw [It.after]; omega
  | k + 1, s, h => by
    rw [It.after] at h ⊢
    have h1 := after_room f hf k (f.next s) h
    have h0 : (f.next s).e = 0 := f.after_ok (k := 0) h (Nat.zero_le _)
    obtain ⟨_, h3, h4, _⟩ := f.next_ok h0
    have h5 := hf _ h3
    rw [h4] at h1 ⊢
    simp only [List.length_drop] at h1
    omega
/-- How many there may be. -/
theorem many_le {α : Type} (f : It α) (hf : ∀ b, f.err b = 0 → 0 < f.size b ∧ f.size b ≤ b.length) {many : Nat} {s : St} (hcap : many ≤ 1099511627776 ∨ s.b.length ≤ 1099511627776) {k : Nat} (hk : k ≤ It.listN many s) (he : (f.after k ((itNum many).next s)).e = 0) : k ≤ 1099511627776 := by
  rcases hcap with h | h
  · have h1 : It.listN many s ≤ many := by
      unfold It.listN It.out
      split
      · exact Nat.zero_le _
      · split
        · exact Nat.zero_le _
        · rename_i h2 h3
          exact (errNum_zero (show (itNum many).err s.b = 0 by simpa using h3)).2
    omega
  · have h1 := after_room f hf k _ he
    have h2 := (itNum many).next_length s
    omega
theorem listN_lt {many : Nat} (hm : many < 256 ^ 8) (s : St) : It.listN many s < 256 ^ 8 := by
  unfold It.listN It.out
  split
  · show 0 < 256 ^ 8
    omega
  · split
    · show 0 < 256 ^ 8
      omega
    · rename_i h2 h3
      have := (errNum_zero (most := many) (show (itNum many).err s.b = 0 by simpa using h3)).2
      show valN s.b < 256 ^ 8
      omega
/-- What a list's call does. -/
def ReadsL (S : Nat → Prop) (B : Nat) (w : World) (vs : List Value) (s : St) (e : Ending) (w' : World) : Prop :=
  ∃ A c, e = .returned (.slice A vs.length c) ∧ RV w' A vs.length vs ∧ (∀ b off, A = some ⟨b, off, none⟩ → 0 < vs.length → w.heap.size ≤ b) ∧ RdAt S w' B s ∧ But (fun k => k = B) w w'
theorem text_takes (most : Nat) : ∀ b, (itText most).err b = 0 → 0 < (itText most).size b ∧ (itText most).size b ≤ b.length := fun b h => ⟨by show 0 < 1 + manyN b + valN b; omega, (text_size h).1⟩
theorem num_takes (most : Nat) : ∀ b, (itNum most).err b = 0 → 0 < (itNum most).size b ∧ (itNum most).size b ≤ b.length := fun b h => ⟨by show 0 < 1 + manyN b; omega, (num_size h).1⟩

end Go.Proofs.Ytjbemjnofnifaaa

/-
  Read; readers that are not there, and such as no call made (layer 4).
-/
namespace Go.Proofs.Ytjbemjnofnifaaa
open Go.RowKit
set_option linter.unusedSimpArgs false

theorem read_any (A : Option Addr) (n c : Nat) (xs : List UInt8) (w : World) (h : RB w A n xs) (hnil : A = none → c = 0) (_ : n ≤ c) (hn : n ≤ 140737488355328) :
    Calls Try.prog 32 #[.slice A n c] w fun e w' => ∃ B, e = .returned (.pointer (some ⟨B, 0, none⟩)) ∧ w.heap.size ≤ B ∧ RdAt (fun k => k = B ∨ k < w.heap.size) w' B ⟨xs, 0⟩ ∧ Below w.heap.size w w' := by
  obtain ⟨i0, hi, hz0, hz1, hz2⟩ := info_parts u8_info
  have HR := Lib.hid h
  have HNil := Lib.hid hnil
  clear h hnil
  go_enter Try.func32, Try.ntmps32
  go_wp2_with (at_builtin; refine wpList_append_rbh rfl (.const (.slice none 0 0)) (.tmp 3) 26 rfl w.heap.size i0 Try.underlying26 hi hz0 hz1 hz2 _ 0 [] rfl (World.ownsRow_nil _ _ _ _) A n c xs rfl HNil.out HR.out ?c1 ?c2 ?c3 ?_)
  case c1 => unfold maxLen; omega
  case c2 => omega
  case c3 => exact Nat.le_refl _
  refine Lib.hid ?_
  intro v1 w1 hown1 hg1
  have hown : w1.ownsRow w.heap.size 5 1 v1 n (xs.map byteV) := by simpa using hown1
  have HB1 : Hid (Below w.heap.size w w1) := Lib.hid ((Below.refl _ w).grown hg1 (Nat.le_refl _) (fun j hj => by simp [Value.ownBlock] at hj))
  obtain ⟨A1, c1, rfl, hr1, hn1, hc1, _⟩ := RB.own hown
  have HR1 := Lib.hid hr1
  have HN1 := Lib.hid hn1
  have HBlk : Hid (∀ b off, A1 = some ⟨b, off, none⟩ → w.heap.size ≤ b ∧ b < w1.heap.size) := Lib.hid (fun b off e => hown.lt b (by rw [e]; rfl))
  clear hown hown1 hg1 hr1 hn1
  go_wp2
  go_ret
  have hsz := HB1.out.size
  have hb2 : Below w1.heap.size w1 (w1.alloc (.cells #[.bool true, .slice A1 n c1, .int .i64 0] 94)) := (Below.refl _ _).alloc (Nat.le_refl _) _
  refine ⟨w1.heap.size, rfl, hsz, ⟨.inl rfl, A1, n, c1, heap_alloc_new w1 _, ⟨HR1.out.below hb2, fun b off e _ => ?_⟩, hc1, HN1.out, hn⟩, HB1.out.trans (hb2.mono hsz)⟩
  have := HBlk.out b off e
  rintro (h | h) <;> omega

/-- No reader, or one that no call made. -/
def NoRd (w : World) (r : Value) : Prop := r = .pointer none ∨ ∃ B, r = .pointer (some ⟨B, 0, none⟩) ∧ w.heap[B]? = some (.cells #[.bool false, .slice none 0 0, .int .i64 0] 94 (0, 0))
theorem NoRd.below {w w' : World} {r : Value} (h : NoRd w r) (hb : Below w.heap.size w w') : NoRd w' r := by
  rcases h with h | ⟨B, e, h⟩
  · exact .inl h
  · exact .inr ⟨B, e, (hb.block B (Array.getElem?_eq_some_iff.1 h).1).trans h⟩
theorem noRd_cells {w : World} {B : Nat} (h : w.heap[B]? = some (.cells #[.bool false, .slice none 0 0, .int .i64 0] 94 (0, 0))) :
    w.cell? ⟨B, 0, none⟩ = some (.bool false) ∧ w.cell? ⟨B, 1, none⟩ = some (.slice none 0 0) ∧ w.cell? ⟨B, 2, none⟩ = some (.int .i64 0) :=
  ⟨by rw [cell_of_row _ B 0 _ _ _ h]; rfl, by rw [cell_of_row _ B 1 _ _ _ h]; rfl, by rw [cell_of_row _ B 2 _ _ _ h]; rfl⟩
theorem item_u64_no (r fv : Value) (w : World) (h : NoRd w r) : Calls Try.prog 82 #[r, fv] w fun e w' => e = .returned (.int .u64 0) ∧ w = w' := by
  rcases h with rfl | ⟨B, rfl, hh⟩
  · go_enter Try.func82, Try.ntmps82
    go_wp2
    go_ret
    exact ⟨rfl, rfl⟩
  · obtain ⟨c0, c1, c2⟩ := noRd_cells hh
    clear hh
    go_enter Try.func82, Try.ntmps82
    go_wp2
    go_ret
    exact ⟨rfl, rfl⟩
theorem item_bool_no (r fv : Value) (w : World) (h : NoRd w r) : Calls Try.prog 69 #[r, fv] w fun e w' => e = .returned (.bool false) ∧ w = w' := by
  rcases h with rfl | ⟨B, rfl, hh⟩
  · go_enter Try.func69, Try.ntmps69
    go_wp2
    go_ret
    exact ⟨rfl, rfl⟩
  · obtain ⟨c0, c1, c2⟩ := noRd_cells hh
    clear hh
    go_enter Try.func69, Try.ntmps69
    go_wp2
    go_ret
    exact ⟨rfl, rfl⟩
theorem noNum_any (r : Value) (m : Nat) (w : World) (h : NoRd w r) : Calls Try.prog 68 #[r, .int .u64 (m : Int)] w fun e w' => e = .returned (.int .u64 0) ∧ Below w.heap.size w w' := by
  have hb : Below w.heap.size w (w.alloc (.cells #[.int .u64 (m : Int)] 68)) := (Below.refl _ w).alloc (Nat.le_refl _) _
  have s1 := fun fv => item_u64_no r fv _ (h.below hb)
  have S1 := Lib.hid s1
  have HB := Lib.hid hb
  clear s1 hb h
  go_enter Try.func68, Try.ntmps68
  go_wp2_with fail
  refine (S1.out _).mono ?_
  rintro e w1 ⟨rfl, rfl⟩
  go_wp2
  go_ret
  exact ⟨rfl, HB.out⟩
theorem noFlag_any (r : Value) (w : World) (h : NoRd w r) : Calls Try.prog 51 #[r] w fun e w' => e = .returned (.bool false) ∧ Below w.heap.size w w' := by
  have s1 := fun fv => item_bool_no r fv w h
  have S1 := Lib.hid s1
  clear s1 h
  go_enter Try.func51, Try.ntmps51
  go_wp2_with fail
  refine (S1.out _).mono ?_
  rintro e w1 ⟨rfl, rfl⟩
  go_wp2
  go_ret
  exact ⟨rfl, Below.refl _ _⟩
theorem noLeft_any (r : Value) (w : World) (h : NoRd w r) : Calls Try.prog 55 #[r] w fun e w' => e = .returned (.int .i64 0) ∧ w = w' := by
  rcases h with rfl | ⟨B, rfl, hh⟩
  · go_enter Try.func55, Try.ntmps55
    go_wp2
    go_ret
    exact ⟨rfl, rfl⟩
  · obtain ⟨c0, c1, c2⟩ := noRd_cells hh
    clear hh
    go_enter Try.func55, Try.ntmps55
    go_wp2
    go_ret
    exact ⟨rfl, rfl⟩
theorem noWrong_any (r : Value) (w : World) (h : NoRd w r) : Calls Try.prog 54 #[r] w fun e w' => e = .returned (.int .i64 0) ∧ w = w' := by
  rcases h with rfl | ⟨B, rfl, hh⟩
  · go_enter Try.func54, Try.ntmps54
    go_wp2
    go_ret
    exact ⟨rfl, rfl⟩
  · obtain ⟨c0, c1, c2⟩ := noRd_cells hh
    clear hh
    go_enter Try.func54, Try.ntmps54
    go_wp2
    go_ret
    exact ⟨rfl, rfl⟩
theorem noDone_any (r : Value) (w : World) (h : NoRd w r) : Calls Try.prog 34 #[r] w fun e w' => e = .returned (.int .i64 0) ∧ w = w' := by
  have s1 := noWrong_any r w h
  have s2 := noLeft_any r w h
  clear h
  go_enter Try.func34, Try.ntmps34
  go_wp2_with fail
  refine s1.mono ?_
  rintro e w1 ⟨rfl, rfl⟩
  go_wp2_with fail
  refine s2.mono ?_
  rintro e w1 ⟨rfl, rfl⟩
  go_wp2_with fail
  refine s1.mono ?_
  rintro e w1 ⟨rfl, rfl⟩
  go_wp2
  go_ret
  exact ⟨rfl, rfl⟩
end Go.Proofs.Ytjbemjnofnifaaa
