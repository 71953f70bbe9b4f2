/-
  The Reader's Num, Text, Flag, Left, Wrong, Done (layer 4).
-/
import Derived.Test.YtbhhalkpghcflaaZj22
namespace Go.Proofs.Ytbhhalkpghcflaa
open Go.RowKit
set_option linter.unusedSimpArgs false

theorem RdAt.kept {S : Nat → Prop} {w w' : World} {B : Nat} {s : St} (h : RdAt S w B s) (hb : Below w.heap.size w w') : RdAt S w' B s := h.below hb
theorem Reads.from {S : Nat → Prop} {B : Nat} {w w0 w' : World} {v : Value} {s : St} {e : Ending} (h : Reads S B w v s e w') (hb : Below w0.heap.size w0 w) : Reads S B w0 v s e w' := ⟨h.1, h.2.1, (But.of_below hb).trans h.2.2⟩
theorem rNum_any (S : Nat → Prop) (B most : Nat) (s : St) (w : World) (h : RdAt S w B s) (hmost : most < 256 ^ 8) :
    Calls Try.prog 25 #[.pointer (some ⟨B, 0, none⟩), .int .u64 (most : Int)] w (Reads S B w (u64V ((itNum most).out s)) ((itNum most).next s)) := by
  have hb : Below w.heap.size w (w.alloc (.cells #[.int .u64 (most : Int)] 23)) := (Below.refl _ w).alloc (Nat.le_refl _) _
  have s1 := (item_u64 S B s (w.alloc (.cells #[.int .u64 (most : Int)] 23)) (h.below hb) most w.heap.size hmost (by rw [cell_of_row _ w.heap.size 0 _ _ (0, 0) (heap_alloc_new w _)]; rfl)).mono fun e w' h => Reads.from h hb
  obtain ⟨F, hF⟩ : ∃ F, Reads S B w (u64V ((itNum most).out s)) ((itNum most).next s) = F := ⟨_, rfl⟩
  rw [hF] at s1 ⊢
  have HF := Lib.hid hF
  have S1 := Lib.hid s1
  clear h hb s1 hF hmost
  go_enter Try.func25, Try.ntmps25
  go_wp2_with fail
  refine S1.out.mono ?_
  rintro e w1 hr
  have HR := Lib.hid hr
  rw [← HF.out] at hr
  obtain ⟨rfl, _, _⟩ := hr
  unfold u64V at HR ⊢
  go_wp2
  exact HR.out
theorem rText_any (S : Nat → Prop) (B : Nat) (m : Int) (s : St) (w : World) (h : RdAt S w B s) (hm : m ≤ 9223372036854775807) :
    Calls Try.prog 67 #[.pointer (some ⟨B, 0, none⟩), .int .i64 m] w (Reads S B w (strV ((itText m.toNat).out s)) ((itText m.toNat).next s)) := by
  have hb : Below w.heap.size w (w.alloc (.cells #[.int .i64 m] 3)) := (Below.refl _ w).alloc (Nat.le_refl _) _
  have s1 := (item_str S B s (w.alloc (.cells #[.int .i64 m] 3)) (h.below hb) w.heap.size m hm (by rw [cell_of_row _ w.heap.size 0 _ _ (0, 0) (heap_alloc_new w _)]; rfl)).mono fun e w' h => Reads.from h hb
  obtain ⟨F, hF⟩ : ∃ F, Reads S B w (strV ((itText m.toNat).out s)) ((itText m.toNat).next s) = F := ⟨_, rfl⟩
  rw [hF] at s1 ⊢
  have HF := Lib.hid hF
  have S1 := Lib.hid s1
  clear h hb s1 hF hm
  go_enter Try.func67, Try.ntmps67
  go_wp2_with fail
  refine S1.out.mono ?_
  rintro e w1 hr
  have HR := Lib.hid hr
  rw [← HF.out] at hr
  obtain ⟨rfl, _, _⟩ := hr
  unfold strV at HR ⊢
  obtain ⟨st, hst⟩ : ∃ st : ByteArray, (⟨((itText m.toNat).out s).toArray⟩ : ByteArray) = st := ⟨_, rfl⟩
  rw [hst] at HR ⊢
  clear hst
  go_wp2
  exact HR.out
theorem rFlag_any (S : Nat → Prop) (B : Nat) (s : St) (w : World) (h : RdAt S w B s) :
    Calls Try.prog 80 #[.pointer (some ⟨B, 0, none⟩)] w (Reads S B w (.bool (itFlag.out s)) (itFlag.next s)) := by
  have s1 := item_bool S B s w h
  obtain ⟨F, hF⟩ : ∃ F, Reads S B w (.bool (itFlag.out s)) (itFlag.next s) = F := ⟨_, rfl⟩
  rw [hF] at s1 ⊢
  have HF := Lib.hid hF
  have S1 := Lib.hid s1
  clear h s1 hF
  go_enter Try.func80, Try.ntmps80
  go_wp2_with fail
  refine S1.out.mono ?_
  rintro e w1 hr
  have HR := Lib.hid hr
  rw [← HF.out] at hr
  obtain ⟨rfl, _, _⟩ := hr
  obtain ⟨q, hq⟩ : ∃ q, itFlag.out s = q := ⟨_, rfl⟩
  rw [hq] at HR ⊢
  clear hq
  go_wp2
  exact HR.out
theorem rLeft_any (S : Nat → Prop) (B : Nat) (s : St) (w : World) (h : RdAt S w B s) :
    Calls Try.prog 45 #[.pointer (some ⟨B, 0, none⟩)] w fun e w' => e = .returned (.int .i64 (s.b.length : Int)) ∧ w = w' := by
  obtain ⟨hB, A, n, c, hh, hr, hnc, hA, hn⟩ := h
  obtain ⟨c0, c1, c2, _, _⟩ := RdAt.cells hh
  have hl := hr.1.1
  rw [hl]
  clear hh hr hA hl
  go_enter Try.func45, Try.ntmps45
  go_wp2
  go_ret
  exact ⟨rfl, rfl⟩
theorem rWrong_any (S : Nat → Prop) (B : Nat) (s : St) (w : World) (h : RdAt S w B s) :
    Calls Try.prog 44 #[.pointer (some ⟨B, 0, none⟩)] w fun e w' => e = .returned (.int .i64 (s.e : Int)) ∧ w = w' := by
  obtain ⟨hB, A, n, c, hh, hr, hnc, hA, hn⟩ := h
  obtain ⟨c0, c1, c2, _, _⟩ := RdAt.cells hh
  obtain ⟨E, hE⟩ : ∃ E, s.e = E := ⟨_, rfl⟩
  rw [hE] at c2 ⊢
  clear hh hr hA hE
  go_enter Try.func44, Try.ntmps44
  go_wp2
  go_ret
  exact ⟨rfl, rfl⟩
/-- What Done answers. -/
def doneS (s : St) : Nat := if s.e = 0 ∧ 0 < s.b.length then 41 else s.e
theorem rDone_any (S : Nat → Prop) (B : Nat) (s : St) (w : World) (h : RdAt S w B s) :
    Calls Try.prog 28 #[.pointer (some ⟨B, 0, none⟩)] w fun e w' => e = .returned (.int .i64 (doneS s : Int)) ∧ w = w' := by
  have s1 := rWrong_any S B s w h
  have s2 := rLeft_any S B s w h
  have hn : s.b.length ≤ 140737488355328 := by
    obtain ⟨_, A, n, c, _, hr, _, _, hn⟩ := h
    rw [hr.1.1]; exact hn
  by_cases he : s.e = 0
  · have hd : doneS s = if 0 < s.b.length then 41 else 0 := by
      unfold doneS
      by_cases h0 : 0 < s.b.length
      · rw [if_pos ⟨he, h0⟩, if_pos h0]
      · rw [if_neg (fun h => h0 h.2), if_neg h0, he]
    rw [he] at s1
    rw [hd]
    obtain ⟨n, hnn⟩ : ∃ n, s.b.length = n := ⟨_, rfl⟩
    rw [hnn] at s2 hn ⊢
    clear hd hnn h he
    by_cases h0 : 0 < n
    · rw [if_pos h0]
      have q1 : (0 : Int) < (n : Int) := by omega
      go_enter Try.func28, Try.ntmps28
      go_wp2_with fail
      refine s1.mono ?_
      rintro e w1 ⟨rfl, rfl⟩
      go_wp2_with fail
      refine s2.mono ?_
      rintro e w1 ⟨rfl, rfl⟩
      go_wp2
      go_ret
      exact ⟨rfl, rfl⟩
    · rw [if_neg h0]
      obtain rfl : n = 0 := by omega
      go_enter Try.func28, Try.ntmps28
      go_wp2_with fail
      refine s1.mono ?_
      rintro e w1 ⟨rfl, rfl⟩
      go_wp2_with fail
      refine s2.mono ?_
      rintro e w1 ⟨rfl, rfl⟩
      go_wp2_with fail
      refine s1.mono ?_
      rintro e w1 ⟨rfl, rfl⟩
      go_wp2
      go_ret
      exact ⟨rfl, rfl⟩
  · have hd : doneS s = s.e := by unfold doneS; rw [if_neg (fun h => he h.1)]
    rw [hd]
    obtain ⟨E, hE⟩ : ∃ E, s.e = E := ⟨_, rfl⟩
    rw [hE] at s1 he ⊢
    have q1 : (((E : Nat) : Int) == 0) = false := by rw [beq_eq_false_iff_ne]; omega
    clear hd hE h he s2
    go_enter Try.func28, Try.ntmps28
    go_wp2_with fail
    refine s1.mono ?_
    rintro e w1 ⟨rfl, rfl⟩
    go_wp2_with fail
    refine s1.mono ?_
    rintro e w1 ⟨rfl, rfl⟩
    go_wp2
    go_ret
    exact ⟨rfl, rfl⟩
end Go.Proofs.Ytbhhalkpghcflaa
/-
  items at its two instances; the Reader's Texts and Nums (layer 4).
-/
namespace Go.Proofs.Ytbhhalkpghcflaa
open Go.RowKit
set_option linter.unusedSimpArgs false

theorem But.then_below {S : Nat → Prop} {a b c : World} (h : But S a b) (k : Below a.heap.size b c) : But S a c :=
  ⟨k.os.trans h.os, k.tape.trans h.tape, k.output.trans h.output, Nat.le_trans h.size k.size, fun i hi hs => (k.block i hi).trans (h.block i hi hs)⟩
theorem RdAt.widen {S : Nat → Prop} {w : World} {B : Nat} {s : St} (h : RdAt S w B s) : RdAt (fun k => S k ∨ w.heap.size ≤ k) w B s := by
  obtain ⟨hB, A, n, c, hh, hr, hm⟩ := h
  refine ⟨.inl hB, A, n, c, hh, ⟨hr.1, fun b off e hn => ?_⟩, hm⟩
  obtain ⟨b', off', e', hlt, _⟩ := hr.1.2 hn
  rw [e] at e'
  simp only [Option.some.injEq, Addr.mk.injEq] at e'
  rintro (h | h)
  · exact hr.2 b off e hn h
  · omega
theorem RdAt.narrow {S S' : Nat → Prop} {w : World} {B : Nat} {s : St} (h : RdAt S' w B s) (hS : ∀ k, S k → S' k) (hB : S B) : RdAt S w B s := by
  obtain ⟨_, A, n, c, hh, hr, hm⟩ := h
  exact ⟨hB, A, n, c, hh, ⟨hr.1, fun b off e hn hs => hr.2 b off e hn (hS b hs)⟩, hm⟩
/-- A value more. -/
theorem wpList_append_valD {P : Program} {w : World} {ops : Array Oper} {rest : List Oper} {o : Oper} {a : Act} {Q : Exit → Act → World → Prop} (hgd : o.guard = none) (s x : Operand) (t : TypeId)
    (ho : o.op = .call { callee := .builtin .append, args := #[s, x], argTypes := #[t, t] })
    (base : Nat) (e : TypeId) (i : TypeInfo) (z : Value) (bytes : Nat) (ht : P.underlying t = some (.slice e)) (hi : P.info? e = some i) (hz : i.zero = some z)
    (hsize : i.size = 1) (hby : i.bytes = bytes) (hzs : z.cells.size = 1)
    (v : Value) (m : Nat) (ys : List Value) (hs : a.eval s = v) (w0 : World) (u : Value) (hw : w = w0.alloc (.cells #[u] e)) (hu : u.oneCell' = true) (hown : w0.ownsRow base e 1 v m ys)
    (hx : a.eval x = .slice (some ⟨w0.heap.size, 0, none⟩) 1 1) (hm : (m + 1) * bytes ≤ 140737488355328) (hm2 : m + 1 ≤ 140737488355328) (hbase : base ≤ w0.heap.size)
    (h : Hid (∀ v' w', w'.ownsRow base e 1 v' (m + 1) (ys ++ [u]) → Below base w0 w' → wpList P ops Q rest (a.put o.dst v') w')) : wpList P ops Q (o :: rest) a w := by
  subst hw
  have hb0 : Below w0.heap.size w0 (w0.alloc (.cells #[u] e)) := (Below.refl _ _).alloc (Nat.le_refl _) _
  have hown' := bown_keep hown hb0
  refine wpList_append_own _ hgd s x t ho base e i z 1 bytes ht hi hz hsize hby hzs (by decide) v m ys hs hown' ⟨w0.heap.size, 0, none⟩ 1 1 [u] hx rfl (fun j u' hu' => ?_) (fun u' hu' => ?_) (by unfold maxLen; omega) hm (by simp; omega) (fun v' w' h1 h2 _ => h.out v' w' h1 ((hb0.mono hbase).trans ((Below.refl _ _).grown h2 (by simp; omega) (fun j hj => (hown'.lt j hj).1))))
  · match j, hu' with
    | 0, hu' =>
      simp only [List.getElem?_cons_zero, Option.some.injEq] at hu'
      subst hu'
      show (w0.alloc (.cells #[u] e)).cell? _ = _
      rw [show (⟨w0.heap.size, 0, none⟩ : Addr).add 0 = ⟨w0.heap.size, 0, none⟩ from by simp [Addr.add], cell_of_row _ w0.heap.size 0 _ _ (0, 0) (heap_alloc_new w0 _)]
      rfl
    | j + 1, hu' => simp at hu'
  · simp only [List.mem_singleton] at hu'
    subst hu'
    exact hu
/-- Each element takes a byte at least. -/
theorem after_room {α : Type} (f : It α) (hf : ∀ b, f.err b = 0 → 0 < f.size b ∧ f.size b ≤ b.length) : ∀ (k : Nat) (s : St), (f.after k s).e = 0 → k + (f.after k s).b.length ≤ s.b.length
  | 0, s, _ => by rw [It.after]; omega
  | k + 1, s, h => by
    rw [It.after] at h ⊢
    have h1 := after_room f hf k (f.next s) h
    have h0 : (f.next s).e = 0 := f.after_ok (k := 0) h (Nat.zero_le _)
    obtain ⟨_, h3, h4, _⟩ := f.next_ok h0
    have h5 := hf _ h3
    rw [h4] at h1 ⊢
    simp only [List.length_drop] at h1
    omega
/-- How many there may be. -/
theorem many_le {α : Type} (f : It α) (hf : ∀ b, f.err b = 0 → 0 < f.size b ∧ f.size b ≤ b.length) {many : Nat} {s : St} (hcap : many ≤ 1099511627776 ∨ s.b.length ≤ 1099511627776) {k : Nat} (hk : k ≤ It.listN many s) (he : (f.after k ((itNum many).next s)).e = 0) : k ≤ 1099511627776 := by
  rcases hcap with h | h
  · have h1 : It.listN many s ≤ many := by
      unfold It.listN It.out
      split
      · exact Nat.zero_le _
      · split
        · exact Nat.zero_le _
        · rename_i h2 h3
          exact (errNum_zero (show (itNum many).err s.b = 0 by simpa using h3)).2
    omega
  · have h1 := after_room f hf k _ he
    have h2 := (itNum many).next_length s
    omega
theorem listN_lt {many : Nat} (hm : many < 256 ^ 8) (s : St) : It.listN many s < 256 ^ 8 := by
  unfold It.listN It.out
  split
  · show 0 < 256 ^ 8
    omega
  · split
    · show 0 < 256 ^ 8
      omega
    · rename_i h2 h3
      have := (errNum_zero (most := many) (show (itNum many).err s.b = 0 by simpa using h3)).2
      show valN s.b < 256 ^ 8
      omega
/-- What a list's call does. -/
def ReadsL (S : Nat → Prop) (B : Nat) (w : World) (vs : List Value) (s : St) (e : Ending) (w' : World) : Prop :=
  ∃ A c, e = .returned (.slice A vs.length c) ∧ RV w' A vs.length vs ∧ (∀ b off, A = some ⟨b, off, none⟩ → 0 < vs.length → w.heap.size ≤ b) ∧ RdAt S w' B s ∧ But (fun k => k = B) w w'
theorem text_takes (most : Nat) : ∀ b, (itText most).err b = 0 → 0 < (itText most).size b ∧ (itText most).size b ≤ b.length := fun b h => ⟨by show 0 < 1 + manyN b + valN b; omega, (text_size h).1⟩
theorem num_takes (most : Nat) : ∀ b, (itNum most).err b = 0 → 0 < (itNum most).size b ∧ (itNum most).size b ≤ b.length := fun b h => ⟨by show 0 < 1 + manyN b; omega, (num_size h).1⟩

set_option maxHeartbeats 2000000 in
theorem items_str (S : Nat → Prop) (B : Nat) (many : Int) (m : Int) (s : St) (w : World) (h : RdAt S w B s) (hm : many ≤ 9223372036854775807) (hm2 : m ≤ 9223372036854775807) (hcap : many.toNat ≤ 1099511627776 ∨ s.b.length ≤ 1099511627776) :
    Calls Try.prog 98 #[.pointer (some ⟨B, 0, none⟩), .int .i64 many, .func (.func 67) #[.pointer (some ⟨B, 0, none⟩)] #[], .int .i64 m] w (ReadsL S B w (((itText m.toNat).listOut many.toNat s).map strV) ((itText m.toNat).listNext many.toNat s)) := by
  obtain ⟨i0, hi, hz0, hz1, hz2⟩ := info_parts str_info
  have hBlt := h.lt
  have hSB : S B := h.1
  have hW := h.widen
  have s0 := bound_any many w hm
  obtain ⟨S', hS'⟩ : ∃ S' : Nat → Prop, (fun k => S k ∨ w.heap.size ≤ k) = S' := ⟨_, rfl⟩
  have HS1 : Hid (∀ k, S k → S' k) := Lib.hid (by rw [← hS']; exact fun k h => .inl h)
  have HS2 : Hid (∀ k, w.heap.size ≤ k → S' k) := Lib.hid (by rw [← hS']; exact fun k h => .inr h)
  rw [hS'] at hW
  have s1 := rNum_any S' B many.toNat s w hW (by omega)
  have hmlt : many.toNat < 256 ^ 8 := by omega
  obtain ⟨M, hM⟩ : ∃ M, many.toNat = M := ⟨_, rfl⟩
  rw [hM] at s0 s1 hcap hmlt ⊢
  have hNlt := listN_lt hmlt s
  have HCap : Hid (∀ k, k ≤ It.listN M s → ((itText m.toNat).after k ((itNum M).next s)).e = 0 → k ≤ 1099511627776) := Lib.hid fun k h1 h2 => many_le (itText m.toNat) (text_takes m.toNat) hcap h1 h2
  have HPos : Hid (0 < It.listN M s → ((itNum M).next s).e = 0) := Lib.hid (by
    intro h0
    unfold It.listN It.out at h0
    split at h0
    · exact absurd h0 (by show ¬ 0 < 0; omega)
    · split at h0
      · exact absurd h0 (by show ¬ 0 < 0; omega)
      · rename_i h2 h3
        rw [It.next, if_neg h2, if_neg h3])
  obtain ⟨s1', hs1'⟩ : ∃ x, (itNum M).next s = x := ⟨_, rfl⟩
  obtain ⟨N, hN⟩ : ∃ N, It.listN M s = N := ⟨_, rfl⟩
  have hO : (itNum M).out s = N := hN
  rw [hs1', hO] at s1
  rw [hs1', hN] at HCap HPos
  rw [hN] at hNlt
  have HOut : Hid ((itText m.toNat).listNext M s = (itText m.toNat).after N s1' ∧ (itText m.toNat).listOut M s = if ((itText m.toNat).after N s1').e ≠ 0 then [] else (itText m.toNat).outs N s1') := Lib.hid (by
    have e1 : (itText m.toNat).listNext M s = (itText m.toNat).after N s1' := by rw [It.listNext, hN, hs1']
    exact ⟨e1, by rw [It.listOut, e1, hN, hs1']⟩)
  have hN64 : (N : Int) ≤ 18446744073709551615 := by omega
  have HRes : Hid (∀ e w', ReadsL S B w ((if ((itText m.toNat).after N s1').e ≠ 0 then [] else (itText m.toNat).outs N s1').map strV) ((itText m.toNat).after N s1') e w' → ReadsL S B w (((itText m.toNat).listOut M s).map strV) ((itText m.toNat).listNext M s) e w') := Lib.hid (fun e w' h => by rw [HOut.out.1, HOut.out.2]; exact h)
  have HRd : Hid (∀ (k : Nat) (s : St) (wr w2 : World), RdAt S' wr B s → k < 1099511627776 → (∀ v t, Reads S' B wr v t (.returned v) w2 → True)) := Lib.hid (fun _ _ _ _ _ _ _ _ _ => trivial)
  have HCall : Hid (∀ (wr : World) (st : St), RdAt S' wr B st → Calls Try.prog 67 #[.pointer (some ⟨B, 0, none⟩), .int .i64 m] wr (Reads S' B wr (strV ((itText m.toNat).out st)) ((itText m.toNat).next st))) := Lib.hid (fun wr st h => rText_any S' B m st wr h hm2)
  have S1 := Lib.hid s1
  have HSB := Lib.hid hSB
  clear h hW hS' s1 hcap hM hs1' hN hO hSB HRd hmlt hNlt hm2
  go_enter Try.func98, Try.ntmps98
  go_wp2_with fail
  refine s0.mono ?_
  rintro e w1 ⟨rfl, rfl⟩
  go_wp2_with fail
  refine S1.out.mono ?_
  rintro e w1 ⟨rfl, hr1, hb1⟩
  have HR1 := Lib.hid hr1
  have HB1 := Lib.hid hb1
  clear hr1 hb1 s0
  unfold u64V
  go_wp2
  go_loopw [9, 15] (fun lv cv wr => ∃ k : Nat, k ≤ N ∧ cv = .int .u64 (k : Int) ∧ Hid (wr.ownsRow w.heap.size 9 1 lv k (((itText m.toNat).outs k s1').map strV)) ∧ Hid (RdAt S' wr B ((itText m.toNat).after k s1')) ∧ Hid (0 < N → ((itText m.toNat).after k s1').e = 0) ∧ Hid (But (fun k => k = B) w wr)) (fun _ cv _ => N - (intOf cv).toNat)
  case atStart => exact ⟨0, Nat.zero_le _, rfl, Lib.hid (World.ownsRow_nil _ _ _ _), HR1, HPos, HB1⟩
  case round =>
    obtain ⟨k, hk, rfl, hown, hrd, he0, hbut⟩ := hrel
    have hsz := hbut.out.size
    by_cases hlt : k < N
    · have s2 := HCall.out wr _ hrd.out
      have HA : Hid ((itText m.toNat).after (k + 1) s1' = (itText m.toNat).next ((itText m.toNat).after k s1') ∧ (itText m.toNat).outs (k + 1) s1' = (itText m.toNat).outs k s1' ++ [(itText m.toNat).out ((itText m.toNat).after k s1')]) := Lib.hid ⟨(itText m.toNat).after_succ k s1', (itText m.toNat).outs_succ k s1'⟩
      have hk1 := HCap.out k hk (he0.out (by omega))
      obtain ⟨x, hx⟩ : ∃ x, (itText m.toNat).out ((itText m.toNat).after k s1') = x := ⟨_, rfl⟩
      obtain ⟨st, hst⟩ : ∃ st, (itText m.toNat).next ((itText m.toNat).after k s1') = st := ⟨_, rfl⟩
      rw [hx, hst] at s2 HA
      have S2 := Lib.hid s2
      clear s2 hx hst
      go_wp2_with fail
      refine S2.out.mono ?_
      rintro e w2 ⟨rfl, hr2, hb2⟩
      have s3 := rWrong_any S' B st w2 hr2
      have HR2 := Lib.hid hr2
      have HO2 : Hid (w2.ownsRow w.heap.size 9 1 u9 k (((itText m.toNat).outs k s1').map strV)) := Lib.hid (own_but hown.out hb2 (fun j hj e => by have := (hown.out.lt j hj).1; omega))
      have HB2 := Lib.hid (hbut.out.trans hb2)
      have hs2 := hb2.size
      clear hr2 hb2
      unfold strV
      obtain ⟨bs, hbs⟩ : ∃ bs : ByteArray, (⟨x.toArray⟩ : ByteArray) = bs := ⟨_, rfl⟩
      rw [hbs]
      have HST := Lib.hid hbs
      clear hbs
      by_cases hE : st.e = 0
      · rw [hE] at s3
        go_wp2_with fail
        refine s3.mono ?_
        rintro e w3 ⟨rfl, rfl⟩
        go_wp2_with (at_builtin; refine wpList_append_valD rfl (.tmp 23) (.tmp 25) 22 rfl w.heap.size 9 i0 (.string ⟨#[]⟩) 16 Try.underlying22 hi hz0 hz1 hz2 rfl u9 k (((itText m.toNat).outs k s1').map strV) rfl w2 (.string bs) rfl rfl HO2.out rfl ?c1 ?c2 ?c3 ?_)
        case c1 => omega
        case c2 => omega
        case c3 => omega
        refine Lib.hid ?_
        intro v4 w4 hown4 hb4
        have HO4 : Hid (w4.ownsRow w.heap.size 9 1 v4 (k + 1) (((itText m.toNat).outs (k + 1) s1').map strV)) := Lib.hid (by
          rw [HA.out.2, List.map_append]
          simpa [strV, HST.out] using hown4)
        have HR4 : Hid (RdAt S' w4 B ((itText m.toNat).after (k + 1) s1')) := Lib.hid (by
          rw [HA.out.1]
          exact HR2.out.but (S' := fun k => w.heap.size ≤ k) ⟨hb4.os, hb4.tape, hb4.output, hb4.size, fun j _ hj => hb4.block j (by omega)⟩ HS2.out (by omega))
        have HE4 : Hid (0 < N → ((itText m.toNat).after (k + 1) s1').e = 0) := Lib.hid (fun _ => by rw [HA.out.1]; exact hE)
        have HB4 := Lib.hid (HB2.out.then_below hb4)
        clear hown4 hb4
        go_wp2
        go_roundw
        case rel => exact ⟨k + 1, by omega, by go_num, HO4, HR4, HE4, HB4⟩
        case measure => simp [intOf]; omega
      · have q1 : (((st.e : Nat) : Int) != 0) = true := by rw [bne_iff_ne]; omega
        have HN : Hid ((itText m.toNat).after N s1' = st ∧ ((itText m.toNat).after N s1').e ≠ 0) := Lib.hid (by
          have h1 := (itText m.toNat).after_stuck (n := N) (s := s1') (k := k + 1) (by omega) (by rw [HA.out.1]; exact hE)
          rw [h1, HA.out.1]
          exact ⟨rfl, hE⟩)
        obtain ⟨E, hEE⟩ : ∃ E, st.e = E := ⟨_, rfl⟩
        rw [hEE] at s3 q1
        clear hE hEE
        go_wp2_with fail
        refine s3.mono ?_
        rintro e w3 ⟨rfl, rfl⟩
        go_wp2
        go_ret
        refine HRes.out _ _ ?_
        rw [if_pos HN.out.2, HN.out.1]
        exact ⟨none, 0, rfl, RV.zero _ _, (fun b off e h0 => absurd h0 (by simp)), HR2.out.narrow HS1.out HSB.out, HB2.out⟩
    · obtain rfl : k = N := by omega
      obtain ⟨A2, c2, rfl, hrv, _, _, _⟩ := RV.ownD hown.out
      have HRV := Lib.hid hrv
      have HBlk : Hid (∀ b off, A2 = some ⟨b, off, none⟩ → w.heap.size ≤ b) := Lib.hid (fun b off e => (hown.out.lt b (by rw [e]; rfl)).1)
      have HF : Hid ((if ((itText m.toNat).after k s1').e ≠ 0 then [] else (itText m.toNat).outs k s1') = (itText m.toNat).outs k s1' ∧ ((itText m.toNat).outs k s1').length = k) := Lib.hid (by
        refine ⟨?_, (itText m.toNat).outs_length k s1'⟩
        by_cases h0 : 0 < k
        · rw [if_neg (by rw [he0.out h0]; simp)]
        · obtain rfl : k = 0 := by omega
          show (if _ then [] else []) = []
          split <;> rfl)
      clear hrv
      go_wp2
      go_ret
      refine HRes.out _ _ ?_
      rw [HF.out.1]
      have hlen : (((itText m.toNat).outs k s1').map strV).length = k := by rw [List.length_map, HF.out.2]
      exact ⟨A2, c2, by rw [hlen]; rfl, by rw [hlen]; exact HRV.out, (fun b off e _ => HBlk.out b off e), hrd.out.narrow HS1.out HSB.out, hbut.out⟩

theorem rTexts_any (S : Nat → Prop) (B : Nat) (many : Int) (m : Int) (s : St) (w : World) (h : RdAt S w B s) (hm : many ≤ 9223372036854775807) (hm2 : m ≤ 9223372036854775807) (hcap : many.toNat ≤ 1099511627776 ∨ s.b.length ≤ 1099511627776) :
    Calls Try.prog 74 #[.pointer (some ⟨B, 0, none⟩), .int .i64 many, .int .i64 m] w (ReadsL S B w (((itText m.toNat).listOut many.toNat s).map strV) ((itText m.toNat).listNext many.toNat s)) := by
  have s1 := items_str S B many m s w h hm hm2 hcap
  obtain ⟨vs, hvs⟩ : ∃ vs, ((itText m.toNat).listOut many.toNat s).map strV = vs := ⟨_, rfl⟩
  obtain ⟨s', hs'⟩ : ∃ s', (itText m.toNat).listNext many.toNat s = s' := ⟨_, rfl⟩
  rw [hvs, hs'] at s1 ⊢
  have S1 := Lib.hid s1
  clear h s1 hvs hs' hcap hm2
  go_enter Try.func74, Try.ntmps74
  go_wp2_with fail
  refine S1.out.mono ?_
  rintro e w1 hr
  have HR := Lib.hid hr
  obtain ⟨A, c, rfl, _, _, _, _⟩ := hr
  obtain ⟨n, hn⟩ : ∃ n, vs.length = n := ⟨_, rfl⟩
  rw [hn] at HR ⊢
  clear hn
  go_wp2
  go_ret
  exact HR.out

end Go.Proofs.Ytbhhalkpghcflaa
