/-
  Num, Text, Flag, Texts, Nums: the program's calls that lay; works (layer 4).
-/
import Derived.Test.YtbhhalkpghcflaaZj28
namespace Go.Proofs.Ytbhhalkpghcflaa
open Go.RowKit
set_option linter.unusedSimpArgs false

theorem AddD.apart {w : World} {A : Option Addr} {n c : Nat} {xs : List UInt8} (h : RB w A n xs) (hn : A = none → c = 0) (hnc : n ≤ c) (base : Nat) : AddD w base (.slice A n n) n xs :=
  .inr ⟨A, rfl, h, fun e => by have := hn e; omega⟩
/-- What a call that lays hands back: new memory alone. -/
theorem adds_gives {w w' : World} {m : Nat} {xs : List UInt8} {e : Ending} (h : Adds w w.heap.size m xs e w') : BGives w xs e w' := by
  obtain ⟨v, rfl, hown, hb⟩ := h
  have hl : xs.length = m := by simpa using hown.1
  subst hl
  obtain ⟨A, c, rfl, hr, h1, h2, h3⟩ := RB.own hown
  exact ⟨A, c, rfl, hr, h1, h2, h3, hb⟩

theorem Num_any (A : Option Addr) (n c : Nat) (xs : List UInt8) (N : Nat) (hN : N < 256 ^ 8) (w : World) (h : RB w A n xs) (hn : A = none → c = 0) (hnc : n ≤ c) (hm : n + 9 ≤ 140737488355328) :
    Calls Try.prog 19 #[.slice A n c, .int .u64 (N : Int)] w (BGives w (xs ++ numB N)) := by
  have s1 := apart_any A n c w hnc hn (by omega)
  have s2 := num_any (.slice A n n) w.heap.size n xs N hN w (.apart h hn hnc _) hm (Nat.le_refl _)
  obtain ⟨Z, hZ⟩ : ∃ Z, xs ++ numB N = Z := ⟨_, rfl⟩
  rw [hZ] at s2 ⊢
  clear hZ
  have S2 := Lib.hid s2
  clear h s2 hn
  go_enter Try.func19, Try.ntmps19
  go_wp2_with fail
  refine s1.mono ?_
  rintro e w1 ⟨rfl, rfl⟩
  go_wp2_with fail
  refine S2.out.mono ?_
  rintro e w2 h2
  obtain ⟨A2, c2, rfl, hr, h1, h3, h4, hb⟩ := adds_gives h2
  have HH := Lib.hid (adds_gives h2)
  clear h2 hr h1 h3 h4 hb
  go_wp2
  go_ret
  exact HH.out
theorem Text_any (A : Option Addr) (n c : Nat) (xs s : List UInt8) (w : World) (h : RB w A n xs) (hn : A = none → c = 0) (hnc : n ≤ c) (hm : n + s.length + 9 ≤ 140737488355328) :
    Calls Try.prog 65 #[.slice A n c, .string ⟨s.toArray⟩] w (BGives w (xs ++ textB s)) := by
  have s1 := apart_any A n c w hnc hn (by omega)
  have s2 := text_any (.slice A n n) w.heap.size n xs s w (.apart h hn hnc _) hm (Nat.le_refl _)
  obtain ⟨st, hst⟩ : ∃ st : ByteArray, (⟨s.toArray⟩ : ByteArray) = st := ⟨_, rfl⟩
  rw [hst] at s2 ⊢
  obtain ⟨Z, hZ⟩ : ∃ Z, xs ++ textB s = Z := ⟨_, rfl⟩
  rw [hZ] at s2 ⊢
  clear hZ
  have S2 := Lib.hid s2
  clear h s2 hn hst
  go_enter Try.func65, Try.ntmps65
  go_wp2_with fail
  refine s1.mono ?_
  rintro e w1 ⟨rfl, rfl⟩
  go_wp2_with fail
  refine S2.out.mono ?_
  rintro e w2 h2
  obtain ⟨A2, c2, rfl, hr, h1, h3, h4, hb⟩ := adds_gives h2
  have HH := Lib.hid (adds_gives h2)
  clear h2 hr h1 h3 h4 hb
  go_wp2
  go_ret
  exact HH.out
theorem Texts_any (A : Option Addr) (n c : Nat) (xs : List UInt8) (B : Option Addr) (k d : Nat) (l : List (List UInt8)) (w : World) (h : RB w A n xs) (hn : A = none → c = 0) (hnc : n ≤ c) (hl : RV w B k (l.map strV)) (hk : k ≤ 140737488355328) (hm : n + (textsB l).length + 9 ≤ 140737488355328) :
    Calls Try.prog 72 #[.slice A n c, .slice B k d] w (BGives w (xs ++ textsB l)) := by
  have s1 := apart_any A n c w hnc hn (by omega)
  have s2 := list_str (.slice A n n) w.heap.size n xs B k d l w (.apart h hn hnc _) hl (fun b off e h0 => by
    obtain ⟨b', off', e', hlt, _⟩ := hl.2 h0
    rw [e] at e'
    simp only [Option.some.injEq, Addr.mk.injEq] at e'
    rw [e'.1]; exact hlt) hm hk (Nat.le_refl _)
  obtain ⟨Z, hZ⟩ : ∃ Z, xs ++ textsB l = Z := ⟨_, rfl⟩
  rw [hZ] at s2 ⊢
  clear hZ
  have S2 := Lib.hid s2
  clear h s2 hn hl
  go_enter Try.func72, Try.ntmps72
  go_wp2_with fail
  refine s1.mono ?_
  rintro e w1 ⟨rfl, rfl⟩
  go_wp2_with fail
  refine S2.out.mono ?_
  rintro e w2 h2
  obtain ⟨A2, c2, rfl, hr, h1, h3, h4, hb⟩ := adds_gives h2
  have HH := Lib.hid (adds_gives h2)
  clear h2 hr h1 h3 h4 hb
  go_wp2
  go_ret
  exact HH.out
theorem Flag_any (A : Option Addr) (n c : Nat) (xs : List UInt8) (is : Bool) (w : World) (h : RB w A n xs) (hn : A = none → c = 0) (hnc : n ≤ c) (hm : n + 9 ≤ 140737488355328) :
    Calls Try.prog 78 #[.slice A n c, .bool is] w (BGives w (xs ++ flagB is)) := by
  have s2 := Num_any A n c xs (if is then 1 else 0) (by cases is <;> simp) w h hn hnc hm
  rw [← flagB] at s2
  obtain ⟨Z, hZ⟩ : ∃ Z, xs ++ flagB is = Z := ⟨_, rfl⟩
  rw [hZ] at s2 ⊢
  clear hZ
  cases is
  all_goals
    have S2 := Lib.hid s2
    clear h s2 hn
    go_enter Try.func78, Try.ntmps78
    go_wp2_with fail
    refine S2.out.mono ?_
    rintro e w2 h2
    have HH := Lib.hid h2
    obtain ⟨A2, c2, rfl, hr, h1, h3, h4, hb⟩ := h2
    clear hr h1 h3 h4 hb
    go_wp2
    go_ret
    exact HH.out
theorem numB_300 : numB 300 = [2, 1, 44] := by
  rw [numB, digs_pos (by omega), show 300 / 256 = 1 by rfl, digs_pos (by omega), show 1 / 256 = 0 by rfl, digs_zero]; rfl
end Go.Proofs.Ytbhhalkpghcflaa
