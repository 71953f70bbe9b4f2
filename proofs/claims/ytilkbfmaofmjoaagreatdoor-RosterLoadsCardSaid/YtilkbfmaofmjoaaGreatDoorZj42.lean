import Derived.Test.YtilkbfmaofmjoaaGreatDoorZj37
import Derived.Test.YtilkbfmaofmjoaaGreatDoorZj40
import Derived.BigQuiet
import Derived.Test.YtilkbfmaofmjoaaGreatDoorZj41
import Derived.RegionTactic
import Derived.BigRegion
import Derived.ChangeAlike
namespace Go.Proofs.YtilkbfmaofmjoaaGreatDoor
open Go.RowKit
set_option linter.unusedSimpArgs false
set_option linter.unusedVariables false
abbrev TRd : TypeId := 80
structure RwD {α : Type} (enc : α → List Value) (k : Nat) (S : Nat → Prop) (w : World) (B : Nat) (A : Option Addr) (c : Nat) (l : List α) : Prop where
  row : SK enc k w A l.length l
  own : ∀ b off, A = some ⟨b, off, none⟩ → 0 < l.length → S b ∧ b ≠ B
  le : l.length ≤ c
  max : c ≤ maxLen
section
variable {α : Type} {enc : α → List Value} {k : Nat} {S S' : Nat → Prop} {w w' : World} {B : Nat} {A : Option Addr} {c : Nat} {l : List α}
theorem RwD.but (h : RwD enc k S w B A c l) (hb : But S' w w') (hS : ∀ k, S' k → S k → k = B) : RwD enc k S w' B A c l :=
  ⟨h.row.but hb fun b off e hn q => (h.own b off e hn).2 (hS b q (h.own b off e hn).1), h.own, h.le, h.max⟩
theorem RwD.narrow (h : RwD enc k S w B A c l) (hs : ∀ k, k < w.heap.size → S k → S' k) : RwD enc k S' w B A c l :=
  ⟨h.row, fun b off e hn => by
    obtain ⟨b', off', e', hb, _⟩ := h.row.at_ (j := 0) hn hn
    rw [e] at e'
    cases e'
    exact ⟨hs b hb (h.own b off e hn).1, (h.own b off e hn).2⟩, h.le, h.max⟩
theorem RwD.nil : RwD enc k S w B none 0 ([] : List α) := ⟨SK.zero, (fun _ _ e => by cases e), Nat.le_refl _, Nat.zero_le _⟩
end
structure RdIs (base : Nat) (S : Nat → Prop) (w : World) (B : Nat) (A1 A2 A3 : Option Addr) (c1 c2 c3 : Nat) (m : Nat) (l2 : List (Rw SvW)) (d : Ro) : Prop where
  mine : S B
  lo : ∀ k, S k → base ≤ k
  top : base ≤ w.heap.size
  blk : w.heap[B]? = some (.cells #[.int .i64 (m : Int), .slice A1 d.n.l.length c1, .slice A2 l2.length c2, .slice A3 d.c.l.length c3, .int .u64 (d.n.last : Int), .int .u64 (d.s.last : Int), .int .u64 (d.c.last : Int)] TRd (0, 0))
  r1 : RwD ndC 4 S w B A1 c1 d.n.l
  r2 : RwD svC 7 S w B A2 c2 l2
  r3 : RwD ckC 7 S w B A3 c3 d.c.l
  eq : l2.map (rwMap (·.a)) = d.s.l
  tg : ∀ r ∈ l2, TgAt (fun k => k < base) w r.val
def RdAt (base : Nat) (S : Nat → Prop) (w : World) (B : Nat) (m : Nat) (d : Ro) : Prop := RoOk m d ∧ ∃ A1 A2 A3 c1 c2 c3 l2, RdIs base S w B A1 A2 A3 c1 c2 c3 m l2 d
section
variable {base : Nat} {S S' : Nat → Prop} {w w' : World} {B : Nat} {A1 A2 A3 : Option Addr} {c1 c2 c3 m : Nat} {l2 : List (Rw SvW)} {d : Ro}
theorem RdIs.lt (h : RdIs base S w B A1 A2 A3 c1 c2 c3 m l2 d) : B < w.heap.size := block_lt h.blk
theorem RdIs.but (h : RdIs base S w B A1 A2 A3 c1 c2 c3 m l2 d) (hb : But S' w w') (hS : ∀ k, S' k → ¬ S k ∧ base ≤ k) : RdIs base S w' B A1 A2 A3 c1 c2 c3 m l2 d :=
  ⟨h.mine, h.lo, Nat.le_trans h.top hb.size, (hb.block B h.lt fun e => (hS B e).1 h.mine).trans h.blk, h.r1.but hb fun k e z => absurd z (hS k e).1, h.r2.but hb fun k e z => absurd z (hS k e).1, h.r3.but hb fun k e z => absurd z (hS k e).1, h.eq, fun r hr => (h.tg r hr).but hb fun k e z => by have := (hS k e).2; omega⟩
theorem RdIs.below (h : RdIs base S w B A1 A2 A3 c1 c2 c3 m l2 d) (hb : Below w.heap.size w w') : RdIs base S w' B A1 A2 A3 c1 c2 c3 m l2 d := h.but (S' := fun _ => False) (But.of_below hb) (fun _ h => h.elim)
theorem RdIs.narrow (h : RdIs base S w B A1 A2 A3 c1 c2 c3 m l2 d) (hs : ∀ k, k < w.heap.size → S k → S' k) (hl : ∀ k, S' k → base ≤ k) : RdIs base S' w B A1 A2 A3 c1 c2 c3 m l2 d :=
  ⟨hs _ h.lt h.mine, hl, h.top, h.blk, h.r1.narrow hs, h.r2.narrow hs, h.r3.narrow hs, h.eq, h.tg⟩
theorem RdAt.but (h : RdAt base S w B m d) (hb : But S' w w') (hS : ∀ k, S' k → ¬ S k ∧ base ≤ k) : RdAt base S w' B m d := by
  obtain ⟨h0, A1, A2, A3, c1, c2, c3, l2, h1⟩ := h
  exact ⟨h0, A1, A2, A3, c1, c2, c3, l2, h1.but hb hS⟩
theorem RdAt.below (h : RdAt base S w B m d) (hb : Below w.heap.size w w') : RdAt base S w' B m d := h.but (S' := fun _ => False) (But.of_below hb) (fun _ h => h.elim)
theorem RdAt.narrow (h : RdAt base S w B m d) (hs : ∀ k, k < w.heap.size → S k → S' k) (hl : ∀ k, S' k → base ≤ k) : RdAt base S' w B m d := by
  obtain ⟨h0, A1, A2, A3, c1, c2, c3, l2, h1⟩ := h
  exact ⟨h0, A1, A2, A3, c1, c2, c3, l2, h1.narrow hs hl⟩
theorem RdAt.lt (h : RdAt base S w B m d) : B < w.heap.size := by
  obtain ⟨h0, A1, A2, A3, c1, c2, c3, l2, h1⟩ := h
  exact h1.lt
theorem RdAt.mine (h : RdAt base S w B m d) : S B := by
  obtain ⟨h0, A1, A2, A3, c1, c2, c3, l2, h1⟩ := h
  exact h1.mine
theorem RdAt.lo (h : RdAt base S w B m d) : ∀ k, S k → base ≤ k := by
  obtain ⟨h0, A1, A2, A3, c1, c2, c3, l2, h1⟩ := h
  exact h1.lo
theorem RdIs.cells (h : RdIs base S w B A1 A2 A3 c1 c2 c3 m l2 d) : w.cell? ⟨B, 0, none⟩ = some (.int .i64 (m : Int)) ∧ w.cell? ⟨B, 1, none⟩ = some (.slice A1 d.n.l.length c1) ∧ w.cell? ⟨B, 2, none⟩ = some (.slice A2 l2.length c2) ∧ w.cell? ⟨B, 3, none⟩ = some (.slice A3 d.c.l.length c3) ∧ w.cell? ⟨B, 4, none⟩ = some (.int .u64 (d.n.last : Int)) ∧ w.cell? ⟨B, 5, none⟩ = some (.int .u64 (d.s.last : Int)) ∧ w.cell? ⟨B, 6, none⟩ = some (.int .u64 (d.c.last : Int)) :=
  ⟨cellsN h.blk 0 _ rfl, cellsN h.blk 1 _ rfl, cellsN h.blk 2 _ rfl, cellsN h.blk 3 _ rfl, cellsN h.blk 4 _ rfl, cellsN h.blk 5 _ rfl, cellsN h.blk 6 _ rfl⟩
theorem RdIs.froz (h : RdIs base S w B A1 A2 A3 c1 c2 c3 m l2 d) (i : Nat) : w.frozen? ⟨B, i, none⟩ = false := blk_froz h.blk i
theorem RdIs.len2 (h : RdIs base S w B A1 A2 A3 c1 c2 c3 m l2 d) : l2.length = d.s.l.length := by rw [← h.eq, List.length_map]
theorem RdIs.last1 (h : RdIs base S w B A1 A2 A3 c1 c2 c3 m l2 d) (n : Nat) : RdIs base S (w.setCell ⟨B, 4, none⟩ (.int .u64 (n : Int))) B A1 A2 A3 c1 c2 c3 m l2 { d with n := { d.n with last := n } } := by
  have hb := But.set (S := (· = B)) w (p := ⟨B, 4, none⟩) rfl (.int .u64 (n : Int))
  exact ⟨h.mine, h.lo, Nat.le_trans h.top hb.size, block_set h.blk 4 _, h.r1.but hb (fun k e _ => e), h.r2.but hb (fun k e _ => e), h.r3.but hb (fun k e _ => e), h.eq, fun r hr => (h.tg r hr).but hb fun k e z => by have := h.lo _ h.mine; have : k = B := e; omega⟩
theorem RdIs.last2 (h : RdIs base S w B A1 A2 A3 c1 c2 c3 m l2 d) (n : Nat) : RdIs base S (w.setCell ⟨B, 5, none⟩ (.int .u64 (n : Int))) B A1 A2 A3 c1 c2 c3 m l2 { d with s := { d.s with last := n } } := by
  have hb := But.set (S := (· = B)) w (p := ⟨B, 5, none⟩) rfl (.int .u64 (n : Int))
  exact ⟨h.mine, h.lo, Nat.le_trans h.top hb.size, block_set h.blk 5 _, h.r1.but hb (fun k e _ => e), h.r2.but hb (fun k e _ => e), h.r3.but hb (fun k e _ => e), h.eq, fun r hr => (h.tg r hr).but hb fun k e z => by have := h.lo _ h.mine; have : k = B := e; omega⟩
theorem RdIs.last3 (h : RdIs base S w B A1 A2 A3 c1 c2 c3 m l2 d) (n : Nat) : RdIs base S (w.setCell ⟨B, 6, none⟩ (.int .u64 (n : Int))) B A1 A2 A3 c1 c2 c3 m l2 { d with c := { d.c with last := n } } := by
  have hb := But.set (S := (· = B)) w (p := ⟨B, 6, none⟩) rfl (.int .u64 (n : Int))
  exact ⟨h.mine, h.lo, Nat.le_trans h.top hb.size, block_set h.blk 6 _, h.r1.but hb (fun k e _ => e), h.r2.but hb (fun k e _ => e), h.r3.but hb (fun k e _ => e), h.eq, fun r hr => (h.tg r hr).but hb fun k e z => by have := h.lo _ h.mine; have : k = B := e; omega⟩
theorem RdIs.set1 (h : RdIs base S w B A1 A2 A3 c1 c2 c3 m l2 d) {A : Option Addr} {c : Nat} {l : List (Rw NdA)} (hr : RwD ndC 4 S w B A c l) : RdIs base S (w.setCell ⟨B, 1, none⟩ (.slice A l.length c)) B A A2 A3 c c2 c3 m l2 { d with n := { d.n with l := l } } := by
  have hb := But.set (S := (· = B)) w (p := ⟨B, 1, none⟩) rfl (.slice A l.length c)
  exact ⟨h.mine, h.lo, Nat.le_trans h.top hb.size, block_set h.blk 1 _, hr.but hb (fun k e _ => e), h.r2.but hb (fun k e _ => e), h.r3.but hb (fun k e _ => e), h.eq, fun r hr => (h.tg r hr).but hb fun k e z => by have := h.lo _ h.mine; have : k = B := e; omega⟩
theorem RdIs.set2 (h : RdIs base S w B A1 A2 A3 c1 c2 c3 m l2 d) {A : Option Addr} {c : Nat} {l : List (Rw SvW)} (hr : RwD svC 7 S w B A c l) (ht : ∀ r ∈ l, TgAt (fun k => k < base) w r.val) : RdIs base S (w.setCell ⟨B, 2, none⟩ (.slice A l.length c)) B A1 A A3 c1 c c3 m l { d with s := { d.s with l := l.map (rwMap (·.a)) } } := by
  have hb := But.set (S := (· = B)) w (p := ⟨B, 2, none⟩) rfl (.slice A l.length c)
  exact ⟨h.mine, h.lo, Nat.le_trans h.top hb.size, block_set h.blk 2 _, h.r1.but hb (fun k e _ => e), hr.but hb (fun k e _ => e), h.r3.but hb (fun k e _ => e), rfl, fun r hr => (ht r hr).but hb fun k e z => by have := h.lo _ h.mine; have : k = B := e; omega⟩
theorem RdIs.set3 (h : RdIs base S w B A1 A2 A3 c1 c2 c3 m l2 d) {A : Option Addr} {c : Nat} {l : List (Rw CkA)} (hr : RwD ckC 7 S w B A c l) : RdIs base S (w.setCell ⟨B, 3, none⟩ (.slice A l.length c)) B A1 A2 A c1 c2 c m l2 { d with c := { d.c with l := l } } := by
  have hb := But.set (S := (· = B)) w (p := ⟨B, 3, none⟩) rfl (.slice A l.length c)
  exact ⟨h.mine, h.lo, Nat.le_trans h.top hb.size, block_set h.blk 3 _, h.r1.but hb (fun k e _ => e), h.r2.but hb (fun k e _ => e), hr.but hb (fun k e _ => e), h.eq, fun r hr => (h.tg r hr).but hb fun k e z => by have := h.lo _ h.mine; have : k = B := e; omega⟩
end
end Go.Proofs.YtilkbfmaofmjoaaGreatDoor
namespace Go.Proofs.YtilkbfmaofmjoaaGreatDoor
open Go.RowKit
set_option linter.unusedSimpArgs false
set_option linter.unusedVariables false
def EqPost (P : Prop) (w : World) (e : Ending) (w' : World) : Prop := ∃ b, e = .returned (.bool b) ∧ (P → b = true) ∧ Below w.heap.size w w'
set_option maxHeartbeats 2000000 in
theorem rsame_any (A A2 : Option Addr) (n c n2 c2 : Nat) (l l2 : List ByteArray) (w : World) (h : RS w A n l) (k : RS w A2 n2 l2) (hn : n ≤ 1000) (hn2 : n2 ≤ maxLen) : Calls Tryz.prog 67 #[.slice A n c, .slice A2 n2 c2] w fun e w' => EqPost (l = l2) w e w' := by
  unfold maxLen at hn2
  have HL := Lib.hid h.1
  have HL2 := Lib.hid k.1
  have HS := Lib.hid h
  have HS2 := Lib.hid k
  have hm : n ≤ 9223372036854775807 := by omega
  have hm2 : n2 ≤ 9223372036854775807 := by omega
  clear h k hn hn2
  by_cases hne : n = n2
  · subst hne
    have zz : ((n : Int) != (n : Int)) = false := by simp
    go_enter Tryz.func67, Tryz.ntmps67
    go_wp2
    go_loopw [5] (fun iv wr => ∃ k : Nat, k ≤ n ∧ iv = .int .i64 (k : Int) ∧ Hid (Below w.heap.size w wr)) (fun iv _ => n - (intOf iv).toNat)
    case atStart => exact ⟨0, Nat.zero_le _, rfl, Lib.hid (Below.refl _ _)⟩
    case round =>
      obtain ⟨k, hk, rfl, hb⟩ := hrel
      by_cases hlt : k < n
      · have hkl : k < l.length := by have := HL.out; omega
        have hkl2 : k < l2.length := by have := HL2.out; omega
        obtain ⟨b, off, rfl, hbl, hit⟩ := (HS.out.below hb.out).2 (by omega)
        obtain ⟨b2, off2, rfl, hbl2, hit2⟩ := (HS2.out.below hb.out).2 (by omega)
        replace hit := hit k hkl
        replace hit2 := hit2 k hkl2
        obtain ⟨x, hx⟩ : ∃ x, l[k] = x := ⟨_, rfl⟩
        obtain ⟨y, hy⟩ : ∃ y, l2[k] = y := ⟨_, rfl⟩
        rw [hx] at hit
        rw [hy] at hit2
        have q1 : (k : Int) < (n : Int) := by omega
        have q0 : (0 : Int) ≤ (k : Int) := by omega
        cases hxy : (x.toList == y.toList) with
        | true =>
          clear hx hy
          go_wp2
          go_quiet (fail)
          go_wp2
          go_roundw
          case rel => exact ⟨k + 1, by omega, by go_num, Lib.hid (below_draws hb.out _)⟩
          case measure => simp [intOf]; omega
        | false =>
          have HN : Hid (l ≠ l2) := Lib.hid fun e => by
            have e2 : x = y := by rw [← hx, ← hy]; subst e; rfl
            rw [text_same.2 e2] at hxy
            cases hxy
          clear hx hy
          go_wp2
          go_quiet (fail)
          go_wp2
          go_ret
          exact ⟨false, rfl, fun h => absurd h HN.out, below_draws hb.out _⟩
      · go_wp2
        go_ret
        exact ⟨true, rfl, fun _ => rfl, hb.out⟩
  · have HN : Hid (l ≠ l2) := Lib.hid fun e => hne (by rw [← HL.out, ← HL2.out, e])
    have zz : ((n : Int) != (n2 : Int)) = true := by rw [bne_iff_ne]; omega
    go_enter Tryz.func67, Tryz.ntmps67
    go_wp2
    go_ret
    exact ⟨false, rfl, fun h => absurd h HN.out, Below.refl _ _⟩
set_option maxHeartbeats 4000000 in
theorem rdsamenodes_any (A : Option Addr) (n c : Nat) (l : List (Rw NdA)) (A2 : Option Addr) (n2 c2 : Nat) (l2 : List (Rw NdA)) (w : World) (hS : SK ndC 4 w A n l) (hS2 : SK ndC 4 w A2 n2 l2) (hn : n ≤ maxLen) (hn2 : n2 ≤ maxLen) : Calls Tryz.prog 24 #[.slice A n c, .slice A2 n2 c2] w fun e w' => EqPost (l = l2) w e w' := by
  unfold maxLen at hn hn2
  have HL := Lib.hid hS.1
  have HL2 := Lib.hid hS2.1
  have HS := Lib.hid hS
  have HS2 := Lib.hid hS2
  have hm : n ≤ 9223372036854775807 := by omega
  have hm2 : n2 ≤ 9223372036854775807 := by omega
  clear hS hS2 hn hn2
  by_cases hne : n = n2
  · subst hne
    have zz : ((n : Int) != (n : Int)) = false := by simp
    go_enter Tryz.func24, Tryz.ntmps24
    go_wp2
    go_loopw [5] (fun iv wr => ∃ k : Nat, k ≤ n ∧ iv = .int .i64 (k : Int) ∧ Hid (Below w.heap.size w wr)) (fun iv _ => n - (intOf iv).toNat)
    case atStart => exact ⟨0, Nat.zero_le _, rfl, Lib.hid (Below.refl _ _)⟩
    case round =>
      obtain ⟨k, hk, rfl, hb⟩ := hrel
      by_cases hlt : k < n
      · have hkl : k < l.length := by have := HL.out; omega
        have hkl2 : k < l2.length := by have := HL2.out; omega
        obtain ⟨b, off, rfl, hbl, hit⟩ := (HS.out.below hb.out).at_ hlt hkl
        obtain ⟨b2, off2, rfl, hbl2, hit2⟩ := (HS2.out.below hb.out).at_ hlt hkl2
        obtain ⟨x, hx⟩ : ∃ x, l[k] = x := ⟨_, rfl⟩
        obtain ⟨y, hy⟩ : ∃ y, l2[k] = y := ⟨_, rfl⟩
        rw [hx] at hit
        rw [hy] at hit2
        obtain ⟨c0, c1, c2, c3⟩ := nd_cells hit
        obtain ⟨d0, d1, d2, d3⟩ := nd_cells hit2
        have q1 : (k : Int) < (n : Int) := by omega
        have q0 : (0 : Int) ≤ (k : Int) := by omega
        have ug := nd_guard
        have ue := nd_eq x y
        cases hxy : eqNd x y with
        | true =>
          rw [hxy] at ue
          unfold ndV at ue
          clear hx hy hit hit2 hxy
          go_wp2
          go_quiet (fail)
          go_wp2
          go_roundw
          case rel => exact ⟨k + 1, by omega, by go_num, Lib.hid (below_draws hb.out _)⟩
          case measure => simp [intOf]; omega
        | false =>
          have HN : Hid (l ≠ l2) := Lib.hid fun e => by
            have e2 : x = y := by rw [← hx, ← hy]; subst e; rfl
            rw [eqNd_same x y (by rw [e2]; exact ⟨rfl, rfl, rfl⟩)] at hxy
            cases hxy
          rw [hxy] at ue
          unfold ndV at ue
          clear hx hy hit hit2 hxy
          go_wp2
          go_quiet (fail)
          go_wp2
          go_ret
          exact ⟨false, rfl, fun h => absurd h HN.out, below_draws hb.out _⟩
      · go_wp2
        go_ret
        exact ⟨true, rfl, fun _ => rfl, hb.out⟩
  · have HN : Hid (l ≠ l2) := Lib.hid fun e => hne (by rw [← HL.out, ← HL2.out, e])
    have zz : ((n : Int) != (n2 : Int)) = true := by rw [bne_iff_ne]; omega
    go_enter Tryz.func24, Tryz.ntmps24
    go_wp2
    go_ret
    exact ⟨false, rfl, fun h => absurd h HN.out, Below.refl _ _⟩
set_option maxHeartbeats 4000000 in
theorem rdsamechecks_any (A : Option Addr) (n c : Nat) (l : List (Rw CkA)) (A2 : Option Addr) (n2 c2 : Nat) (l2 : List (Rw CkA)) (w : World) (hS : SK ckC 7 w A n l) (hS2 : SK ckC 7 w A2 n2 l2) (hn : n ≤ maxLen) (hn2 : n2 ≤ maxLen) : Calls Tryz.prog 26 #[.slice A n c, .slice A2 n2 c2] w fun e w' => EqPost (l = l2) w e w' := by
  unfold maxLen at hn hn2
  have HL := Lib.hid hS.1
  have HL2 := Lib.hid hS2.1
  have HS := Lib.hid hS
  have HS2 := Lib.hid hS2
  have hm : n ≤ 9223372036854775807 := by omega
  have hm2 : n2 ≤ 9223372036854775807 := by omega
  clear hS hS2 hn hn2
  by_cases hne : n = n2
  · subst hne
    have zz : ((n : Int) != (n : Int)) = false := by simp
    go_enter Tryz.func26, Tryz.ntmps26
    go_wp2
    go_loopw [5] (fun iv wr => ∃ k : Nat, k ≤ n ∧ iv = .int .i64 (k : Int) ∧ Hid (Below w.heap.size w wr)) (fun iv _ => n - (intOf iv).toNat)
    case atStart => exact ⟨0, Nat.zero_le _, rfl, Lib.hid (Below.refl _ _)⟩
    case round =>
      obtain ⟨k, hk, rfl, hb⟩ := hrel
      by_cases hlt : k < n
      · have hkl : k < l.length := by have := HL.out; omega
        have hkl2 : k < l2.length := by have := HL2.out; omega
        obtain ⟨b, off, rfl, hbl, hit⟩ := (HS.out.below hb.out).at_ hlt hkl
        obtain ⟨b2, off2, rfl, hbl2, hit2⟩ := (HS2.out.below hb.out).at_ hlt hkl2
        obtain ⟨x, hx⟩ : ∃ x, l[k] = x := ⟨_, rfl⟩
        obtain ⟨y, hy⟩ : ∃ y, l2[k] = y := ⟨_, rfl⟩
        rw [hx] at hit
        rw [hy] at hit2
        obtain ⟨c0, c1, c2, c3, c4, c5, c6⟩ := ck_cells hit
        obtain ⟨d0, d1, d2, d3, d4, d5, d6⟩ := ck_cells hit2
        have q1 : (k : Int) < (n : Int) := by omega
        have q0 : (0 : Int) ≤ (k : Int) := by omega
        have ug := ck_guard
        have ue := ck_eq x y
        cases hxy : eqCk x y with
        | true =>
          rw [hxy] at ue
          unfold ckV at ue
          clear hx hy hit hit2 hxy
          go_wp2
          go_quiet (fail)
          go_wp2
          go_roundw
          case rel => exact ⟨k + 1, by omega, by go_num, Lib.hid (below_draws hb.out _)⟩
          case measure => simp [intOf]; omega
        | false =>
          have HN : Hid (l ≠ l2) := Lib.hid fun e => by
            have e2 : x = y := by rw [← hx, ← hy]; subst e; rfl
            rw [eqCk_same x y (by rw [e2]; exact ⟨rfl, rfl, rfl⟩)] at hxy
            cases hxy
          rw [hxy] at ue
          unfold ckV at ue
          clear hx hy hit hit2 hxy
          go_wp2
          go_quiet (fail)
          go_wp2
          go_ret
          exact ⟨false, rfl, fun h => absurd h HN.out, below_draws hb.out _⟩
      · go_wp2
        go_ret
        exact ⟨true, rfl, fun _ => rfl, hb.out⟩
  · have HN : Hid (l ≠ l2) := Lib.hid fun e => hne (by rw [← HL.out, ← HL2.out, e])
    have zz : ((n : Int) != (n2 : Int)) = true := by rw [bne_iff_ne]; omega
    go_enter Tryz.func26, Tryz.ntmps26
    go_wp2
    go_ret
    exact ⟨false, rfl, fun h => absurd h HN.out, Below.refl _ _⟩
end Go.Proofs.YtilkbfmaofmjoaaGreatDoor
namespace Go.Proofs.YtilkbfmaofmjoaaGreatDoor
open Go.RowKit
set_option linter.unusedSimpArgs false
set_option linter.unusedVariables false
set_option maxHeartbeats 8000000 in
theorem rdsameservices_any (A : Option Addr) (n c : Nat) (l : List (Rw SvW)) (A2 : Option Addr) (n2 c2 : Nat) (l2 : List (Rw SvW)) (w : World) (hS : SK svC 7 w A n l) (hS2 : SK svC 7 w A2 n2 l2) (hn : n ≤ maxLen) (hn2 : n2 ≤ maxLen) (ht : ∀ r ∈ l, Tx w r.val.A r.val.n r.val.c r.val.a.tags ∧ r.val.n ≤ 1000) (ht2 : ∀ r ∈ l2, Tx w r.val.A r.val.n r.val.c r.val.a.tags ∧ r.val.n ≤ 1000) : Calls Tryz.prog 25 #[.slice A n c, .slice A2 n2 c2] w fun e w' => EqPost (l.map (rwMap (·.a)) = l2.map (rwMap (·.a))) w e w' := by
  unfold maxLen at hn hn2
  have HL := Lib.hid hS.1
  have HL2 := Lib.hid hS2.1
  have HS := Lib.hid hS
  have HS2 := Lib.hid hS2
  have HT := Lib.hid ht
  have HT2 := Lib.hid ht2
  have hm : n ≤ 9223372036854775807 := by omega
  have hm2 : n2 ≤ 9223372036854775807 := by omega
  clear hS hS2 hn hn2 ht ht2
  by_cases hne : n = n2
  · subst hne
    have zz : ((n : Int) != (n : Int)) = false := by simp
    go_enter Tryz.func25, Tryz.ntmps25
    go_wp2
    go_loopw [5] (fun iv wr => ∃ k : Nat, k ≤ n ∧ iv = .int .i64 (k : Int) ∧ Hid (Below w.heap.size w wr)) (fun iv _ => n - (intOf iv).toNat)
    case atStart => exact ⟨0, Nat.zero_le _, rfl, Lib.hid (Below.refl _ _)⟩
    case round =>
      obtain ⟨k, hk, rfl, hb⟩ := hrel
      by_cases hlt : k < n
      · have hkl : k < l.length := by have := HL.out; omega
        have hkl2 : k < l2.length := by have := HL2.out; omega
        obtain ⟨b, off, rfl, hbl, hit⟩ := (HS.out.below hb.out).at_ hlt hkl
        obtain ⟨b2, off2, rfl, hbl2, hit2⟩ := (HS2.out.below hb.out).at_ hlt hkl2
        have hx3 := HT.out l[k] (List.getElem_mem hkl)
        have hy3 := HT2.out l2[k] (List.getElem_mem hkl2)
        have heq : l.map (rwMap (·.a)) = l2.map (rwMap (·.a)) → rwMap (fun v : SvW => v.a) l[k] = rwMap (fun v : SvW => v.a) l2[k] := fun e => by
          have h1 : (l.map (rwMap (fun v : SvW => v.a)))[k]'(by simpa using hkl) = (l2.map (rwMap (fun v : SvW => v.a)))[k]'(by simpa using hkl2) := by simp only [e]
          simpa using h1
        obtain ⟨x, hx⟩ : ∃ x, l[k] = x := ⟨_, rfl⟩
        obtain ⟨y, hy⟩ : ∃ y, l2[k] = y := ⟨_, rfl⟩
        rw [hx] at hit heq hx3
        rw [hy] at hit2 heq hy3
        obtain ⟨c0, c1, c2, c3, c4, c5, c6⟩ := sv_cells hit
        obtain ⟨d0, d1, d2, d3, d4, d5, d6⟩ := sv_cells hit2
        have q1 : (k : Int) < (n : Int) := by omega
        have q0 : (0 : Int) ≤ (k : Int) := by omega
        replace hx3 : Tx wr x.val.A x.val.n x.val.c x.val.a.tags ∧ x.val.n ≤ 1000 := ⟨hx3.1.below hb.out, hx3.2⟩
        replace hy3 : Tx wr y.val.A y.val.n y.val.c y.val.a.tags ∧ y.val.n ≤ 1000 := ⟨hy3.1.below hb.out, hy3.2⟩
        clear hx hy hit hit2
        go_wp2_with fail
        go_region
        · have k1 := heap_alloc_new wr (.cells #[.int .i64 x.val.a.node, .string x.val.a.id, .string x.val.a.name, .slice x.val.A x.val.n x.val.c, .int .i64 x.val.a.port, .int .u64 (x.made : Int), .int .u64 (x.ix : Int)] TSv)
          have b1 := below1 wr #[.int .i64 x.val.a.node, .string x.val.a.id, .string x.val.a.name, .slice x.val.A x.val.n x.val.c, .int .i64 x.val.a.port, .int .u64 (x.made : Int), .int .u64 (x.ix : Int)] TSv
          have s1 : (wr.alloc (.cells #[.int .i64 x.val.a.node, .string x.val.a.id, .string x.val.a.name, .slice x.val.A x.val.n x.val.c, .int .i64 x.val.a.port, .int .u64 (x.made : Int), .int .u64 (x.ix : Int)] TSv)).heap.size = wr.heap.size + 1 := by simp
          have k2 := heap_alloc_new (wr.alloc (.cells #[.int .i64 x.val.a.node, .string x.val.a.id, .string x.val.a.name, .slice x.val.A x.val.n x.val.c, .int .i64 x.val.a.port, .int .u64 (x.made : Int), .int .u64 (x.ix : Int)] TSv)) (.cells #[.int .i64 y.val.a.node, .string y.val.a.id, .string y.val.a.name, .slice y.val.A y.val.n y.val.c, .int .i64 y.val.a.port, .int .u64 (y.made : Int), .int .u64 (y.ix : Int)] TSv)
          have b2 := below1 (wr.alloc (.cells #[.int .i64 x.val.a.node, .string x.val.a.id, .string x.val.a.name, .slice x.val.A x.val.n x.val.c, .int .i64 x.val.a.port, .int .u64 (x.made : Int), .int .u64 (x.ix : Int)] TSv)) #[.int .i64 y.val.a.node, .string y.val.a.id, .string y.val.a.name, .slice y.val.A y.val.n y.val.c, .int .i64 y.val.a.port, .int .u64 (y.made : Int), .int .u64 (y.ix : Int)] TSv
          have k1' := (b2.block wr.heap.size (by rw [s1]; omega)).trans k1
          rw [s1] at k2
          obtain ⟨W6, hW6⟩ : ∃ W, ((wr.alloc (.cells #[.int .i64 x.val.a.node, .string x.val.a.id, .string x.val.a.name, .slice x.val.A x.val.n x.val.c, .int .i64 x.val.a.port, .int .u64 (x.made : Int), .int .u64 (x.ix : Int)] TSv)).alloc (.cells #[.int .i64 y.val.a.node, .string y.val.a.id, .string y.val.a.name, .slice y.val.A y.val.n y.val.c, .int .i64 y.val.a.port, .int .u64 (y.made : Int), .int .u64 (y.ix : Int)] TSv)).drew = W := ⟨_, rfl⟩
          have f6 : W6.heap = ((wr.alloc (.cells #[.int .i64 x.val.a.node, .string x.val.a.id, .string x.val.a.name, .slice x.val.A x.val.n x.val.c, .int .i64 x.val.a.port, .int .u64 (x.made : Int), .int .u64 (x.ix : Int)] TSv)).alloc (.cells #[.int .i64 y.val.a.node, .string y.val.a.id, .string y.val.a.name, .slice y.val.A y.val.n y.val.c, .int .i64 y.val.a.port, .int .u64 (y.made : Int), .int .u64 (y.ix : Int)] TSv)).heap := by rw [← hW6]; rfl
          rw [← f6] at k1' k2
          have HB6 : Hid (Below w.heap.size w W6) := Lib.hid (by rw [← hW6]; exact below_draws (hb.out.trans ((b1.trans (b2.mono b1.size)).mono hb.out.size)) 1)
          have hb61 : Below wr.heap.size wr W6 := by rw [← hW6]; exact below_draws (b1.trans (b2.mono b1.size)) 1
          obtain ⟨g0, g1, g2, g3, g4, g5, g6⟩ := sv_blk k1'
          obtain ⟨f0, f1, f2, f3, f4, f5, f6'⟩ := sv_blk k2
          have HSm := Lib.hid (rsame_any x.val.A y.val.A x.val.n x.val.c y.val.n y.val.c x.val.a.tags y.val.a.tags W6 (hx3.1.below hb61).rs (hy3.1.below hb61).rs hx3.2 (Nat.le_trans hy3.1.le hy3.1.max))
          have HK1 := Lib.hid k1'
          have HK2 := Lib.hid k2
          rw [hW6]
          clear k1 b1 s1 k2 b2 k1' hW6 f6 hb61 hx3 hy3 c0 c1 c2 c3 c4 c5 c6 d0 d1 d2 d3 d4 d5 d6 q1 q0
          by_cases q0 : x.val.a.node = y.val.a.node
          rotate_left
          · have q : (x.val.a.node == y.val.a.node) = false := beq_eq_false_iff_ne.2 q0
            have q9 : (x.val.a.node != y.val.a.node) = true := by rw [bne, q]; rfl
            have HN : Hid (¬ (l.map (rwMap (fun v : SvW => v.a)) = l2.map (rwMap (fun v : SvW => v.a)))) := Lib.hid (fun e => by have h9 := congrArg (fun r : Rw SvA => r.val.node) (heq e); exact q0 h9)
            clear q0 heq
            go_wp2
            go_ret
            exact ⟨false, rfl, fun h => absurd h HN.out, HB6.out⟩
          have qn : (x.val.a.node == y.val.a.node) = true := beq_iff_eq.2 q0
          have qn9 : (x.val.a.node != y.val.a.node) = false := by rw [bne, qn]; rfl
          clear q0
          cases z1 : (x.val.a.id.toList == y.val.a.id.toList) with
          | false =>
            have HN : Hid (¬ (l.map (rwMap (fun v : SvW => v.a)) = l2.map (rwMap (fun v : SvW => v.a)))) := Lib.hid (fun e => by have h9 := congrArg (fun r : Rw SvA => r.val.id) (heq e); exact text_other.1 z1 h9)
            clear heq
            go_wp2
            go_ret
            exact ⟨false, rfl, fun h => absurd h HN.out, HB6.out⟩
          | true =>
            cases z2 : (x.val.a.name.toList == y.val.a.name.toList) with
            | false =>
              have HN : Hid (¬ (l.map (rwMap (fun v : SvW => v.a)) = l2.map (rwMap (fun v : SvW => v.a)))) := Lib.hid (fun e => by have h9 := congrArg (fun r : Rw SvA => r.val.name) (heq e); exact text_other.1 z2 h9)
              clear heq
              go_wp2
              go_ret
              exact ⟨false, rfl, fun h => absurd h HN.out, HB6.out⟩
            | true =>
              go_wp2_with fail
              refine HSm.out.mono ?_
              rintro e W7 ⟨bs, rfl, hbs, hb7⟩
              have HB7 := Lib.hid (HB6.out.trans (hb7.mono HB6.out.size))
              obtain ⟨g0, g1, g2, g3, g4, g5, g6⟩ := sv_blk ((hb7.block _ (block_lt HK1.out)).trans HK1.out)
              obtain ⟨f0, f1, f2, f3, f4, f5, f6'⟩ := sv_blk ((hb7.block _ (block_lt HK2.out)).trans HK2.out)
              have HBs := Lib.hid hbs
              clear hb7 hbs HSm qn qn9 z1 z2
              cases bs with
              | false =>
                have HN : Hid (¬ (l.map (rwMap (fun v : SvW => v.a)) = l2.map (rwMap (fun v : SvW => v.a)))) := Lib.hid (fun e => by have h9 := congrArg (fun r : Rw SvA => r.val.tags) (heq e); have := HBs.out h9; cases this)
                clear heq
                go_wp2
                go_ret
                exact ⟨false, rfl, fun h => absurd h HN.out, HB7.out⟩
              | true =>
                by_cases q4 : x.val.a.port = y.val.a.port
                rotate_left
                · have q : (x.val.a.port == y.val.a.port) = false := beq_eq_false_iff_ne.2 q4
                  have q9 : (x.val.a.port != y.val.a.port) = true := by rw [bne, q]; rfl
                  have HN : Hid (¬ (l.map (rwMap (fun v : SvW => v.a)) = l2.map (rwMap (fun v : SvW => v.a)))) := Lib.hid (fun e => by have h9 := congrArg (fun r : Rw SvA => r.val.port) (heq e); exact q4 h9)
                  clear q4 heq
                  go_wp2
                  go_ret
                  exact ⟨false, rfl, fun h => absurd h HN.out, HB7.out⟩
                have q : (x.val.a.port == y.val.a.port) = true := beq_iff_eq.2 q4
                have q9 : (x.val.a.port != y.val.a.port) = false := by rw [bne, q]; rfl
                clear q4
                by_cases q5 : x.made = y.made
                rotate_left
                · have q51 : ((x.made : Int) == (y.made : Int)) = false := beq_eq_false_iff_ne.2 (by omega)
                  have q59 : ((x.made : Int) != (y.made : Int)) = true := by rw [bne, q51]; rfl
                  have q5i : ¬ (x.made : Int) = (y.made : Int) := by omega
                  have HN : Hid (¬ (l.map (rwMap (fun v : SvW => v.a)) = l2.map (rwMap (fun v : SvW => v.a)))) := Lib.hid (fun e => by have h9 := congrArg (fun r : Rw SvA => r.made) (heq e); exact q5 h9)
                  clear heq
                  go_wp2
                  go_ret
                  exact ⟨false, rfl, fun h => absurd h HN.out, HB7.out⟩
                have q51 : ((x.made : Int) == (y.made : Int)) = true := beq_iff_eq.2 (by omega)
                have q59 : ((x.made : Int) != (y.made : Int)) = false := by rw [bne, q51]; rfl
                by_cases q6 : x.ix = y.ix
                rotate_left
                · have q61 : ((x.ix : Int) == (y.ix : Int)) = false := beq_eq_false_iff_ne.2 (by omega)
                  have q69 : ((x.ix : Int) != (y.ix : Int)) = true := by rw [bne, q61]; rfl
                  have q6i : ¬ (x.ix : Int) = (y.ix : Int) := by omega
                  have HN : Hid (¬ (l.map (rwMap (fun v : SvW => v.a)) = l2.map (rwMap (fun v : SvW => v.a)))) := Lib.hid (fun e => by have h9 := congrArg (fun r : Rw SvA => r.ix) (heq e); exact q6 h9)
                  clear heq
                  go_wp2
                  go_ret
                  exact ⟨false, rfl, fun h => absurd h HN.out, HB7.out⟩
                have q61 : ((x.ix : Int) == (y.ix : Int)) = true := beq_iff_eq.2 (by omega)
                have q69 : ((x.ix : Int) != (y.ix : Int)) = false := by rw [bne, q61]; rfl
                clear heq
                go_wp2
                go_roundw
                case rel => exact ⟨k + 1, by omega, by go_num, HB7⟩
                case measure => simp [intOf]; omega
        · have k1 := heap_alloc_new wr (.cells #[.int .i64 y.val.a.node, .string y.val.a.id, .string y.val.a.name, .slice y.val.A y.val.n y.val.c, .int .i64 y.val.a.port, .int .u64 (y.made : Int), .int .u64 (y.ix : Int)] TSv)
          have b1 := below1 wr #[.int .i64 y.val.a.node, .string y.val.a.id, .string y.val.a.name, .slice y.val.A y.val.n y.val.c, .int .i64 y.val.a.port, .int .u64 (y.made : Int), .int .u64 (y.ix : Int)] TSv
          have s1 : (wr.alloc (.cells #[.int .i64 y.val.a.node, .string y.val.a.id, .string y.val.a.name, .slice y.val.A y.val.n y.val.c, .int .i64 y.val.a.port, .int .u64 (y.made : Int), .int .u64 (y.ix : Int)] TSv)).heap.size = wr.heap.size + 1 := by simp
          have k2 := heap_alloc_new (wr.alloc (.cells #[.int .i64 y.val.a.node, .string y.val.a.id, .string y.val.a.name, .slice y.val.A y.val.n y.val.c, .int .i64 y.val.a.port, .int .u64 (y.made : Int), .int .u64 (y.ix : Int)] TSv)) (.cells #[.int .i64 x.val.a.node, .string x.val.a.id, .string x.val.a.name, .slice x.val.A x.val.n x.val.c, .int .i64 x.val.a.port, .int .u64 (x.made : Int), .int .u64 (x.ix : Int)] TSv)
          have b2 := below1 (wr.alloc (.cells #[.int .i64 y.val.a.node, .string y.val.a.id, .string y.val.a.name, .slice y.val.A y.val.n y.val.c, .int .i64 y.val.a.port, .int .u64 (y.made : Int), .int .u64 (y.ix : Int)] TSv)) #[.int .i64 x.val.a.node, .string x.val.a.id, .string x.val.a.name, .slice x.val.A x.val.n x.val.c, .int .i64 x.val.a.port, .int .u64 (x.made : Int), .int .u64 (x.ix : Int)] TSv
          have k1' := (b2.block wr.heap.size (by rw [s1]; omega)).trans k1
          rw [s1] at k2
          obtain ⟨W6, hW6⟩ : ∃ W, ((wr.alloc (.cells #[.int .i64 y.val.a.node, .string y.val.a.id, .string y.val.a.name, .slice y.val.A y.val.n y.val.c, .int .i64 y.val.a.port, .int .u64 (y.made : Int), .int .u64 (y.ix : Int)] TSv)).alloc (.cells #[.int .i64 x.val.a.node, .string x.val.a.id, .string x.val.a.name, .slice x.val.A x.val.n x.val.c, .int .i64 x.val.a.port, .int .u64 (x.made : Int), .int .u64 (x.ix : Int)] TSv)).drew = W := ⟨_, rfl⟩
          have f6 : W6.heap = ((wr.alloc (.cells #[.int .i64 y.val.a.node, .string y.val.a.id, .string y.val.a.name, .slice y.val.A y.val.n y.val.c, .int .i64 y.val.a.port, .int .u64 (y.made : Int), .int .u64 (y.ix : Int)] TSv)).alloc (.cells #[.int .i64 x.val.a.node, .string x.val.a.id, .string x.val.a.name, .slice x.val.A x.val.n x.val.c, .int .i64 x.val.a.port, .int .u64 (x.made : Int), .int .u64 (x.ix : Int)] TSv)).heap := by rw [← hW6]; rfl
          rw [← f6] at k1' k2
          have HB6 : Hid (Below w.heap.size w W6) := Lib.hid (by rw [← hW6]; exact below_draws (hb.out.trans ((b1.trans (b2.mono b1.size)).mono hb.out.size)) 1)
          have hb61 : Below wr.heap.size wr W6 := by rw [← hW6]; exact below_draws (b1.trans (b2.mono b1.size)) 1
          obtain ⟨g0, g1, g2, g3, g4, g5, g6⟩ := sv_blk k2
          obtain ⟨f0, f1, f2, f3, f4, f5, f6'⟩ := sv_blk k1'
          have HSm := Lib.hid (rsame_any x.val.A y.val.A x.val.n x.val.c y.val.n y.val.c x.val.a.tags y.val.a.tags W6 (hx3.1.below hb61).rs (hy3.1.below hb61).rs hx3.2 (Nat.le_trans hy3.1.le hy3.1.max))
          have HK1 := Lib.hid k2
          have HK2 := Lib.hid k1'
          rw [hW6]
          clear k1 b1 s1 k2 b2 k1' hW6 f6 hb61 hx3 hy3 c0 c1 c2 c3 c4 c5 c6 d0 d1 d2 d3 d4 d5 d6 q1 q0
          by_cases q0 : x.val.a.node = y.val.a.node
          rotate_left
          · have q : (x.val.a.node == y.val.a.node) = false := beq_eq_false_iff_ne.2 q0
            have q9 : (x.val.a.node != y.val.a.node) = true := by rw [bne, q]; rfl
            have HN : Hid (¬ (l.map (rwMap (fun v : SvW => v.a)) = l2.map (rwMap (fun v : SvW => v.a)))) := Lib.hid (fun e => by have h9 := congrArg (fun r : Rw SvA => r.val.node) (heq e); exact q0 h9)
            clear q0 heq
            go_wp2
            go_ret
            exact ⟨false, rfl, fun h => absurd h HN.out, HB6.out⟩
          have qn : (x.val.a.node == y.val.a.node) = true := beq_iff_eq.2 q0
          have qn9 : (x.val.a.node != y.val.a.node) = false := by rw [bne, qn]; rfl
          clear q0
          cases z1 : (x.val.a.id.toList == y.val.a.id.toList) with
          | false =>
            have HN : Hid (¬ (l.map (rwMap (fun v : SvW => v.a)) = l2.map (rwMap (fun v : SvW => v.a)))) := Lib.hid (fun e => by have h9 := congrArg (fun r : Rw SvA => r.val.id) (heq e); exact text_other.1 z1 h9)
            clear heq
            go_wp2
            go_ret
            exact ⟨false, rfl, fun h => absurd h HN.out, HB6.out⟩
          | true =>
            cases z2 : (x.val.a.name.toList == y.val.a.name.toList) with
            | false =>
              have HN : Hid (¬ (l.map (rwMap (fun v : SvW => v.a)) = l2.map (rwMap (fun v : SvW => v.a)))) := Lib.hid (fun e => by have h9 := congrArg (fun r : Rw SvA => r.val.name) (heq e); exact text_other.1 z2 h9)
              clear heq
              go_wp2
              go_ret
              exact ⟨false, rfl, fun h => absurd h HN.out, HB6.out⟩
            | true =>
              go_wp2_with fail
              refine HSm.out.mono ?_
              rintro e W7 ⟨bs, rfl, hbs, hb7⟩
              have HB7 := Lib.hid (HB6.out.trans (hb7.mono HB6.out.size))
              obtain ⟨g0, g1, g2, g3, g4, g5, g6⟩ := sv_blk ((hb7.block _ (block_lt HK1.out)).trans HK1.out)
              obtain ⟨f0, f1, f2, f3, f4, f5, f6'⟩ := sv_blk ((hb7.block _ (block_lt HK2.out)).trans HK2.out)
              have HBs := Lib.hid hbs
              clear hb7 hbs HSm qn qn9 z1 z2
              cases bs with
              | false =>
                have HN : Hid (¬ (l.map (rwMap (fun v : SvW => v.a)) = l2.map (rwMap (fun v : SvW => v.a)))) := Lib.hid (fun e => by have h9 := congrArg (fun r : Rw SvA => r.val.tags) (heq e); have := HBs.out h9; cases this)
                clear heq
                go_wp2
                go_ret
                exact ⟨false, rfl, fun h => absurd h HN.out, HB7.out⟩
              | true =>
                by_cases q4 : x.val.a.port = y.val.a.port
                rotate_left
                · have q : (x.val.a.port == y.val.a.port) = false := beq_eq_false_iff_ne.2 q4
                  have q9 : (x.val.a.port != y.val.a.port) = true := by rw [bne, q]; rfl
                  have HN : Hid (¬ (l.map (rwMap (fun v : SvW => v.a)) = l2.map (rwMap (fun v : SvW => v.a)))) := Lib.hid (fun e => by have h9 := congrArg (fun r : Rw SvA => r.val.port) (heq e); exact q4 h9)
                  clear q4 heq
                  go_wp2
                  go_ret
                  exact ⟨false, rfl, fun h => absurd h HN.out, HB7.out⟩
                have q : (x.val.a.port == y.val.a.port) = true := beq_iff_eq.2 q4
                have q9 : (x.val.a.port != y.val.a.port) = false := by rw [bne, q]; rfl
                clear q4
                by_cases q5 : x.made = y.made
                rotate_left
                · have q51 : ((x.made : Int) == (y.made : Int)) = false := beq_eq_false_iff_ne.2 (by omega)
                  have q59 : ((x.made : Int) != (y.made : Int)) = true := by rw [bne, q51]; rfl
                  have q5i : ¬ (x.made : Int) = (y.made : Int) := by omega
                  have HN : Hid (¬ (l.map (rwMap (fun v : SvW => v.a)) = l2.map (rwMap (fun v : SvW => v.a)))) := Lib.hid (fun e => by have h9 := congrArg (fun r : Rw SvA => r.made) (heq e); exact q5 h9)
                  clear heq
                  go_wp2
                  go_ret
                  exact ⟨false, rfl, fun h => absurd h HN.out, HB7.out⟩
                have q51 : ((x.made : Int) == (y.made : Int)) = true := beq_iff_eq.2 (by omega)
                have q59 : ((x.made : Int) != (y.made : Int)) = false := by rw [bne, q51]; rfl
                by_cases q6 : x.ix = y.ix
                rotate_left
                · have q61 : ((x.ix : Int) == (y.ix : Int)) = false := beq_eq_false_iff_ne.2 (by omega)
                  have q69 : ((x.ix : Int) != (y.ix : Int)) = true := by rw [bne, q61]; rfl
                  have q6i : ¬ (x.ix : Int) = (y.ix : Int) := by omega
                  have HN : Hid (¬ (l.map (rwMap (fun v : SvW => v.a)) = l2.map (rwMap (fun v : SvW => v.a)))) := Lib.hid (fun e => by have h9 := congrArg (fun r : Rw SvA => r.ix) (heq e); exact q6 h9)
                  clear heq
                  go_wp2
                  go_ret
                  exact ⟨false, rfl, fun h => absurd h HN.out, HB7.out⟩
                have q61 : ((x.ix : Int) == (y.ix : Int)) = true := beq_iff_eq.2 (by omega)
                have q69 : ((x.ix : Int) != (y.ix : Int)) = false := by rw [bne, q61]; rfl
                clear heq
                go_wp2
                go_roundw
                case rel => exact ⟨k + 1, by omega, by go_num, HB7⟩
                case measure => simp [intOf]; omega
      · go_wp2
        go_ret
        exact ⟨true, rfl, fun _ => rfl, hb.out⟩
  · have HN : Hid (l.map (rwMap (fun v : SvW => v.a)) ≠ l2.map (rwMap (fun v : SvW => v.a))) := Lib.hid fun e => hne (by have := congrArg List.length e; simp only [List.length_map] at this; rw [← HL.out, ← HL2.out, this])
    have zz : ((n : Int) != (n2 : Int)) = true := by rw [bne_iff_ne]; omega
    go_enter Tryz.func25, Tryz.ntmps25
    go_wp2
    go_ret
    exact ⟨false, rfl, fun h => absurd h HN.out, Below.refl _ _⟩
end Go.Proofs.YtilkbfmaofmjoaaGreatDoor
namespace Go.Proofs.YtilkbfmaofmjoaaGreatDoor
open Go.RowKit
set_option linter.unusedSimpArgs false
set_option linter.unusedVariables false
theorem rdnew_any (m : Int) (w : World) (base : Nat) (hm : -9223372036854775808 ≤ m ∧ m ≤ 9223372036854775807) (hbase : base ≤ w.heap.size) : Calls Tryz.prog 10 #[.int .i64 m] w fun e w' => e = .returned (.pointer (some ⟨w.heap.size, 0, none⟩)) ∧ RdAt base (· = w.heap.size) w' w.heap.size (mostT m) (Ro.new (mostT m)) ∧ Below w.heap.size w w' := by
  have fin : ∀ (k : Int), k = (mostT m : Int) → ∀ (e : Ending), e = .returned (.pointer (some ⟨w.heap.size, 0, none⟩)) → e = .returned (.pointer (some ⟨w.heap.size, 0, none⟩)) ∧ RdAt base (· = w.heap.size) (w.alloc (.cells #[.int .i64 k, .slice none 0 0, .slice none 0 0, .slice none 0 0, .int .u64 0, .int .u64 0, .int .u64 0] TRd)) w.heap.size (mostT m) (Ro.new (mostT m)) ∧ Below w.heap.size w (w.alloc (.cells #[.int .i64 k, .slice none 0 0, .slice none 0 0, .slice none 0 0, .int .u64 0, .int .u64 0, .int .u64 0] TRd)) := fun k hk e he => by
    subst hk
    exact ⟨he, ⟨RoOk.new m, none, none, none, 0, 0, 0, [], rfl, fun k e => by rw [e]; exact hbase, by simp; omega, heap_alloc_new w _, RwD.nil, RwD.nil, RwD.nil, rfl, by simp⟩, below1 _ _ _⟩
  have hm1 := hm.1
  have hm2 := hm.2
  have FIN := Lib.hid fin
  clear fin hm
  by_cases h1 : m < 1
  · have hM : Hid ((1 : Int) = (mostT m : Int)) := Lib.hid (by unfold mostT; rw [if_pos h1]; rfl)
    go_enter Tryz.func10, Tryz.ntmps10
    go_wp2
    go_ret
    exact FIN.out 1 hM.out _ rfl
  · by_cases h2 : 64 < m
    · have hM : Hid ((64 : Int) = (mostT m : Int)) := Lib.hid (by unfold mostT; rw [if_neg h1, if_pos h2]; rfl)
      go_enter Tryz.func10, Tryz.ntmps10
      go_wp2
      go_ret
      exact FIN.out 64 hM.out _ rfl
    · have hM : Hid (m = (mostT m : Int)) := Lib.hid (by unfold mostT; rw [if_neg h1, if_neg h2]; omega)
      have h3 : 1 ≤ m := by omega
      have h4 : m ≤ 64 := by omega
      go_enter Tryz.func10, Tryz.ntmps10
      go_wp2
      go_ret
      exact FIN.out m hM.out _ rfl
section
variable {base : Nat} {S : Nat → Prop} {w : World} {B : Nat} {A1 A2 A3 : Option Addr} {c1 c2 c3 m : Nat} {l2 : List (Rw SvW)} {d : Ro}
theorem rdraise1_any (i : Nat) (h : RdIs base S w B A1 A2 A3 c1 c2 c3 m l2 d) : Calls Tryz.prog 80 #[.pointer (some ⟨B, 0, none⟩), .int .i64 0, .int .u64 (i : Int)] w fun e w' => e = .returned (.tuple #[]) ∧ RdIs base S w' B A1 A2 A3 c1 c2 c3 m l2 { d with n := d.n.raise i } ∧ But (· = B) w w' := by
  have hc := h.cells
  have z := h.froz 4
  have HH := Lib.hid (fun n (e : d.n.raise i = { d.n with last := n }) => (⟨by rw [e]; exact h.last1 n, But.set (S := (· = B)) w (p := ⟨B, 4, none⟩) rfl _⟩ : RdIs base S (w.setCell ⟨B, 4, none⟩ (.int .u64 (n : Int))) B A1 A2 A3 c1 c2 c3 m l2 { d with n := d.n.raise i } ∧ But (· = B) w (w.setCell ⟨B, 4, none⟩ (.int .u64 (n : Int)))))
  have HS := Lib.hid (fun (e : d.n.raise i = d.n) => (by rw [e]; exact h : RdIs base S w B A1 A2 A3 c1 c2 c3 m l2 { d with n := d.n.raise i }))
  have hl := h.lt
  clear h
  by_cases h1 : d.n.last < i
  · have q : (d.n.last : Int) < (i : Int) := by omega
    have e := Lib.hid (raise_max h1)
    go_enter Tryz.func80, Tryz.ntmps80
    go_wp2
    exact bodyPost_end (results_none rfl _ _ _) rfl ⟨rfl, HH.out i e.out⟩
  · have q : ¬ (d.n.last : Int) < (i : Int) := by omega
    have e := Lib.hid (raise_same h1)
    go_enter Tryz.func80, Tryz.ntmps80
    go_wp2
    exact bodyPost_end (results_none rfl _ _ _) rfl ⟨rfl, HS.out e.out, But.refl _ _⟩
theorem rdraise2_any (i : Nat) (h : RdIs base S w B A1 A2 A3 c1 c2 c3 m l2 d) : Calls Tryz.prog 80 #[.pointer (some ⟨B, 0, none⟩), .int .i64 1, .int .u64 (i : Int)] w fun e w' => e = .returned (.tuple #[]) ∧ RdIs base S w' B A1 A2 A3 c1 c2 c3 m l2 { d with s := d.s.raise i } ∧ But (· = B) w w' := by
  have hc := h.cells
  have z := h.froz 5
  have HH := Lib.hid (fun n (e : d.s.raise i = { d.s with last := n }) => (⟨by rw [e]; exact h.last2 n, But.set (S := (· = B)) w (p := ⟨B, 5, none⟩) rfl _⟩ : RdIs base S (w.setCell ⟨B, 5, none⟩ (.int .u64 (n : Int))) B A1 A2 A3 c1 c2 c3 m l2 { d with s := d.s.raise i } ∧ But (· = B) w (w.setCell ⟨B, 5, none⟩ (.int .u64 (n : Int)))))
  have HS := Lib.hid (fun (e : d.s.raise i = d.s) => (by rw [e]; exact h : RdIs base S w B A1 A2 A3 c1 c2 c3 m l2 { d with s := d.s.raise i }))
  have hl := h.lt
  clear h
  by_cases h1 : d.s.last < i
  · have q : (d.s.last : Int) < (i : Int) := by omega
    have e := Lib.hid (raise_max h1)
    go_enter Tryz.func80, Tryz.ntmps80
    go_wp2
    exact bodyPost_end (results_none rfl _ _ _) rfl ⟨rfl, HH.out i e.out⟩
  · have q : ¬ (d.s.last : Int) < (i : Int) := by omega
    have e := Lib.hid (raise_same h1)
    go_enter Tryz.func80, Tryz.ntmps80
    go_wp2
    exact bodyPost_end (results_none rfl _ _ _) rfl ⟨rfl, HS.out e.out, But.refl _ _⟩
theorem rdraise3_any (i : Nat) (h : RdIs base S w B A1 A2 A3 c1 c2 c3 m l2 d) : Calls Tryz.prog 80 #[.pointer (some ⟨B, 0, none⟩), .int .i64 2, .int .u64 (i : Int)] w fun e w' => e = .returned (.tuple #[]) ∧ RdIs base S w' B A1 A2 A3 c1 c2 c3 m l2 { d with c := d.c.raise i } ∧ But (· = B) w w' := by
  have hc := h.cells
  have z := h.froz 6
  have HH := Lib.hid (fun n (e : d.c.raise i = { d.c with last := n }) => (⟨by rw [e]; exact h.last3 n, But.set (S := (· = B)) w (p := ⟨B, 6, none⟩) rfl _⟩ : RdIs base S (w.setCell ⟨B, 6, none⟩ (.int .u64 (n : Int))) B A1 A2 A3 c1 c2 c3 m l2 { d with c := d.c.raise i } ∧ But (· = B) w (w.setCell ⟨B, 6, none⟩ (.int .u64 (n : Int)))))
  have HS := Lib.hid (fun (e : d.c.raise i = d.c) => (by rw [e]; exact h : RdIs base S w B A1 A2 A3 c1 c2 c3 m l2 { d with c := d.c.raise i }))
  have hl := h.lt
  clear h
  by_cases h1 : d.c.last < i
  · have q : (d.c.last : Int) < (i : Int) := by omega
    have e := Lib.hid (raise_max h1)
    go_enter Tryz.func80, Tryz.ntmps80
    go_wp2
    exact bodyPost_end (results_none rfl _ _ _) rfl ⟨rfl, HH.out i e.out⟩
  · have q : ¬ (d.c.last : Int) < (i : Int) := by omega
    have e := Lib.hid (raise_same h1)
    go_enter Tryz.func80, Tryz.ntmps80
    go_wp2
    exact bodyPost_end (results_none rfl _ _ _) rfl ⟨rfl, HS.out e.out, But.refl _ _⟩
theorem RoOk.there_iff (h : RoOk m d) (node : Int) : d.there node = d.n.l.any fun r => decide (r.val.node = node) := by
  unfold Ro.there
  rw [Bool.eq_iff_iff, getR_iff, List.any_eq_true]
  constructor
  · rintro ⟨r, hr, e⟩
    obtain ⟨a, b⟩ := h.nr r hr
    exact ⟨r, hr, decide_eq_true (keyO_inj b.node (a.symm.trans e)).1⟩
  · rintro ⟨r, hr, e⟩
    obtain ⟨a, b⟩ := h.nr r hr
    refine ⟨r, hr, ?_⟩
    rw [a]
    unfold NdA.key
    rw [of_decide_eq_true e]
theorem RoOk.has_iff (h : RoOk m d) (node : Int) (id : ByteArray) : d.has node id = d.s.l.any fun r => decide (r.val.node = node) && (r.val.id.toList == id.toList) := by
  unfold Ro.has
  rw [Bool.eq_iff_iff, getR_iff, List.any_eq_true]
  constructor
  · rintro ⟨r, hr, e⟩
    obtain ⟨a, b, _⟩ := h.sr r hr
    obtain ⟨h1, h2⟩ := keyO_inj b.node (a.symm.trans e)
    exact ⟨r, hr, by rw [decide_eq_true h1, text_same.2 h2]; rfl⟩
  · rintro ⟨r, hr, e⟩
    obtain ⟨a, b, _⟩ := h.sr r hr
    rw [Bool.and_eq_true, decide_eq_true_eq, text_same] at e
    refine ⟨r, hr, ?_⟩
    rw [a]
    unfold SvA.key
    rw [e.1, e.2]
set_option maxHeartbeats 2000000 in
theorem rdthere_any (node : Int) (hok : RoOk m d) (h : RdIs base S w B A1 A2 A3 c1 c2 c3 m l2 d) : Calls Tryz.prog 79 #[.pointer (some ⟨B, 0, none⟩), .int .i64 node] w fun e w' => e = .returned (.bool (d.there node)) ∧ w = w' := by
  have hc := h.cells.2.1
  have HT := Lib.hid (hok.there_iff node)
  have HR := Lib.hid h.r1.row
  have h64 : d.n.l.length ≤ 64 := Nat.le_trans hok.nok.len hok.nok.most.2
  obtain ⟨L, hL⟩ : ∃ L, d.n.l.length = L := ⟨_, rfl⟩
  rw [hL] at hc HR h64
  have HL := Lib.hid hL
  clear h hok hL
  go_enter Tryz.func79, Tryz.ntmps79
  go_wp2
  go_loop [5] (fun i => ∃ k : Nat, k ≤ L ∧ i = .int .i64 (k : Int) ∧ Hid (∀ r ∈ d.n.l.take k, r.val.node ≠ node)) (fun i => L - (intOf i).toNat)
  case atStart => exact ⟨0, Nat.zero_le _, rfl, Lib.hid (by simp)⟩
  case round =>
    obtain ⟨k, hk, rfl, hn⟩ := hrel
    by_cases hlt : k < L
    · have hkl : k < d.n.l.length := by rw [HL.out]; exact hlt
      obtain ⟨b, off, rfl, hbl, hit⟩ := HR.out.at_ hlt hkl
      have hmem := List.getElem_mem hkl
      have hst : d.n.l.take (k + 1) = d.n.l.take k ++ [d.n.l[k]] := List.take_succ_eq_append_getElem hkl
      obtain ⟨x, hx⟩ : ∃ x, d.n.l[k] = x := ⟨_, rfl⟩
      rw [hx] at hit hmem hst
      have cc := nd_cells hit
      by_cases he : x.val.node = node
      · have HB : Hid (d.there node = true) := Lib.hid (by rw [HT.out, List.any_eq_true]; exact ⟨x, hmem, decide_eq_true he⟩)
        have q : (x.val.node == node) = true := beq_iff_eq.2 he
        clear hit hst hmem hx
        go_wp2
        go_ret
        rw [HB.out]
        exact ⟨rfl, rfl⟩
      · have HN : Hid (∀ r ∈ d.n.l.take (k + 1), r.val.node ≠ node) := Lib.hid (by
          rw [hst]
          intro r hr
          rcases List.mem_append.1 hr with hr | hr
          · exact hn.out r hr
          · rw [List.mem_singleton.1 hr]; exact he)
        have q : (x.val.node == node) = false := beq_eq_false_iff_ne.2 he
        clear hit hst hmem hx
        go_wp2
        go_round
        case rel => exact ⟨k + 1, by omega, by go_num, HN⟩
        case measure => simp [intOf]; omega
    · have HB : Hid (d.there node = false) := Lib.hid (by
        rw [HT.out, List.any_eq_false]
        intro r hr
        rw [List.take_of_length_le (by rw [HL.out]; omega)] at hn
        simpa using hn.out r hr)
      go_wp2
      go_ret
      rw [HB.out]
      exact ⟨rfl, rfl⟩
set_option maxHeartbeats 2000000 in
theorem rdhas_any (node : Int) (nid : ByteArray) (hok : RoOk m d) (h : RdIs base S w B A1 A2 A3 c1 c2 c3 m l2 d) : Calls Tryz.prog 84 #[.pointer (some ⟨B, 0, none⟩), .int .i64 node, .string nid] w fun e w' => e = .returned (.bool (d.has node nid)) ∧ w = w' := by
  have hc := h.cells.2.2.1
  have HT := Lib.hid (hok.has_iff node nid)
  have HR := Lib.hid h.r2.row
  have HQ := Lib.hid h.eq
  have h64 : l2.length ≤ 64 := by rw [h.len2]; exact Nat.le_trans hok.sok.len hok.sok.most.2
  obtain ⟨L, hL⟩ : ∃ L, l2.length = L := ⟨_, rfl⟩
  rw [hL] at hc HR h64
  have HL := Lib.hid hL
  clear h hok hL
  go_enter Tryz.func84, Tryz.ntmps84
  go_wp2
  go_loop [7] (fun i => ∃ k : Nat, k ≤ L ∧ i = .int .i64 (k : Int) ∧ Hid (∀ r ∈ l2.take k, ¬ (r.val.a.node = node ∧ r.val.a.id = nid))) (fun i => L - (intOf i).toNat)
  case atStart => exact ⟨0, Nat.zero_le _, rfl, Lib.hid (by simp)⟩
  case round =>
    obtain ⟨k, hk, rfl, hn⟩ := hrel
    by_cases hlt : k < L
    · have hkl : k < l2.length := by rw [HL.out]; exact hlt
      obtain ⟨b, off, rfl, hbl, hit⟩ := HR.out.at_ hlt hkl
      have hmem := List.getElem_mem hkl
      have hst : l2.take (k + 1) = l2.take k ++ [l2[k]] := List.take_succ_eq_append_getElem hkl
      obtain ⟨x, hx⟩ : ∃ x, l2[k] = x := ⟨_, rfl⟩
      rw [hx] at hit hmem hst
      have cc := sv_cells hit
      by_cases he : x.val.a.node = node ∧ x.val.a.id = nid
      · have HB : Hid (d.has node nid = true) := Lib.hid (by
          rw [HT.out, ← HQ.out, List.any_eq_true]
          exact ⟨_, List.mem_map_of_mem hmem, by show (decide (x.val.a.node = node) && (x.val.a.id.toList == nid.toList)) = true; rw [decide_eq_true he.1, text_same.2 he.2]; rfl⟩)
        have q : (x.val.a.node == node) = true := beq_iff_eq.2 he.1
        have q2 : (x.val.a.id.toList == nid.toList) = true := text_same.2 he.2
        clear hit hst hmem hx he
        go_wp2
        go_ret
        rw [HB.out]
        exact ⟨rfl, rfl⟩
      · have HN : Hid (∀ r ∈ l2.take (k + 1), ¬ (r.val.a.node = node ∧ r.val.a.id = nid)) := Lib.hid (by
          rw [hst]
          intro r hr
          rcases List.mem_append.1 hr with hr | hr
          · exact hn.out r hr
          · rw [List.mem_singleton.1 hr]; exact he)
        by_cases he1 : x.val.a.node = node
        · have q : (x.val.a.node == node) = true := beq_iff_eq.2 he1
          have q2 : (x.val.a.id.toList == nid.toList) = false := text_other.2 fun e => he ⟨he1, e⟩
          clear hit hst hmem hx he he1
          go_wp2
          go_round
          case rel => exact ⟨k + 1, by omega, by go_num, HN⟩
          case measure => simp [intOf]; omega
        · have q : (x.val.a.node == node) = false := beq_eq_false_iff_ne.2 he1
          clear hit hst hmem hx he he1
          go_wp2
          go_round
          case rel => exact ⟨k + 1, by omega, by go_num, HN⟩
          case measure => simp [intOf]; omega
    · have HB : Hid (d.has node nid = false) := Lib.hid (by
        rw [HT.out, ← HQ.out, List.any_eq_false]
        intro r hr
        rw [List.take_of_length_le (by rw [HL.out]; omega)] at hn
        obtain ⟨y, hy, rfl⟩ := List.mem_map.1 hr
        have := hn.out y hy
        show ¬ (decide (y.val.a.node = node) && (y.val.a.id.toList == nid.toList)) = true
        rw [Bool.and_eq_true, decide_eq_true_eq, text_same]
        exact this)
      go_wp2
      go_ret
      rw [HB.out]
      exact ⟨rfl, rfl⟩
end
end Go.Proofs.YtilkbfmaofmjoaaGreatDoor
namespace Go.Proofs.YtilkbfmaofmjoaaGreatDoor
open Go.RowKit
set_option linter.unusedSimpArgs false
set_option linter.unusedVariables false
section
variable {base : Nat} {S : Nat → Prop} {w : World} {B : Nat} {A1 A2 A3 : Option Addr} {c1 c2 c3 m : Nat} {l2 : List (Rw SvW)} {d : Ro}
end
end Go.Proofs.YtilkbfmaofmjoaaGreatDoor
namespace Go.Proofs.YtilkbfmaofmjoaaGreatDoor
open Go.RowKit
set_option linter.unusedSimpArgs false
set_option linter.unusedVariables false
def idC (node : Int) (nid : ByteArray) (v : CkA) : Bool := decide (v.node = node) && (v.id.toList == nid.toList)
theorem RoOk.id_iff {m : Nat} {d : Ro} (h : RoOk m d) (node : Int) (nid : ByteArray) : (getR d.c.l (keyO node nid)).isSome = d.c.l.any fun r => idC node nid r.val := by
  rw [Bool.eq_iff_iff, getR_iff, List.any_eq_true]
  constructor
  · rintro ⟨r, hr, e⟩
    obtain ⟨a, b, _⟩ := h.cr r hr
    obtain ⟨h1, h2⟩ := keyO_inj b.node (a.symm.trans e)
    exact ⟨r, hr, by unfold idC; rw [decide_eq_true h1, text_same.2 h2]; rfl⟩
  · rintro ⟨r, hr, e⟩
    obtain ⟨a, b, _⟩ := h.cr r hr
    unfold idC at e
    rw [Bool.and_eq_true, decide_eq_true_eq, text_same] at e
    refine ⟨r, hr, ?_⟩
    rw [a]
    unfold CkA.key
    rw [e.1, e.2]
section
variable {base : Nat} {S : Nat → Prop} {w : World} {B m : Nat} {d : Ro}
end
end Go.Proofs.YtilkbfmaofmjoaaGreatDoor
namespace Go.Proofs.YtilkbfmaofmjoaaGreatDoor
open Go.RowKit
set_option linter.unusedSimpArgs false
set_option linter.unusedVariables false
section
variable {α : Type} {t : Tb α} {k : ByteArray} {v : α} {i : Nat}
theorem getR_none (h : ∀ y ∈ t.l, y.key ≠ k) : getR t.l k = none := by
  cases e : getR t.l k with
  | none => rfl
  | some r => exact absurd (getR_mem e).2 (h r (getR_mem e).1)
theorem made_same (hs : SR t.l) {x : Rw α} (hx : x ∈ t.l) (hk : x.key = k) : ((getR t.l k).map (·.made)).getD i = x.made := by
  cases e : getR t.l k with
  | none =>
    have := getR_iff.2 ⟨x, hx, hk⟩
    rw [e] at this
    cases this
  | some r =>
    have h1 := getR_mem e
    rw [hs.uniq h1.1 hx (h1.2.trans hk.symm)]
    rfl
theorem made_none (h : ∀ y ∈ t.l, y.key ≠ k) : ((getR t.l k).map (·.made)).getD i = i := by
  rw [getR_none h]
  rfl
theorem made_gap (hs : SR t.l) {j : Nat} (hj : j < t.l.length) (hg : ltT k t.l[j].key = true) (hn : ∀ y ∈ t.l.take j, y.key ≠ k) : ((getR t.l k).map (·.made)).getD i = i := by
  refine made_none fun y hy => ?_
  obtain ⟨p, hp, rfl⟩ := List.getElem_of_mem hy
  rcases Nat.lt_trichotomy p j with h | rfl | h
  · exact hn _ (by rw [List.mem_iff_getElem]; exact ⟨p, by rw [List.length_take]; omega, by rw [List.getElem_take]⟩)
  · intro e
    rw [e, ltT_irr] at hg
    cases hg
  · intro e
    have := ltT_trans hg (hs.get hp h)
    rw [e, ltT_irr] at this
    cases this
end
section
variable {m : Nat} {d : Ro} {node : Int} {id : ByteArray}
theorem RoOk.nd_same (h : RoOk m d) {x : Rw NdA} (hx : x ∈ d.n.l) : (x.key.toList == (keyO node noT).toList) = decide (x.val.node = node) := by
  obtain ⟨a, b⟩ := h.nr x hx
  rw [a]
  unfold NdA.key
  rw [keyO_same b.node, text_same.2 rfl, Bool.and_true]
theorem RoOk.nd_lt (h : RoOk m d) (hn : nodeB node = true) {x : Rw NdA} (hx : x ∈ d.n.l) : ltT (keyO node noT) x.key = decide (node < x.val.node) := by
  obtain ⟨a, b⟩ := h.nr x hx
  rw [a]
  unfold NdA.key
  rw [Bool.eq_iff_iff, keyO_lt hn b.node, decide_eq_true_eq, ltT_irr]
  simp
theorem lt_iff {n : Int} {y : ByteArray} {n2 : Int} {y2 : ByteArray} (h1 : nodeB n = true) (h2 : nodeB n2 = true) : ltT (keyO n y) (keyO n2 y2) = (decide (n < n2) || (decide (n = n2) && ltT y y2)) := by
  rw [Bool.eq_iff_iff, keyO_lt h1 h2, Bool.or_eq_true, Bool.and_eq_true, decide_eq_true_eq, decide_eq_true_eq]
theorem RoOk.sv_same (h : RoOk m d) {x : Rw SvA} (hx : x ∈ d.s.l) : (x.key.toList == (keyO node id).toList) = (decide (x.val.node = node) && (x.val.id.toList == id.toList)) := by
  obtain ⟨a, b, _⟩ := h.sr x hx
  rw [a]
  unfold SvA.key
  rw [keyO_same b.node]
theorem RoOk.sv_lt (h : RoOk m d) (hn : nodeB node = true) {x : Rw SvA} (hx : x ∈ d.s.l) : ltT (keyO node id) x.key = (decide (node < x.val.node) || (decide (node = x.val.node) && ltT id x.val.id)) := by
  obtain ⟨a, b, _⟩ := h.sr x hx
  rw [a]
  unfold SvA.key
  rw [lt_iff hn b.node]
theorem RoOk.ck_same (h : RoOk m d) {x : Rw CkA} (hx : x ∈ d.c.l) : (x.key.toList == (keyO node id).toList) = (decide (x.val.node = node) && (x.val.id.toList == id.toList)) := by
  obtain ⟨a, b, _⟩ := h.cr x hx
  rw [a]
  unfold CkA.key
  rw [keyO_same b.node]
theorem RoOk.ck_lt (h : RoOk m d) (hn : nodeB node = true) {x : Rw CkA} (hx : x ∈ d.c.l) : ltT (keyO node id) x.key = (decide (node < x.val.node) || (decide (node = x.val.node) && ltT id x.val.id)) := by
  obtain ⟨a, b, _⟩ := h.cr x hx
  rw [a]
  unfold CkA.key
  rw [lt_iff hn b.node]
end
end Go.Proofs.YtilkbfmaofmjoaaGreatDoor
namespace Go.Proofs.YtilkbfmaofmjoaaGreatDoor
open Go.RowKit Go.Rel
set_option linter.unusedSimpArgs false
set_option linter.unusedVariables false
def rdnA (B : Nat) (node : Int) (m : Nat) (A1 : Option Addr) (L : Nat) (c1 : Nat) : Nat → Value
  | 0 => .pointer (some ⟨B, 0, none⟩)
  | 1 => .int .i64 node
  | 2 => .bool true
  | 3 | 4 | 15 => .bool false
  | _ => undef
def rdnB (B : Nat) (node : Int) (m : Nat) (A1 : Option Addr) (L : Nat) (c1 : Nat) : Nat → Value
  | 0 | 5 | 6 | 10 | 11 | 12 => .pointer (some ⟨B, 0, none⟩)
  | 1 => .int .i64 node
  | 2 | 14 | 15 => .bool false
  | 3 | 4 => .bool true
  | 7 => .pointer (some ⟨B, 1, none⟩)
  | 8 => .slice A1 L c1
  | 9 => .int .i64 (L : Int)
  | 13 => .int .i64 (m : Int)
  | _ => undef
def rdnC (B : Nat) (node : Int) (m : Nat) (A1 : Option Addr) (L : Nat) (c1 : Nat) : Nat → Value
  | 0 | 5 | 6 | 10 | 11 | 12 => .pointer (some ⟨B, 0, none⟩)
  | 1 => .int .i64 node
  | 2 => .bool false
  | 3 | 4 | 14 | 15 => .bool true
  | 7 => .pointer (some ⟨B, 1, none⟩)
  | 8 => .slice A1 L c1
  | 9 => .int .i64 (L : Int)
  | 13 => .int .i64 (m : Int)
  | _ => undef
section
variable {base : Nat} {S : Nat → Prop} {w : World} {B m : Nat} {d : Ro}
set_option maxHeartbeats 8000000 in
set_option maxRecDepth 100000 in
theorem rdnode_any (node : Int) (addr : ByteArray) (i : Nat) (h : RdAt base S w B m d) (ha : addr.size ≤ maxLen) (hi : i < 18446744073709551616) : Calls Tryz.prog 36 #[.pointer (some ⟨B, 0, none⟩), .int .i64 node, .string addr, .int .u64 (i : Int)] w fun e w' => e = .returned (.int .i64 ((d.node ⟨node, addr⟩ i).1 : Int)) ∧ RdAt base (fun k => S k ∨ w.heap.size ≤ k) w' B m (d.node ⟨node, addr⟩ i).2 ∧ But (· = B) w w' := by
  have KEEP : Hid (∀ w', Below w.heap.size w w' → RdAt base (fun k => S k ∨ w.heap.size ≤ k) w' B m d ∧ But (· = B) w w') := Lib.hid fun w' hb => ⟨(h.below hb).narrow (fun _ _ z => .inl z) (fun k z => z.elim (h.lo k) (Nat.le_trans (by obtain ⟨_, _, _, _, _, _, _, _, h1⟩ := h; exact h1.top))), But.of_below hb⟩
  by_cases n0 : node < 0
  · have hd : d.node ⟨node, addr⟩ i = (2, d) := by
      have : nodeB node = false := by rw [← Bool.not_eq_true, nodeB_iff]; omega
      unfold Ro.node wrongN
      simp [this]
    rw [hd]
    clear hd h
    go_enter Tryz.func36, Tryz.ntmps36
    go_wp2
    go_ret
    exact ⟨rfl, KEEP.out _ (Below.refl _ _)⟩
  by_cases n7 : 7 < node
  · have hd : d.node ⟨node, addr⟩ i = (2, d) := by
      have : nodeB node = false := by rw [← Bool.not_eq_true, nodeB_iff]; omega
      unfold Ro.node wrongN
      simp [this]
    rw [hd]
    clear hd h
    go_enter Tryz.func36, Tryz.ntmps36
    go_wp2
    go_ret
    exact ⟨rfl, KEEP.out _ (Below.refl _ _)⟩
  have hnb : nodeB node = true := nodeB_iff.2 ⟨by omega, by omega⟩
  have hm9 : addr.size ≤ 9223372036854775807 := by unfold maxLen at ha; omega
  by_cases a32 : 32 < addr.size
  · have hd : d.node ⟨node, addr⟩ i = (3, d) := by
      have : wrongN ⟨node, addr⟩ = 3 := by unfold wrongN; rw [if_neg (by rw [hnb]; simp), if_pos a32]
      unfold Ro.node
      rw [this]
      rfl
    rw [hd]
    have q : (32 : Int) < (addr.size : Int) := by omega
    clear hd h hnb
    go_enter Tryz.func36, Tryz.ntmps36
    go_wp2
    go_ret
    exact ⟨rfl, KEEP.out _ (Below.refl _ _)⟩
  have q32 : ¬ (32 : Int) < (addr.size : Int) := by omega
  have hw0 : wrongN ⟨node, addr⟩ = 0 := wrongN_ok.2 ⟨hnb, by show addr.size ≤ 32; omega⟩
  obtain ⟨hok, A1, A2, A3, c1, c2, c3, l2, h⟩ := h
  obtain ⟨kk, hkk⟩ : ∃ kk, keyO node noT = kk := ⟨_, rfl⟩
  obtain ⟨rm, hrm⟩ : ∃ rm, ((getR d.n.l kk).map (·.made)).getD i = rm := ⟨_, rfl⟩
  have hok2 := hok.node (x := ⟨node, addr⟩) hi
  have hdB : d.n.fullB kk = false → d.node ⟨node, addr⟩ i = (0, { d with n := ({ d.n with l := layR (⟨kk, ⟨node, addr⟩, rm, i⟩ : Rw NdA) false d.n.l } : Tb NdA).raise i }) := fun hfb => by
    unfold Ro.node NdA.key
    rw [hw0, if_neg (by simp)]
    simp only [hkk]
    unfold layE Tb.putT
    rw [hfb]
    unfold Tb.put Tb.row
    rw [hrm]
    rfl
  have hdF : d.n.fullB kk = true → d.node ⟨node, addr⟩ i = (5, d) := fun hfb => by
    unfold Ro.node NdA.key
    rw [hw0, if_neg (by simp)]
    simp only [hkk]
    unfold layE Tb.putT
    rw [hfb]
    rfl
  have h64 := Nat.le_trans hok.nok.len hok.nok.most.2
  have hm1 := hok.most.2
  have HSame := Lib.hid (fun x (hx : x ∈ d.n.l) => hkk ▸ (hok.nd_same (node := node) hx))
  have HLt2 := Lib.hid (fun x (hx : x ∈ d.n.l) => hkk ▸ (hok.nd_lt hnb hx))
  have HRise := Lib.hid hok.nok.rise
  have HRm := Lib.hid hrm
  have HI2 := Lib.hid hi
  have HT := Lib.hid (fun W (hW : Below w.heap.size w W) => rdthere_any node hok (h.below hW))
  have HIs := Lib.hid (fun W (hW : Below w.heap.size w W) => h.below hW)
  obtain ⟨Y, hY⟩ : ∃ Y, w.heap.size = Y := ⟨_, rfl⟩
  have HY := Lib.hid hY
  have hBY : B < Y := by rw [← hY]; exact h.lt
  have HTop : Hid (base ≤ Y) := Lib.hid (by rw [← hY]; exact h.top)
  obtain ⟨S0, hS0⟩ : ∃ S0 : Nat → Prop, S0 = fun k => S k ∧ k < Y := ⟨_, rfl⟩
  have HH : Hid (RdIs base S0 w B A1 A2 A3 c1 c2 c3 m l2 d) := Lib.hid (h.narrow (fun k hk z => by rw [hS0]; exact ⟨z, by omega⟩) (fun k z => h.lo k (by rw [hS0] at z; exact z.1)))
  have HLt : Hid (∀ k, S0 k → k < Y) := Lib.hid (fun k z => by rw [hS0] at z; exact z.2)
  have HSs : Hid (∀ k, S0 k → S k) := Lib.hid (fun k z => by rw [hS0] at z; exact z.1)
  have HLo : Hid (∀ k, S k → base ≤ k) := Lib.hid h.lo
  obtain ⟨L, hL⟩ : ∃ L, d.n.l.length = L := ⟨_, rfl⟩
  rw [hL] at h64
  have HL := Lib.hid hL
  have HDB := Lib.hid hdB
  have HDF := Lib.hid hdF
  have hth : d.there node = (getR d.n.l kk).isSome := by unfold Ro.there; rw [hkk]
  have HOk2 := Lib.hid hok2
  have hnm := hok.nm
  clear h hdB hdF hok2 hw0 hrm hi hkk hS0 ha
  rcases (show (d.there node = true ∧ d.n.fullB kk = false) ∨ (d.there node = false ∧ L < m ∧ d.n.fullB kk = false) ∨ (d.there node = false ∧ m ≤ L ∧ d.n.fullB kk = true) by
    unfold Tb.fullB
    rw [hL, hnm]
    cases e : d.there node with
    | true =>
      rw [hth] at e
      left
      refine ⟨rfl, ?_⟩
      cases e2 : getR d.n.l kk with
      | none => rw [e2] at e; cases e
      | some r => rfl
    | false =>
      rw [hth] at e
      right
      have e2 : (getR d.n.l kk).isNone = true := by
        cases e2 : getR d.n.l kk with
        | none => rfl
        | some r => rw [e2] at e; cases e
      rw [e2, Bool.true_and]
      by_cases q : m ≤ L
      · exact .inr ⟨rfl, q, decide_eq_true q⟩
      · exact .inl ⟨rfl, by omega, decide_eq_false q⟩) with ⟨hb, hf⟩ | ⟨hb, hlm, hf⟩ | ⟨hb, hlm, hf⟩
  · have hok3 := HOk2.out
    rw [HDB.out hf] at hok3 ⊢
    have HOk3 := Lib.hid hok3
    clear hok3
    rw [hb] at HT
    clear hb hf hth hL hnm hok
    rename World => W0
    go_enter Tryz.func36, Tryz.ntmps36
    go_wp2_with fail
    have hre : ∀ w : World, ((fun a b : World => Below a.heap.size a b)) w w := (fun w => Below.refl _ w)
    have hrd : ∀ (f : Nat → Bool) w i, i ≠ 2 → (fun (_ : Nat → Bool) (w2 : World) => Below W0.heap.size W0 w2) f w → (fun (_ : Nat → Bool) (w2 : World) => Below W0.heap.size W0 w2) (Go.Rel.upd f i) w := (fun _ _ _ _ h => h)
    refine Go.Rel.wp_tab (by kernel_rfl) (by kernel_rfl) (fun (_ : Nat → Bool) (w2 : World) => Below W0.heap.size W0 w2) ((fun a b : World => Below a.heap.size a b)) hre ((fun _ _ _ h k => h.trans (k.mono h.size))) ((⟨rfl, rfl, rfl, Nat.le_refl _, fun _ _ => rfl⟩)) ⟨rfl, rfl, rfl, Nat.le_refl _, fun _ _ => rfl⟩ (rdnA B node m A1 L c1) (fun _ _ _ => True) (fun i => ([] : List Nat).contains i) (fun i => ([2] : List Nat).contains i) (by kernel_rfl) (fun _ _ _ _ h _ => h) 2 rfl hrd ?_ (Go.Rel.AllOf.get ?_) ?_
    · iterate 2 refine .cons (Go.Rel.pure_yes (by kernel_rfl) (fun _ => by kernel_rfl)) ?_
      iterate 1 refine .cons (Go.Rel.pure_sp rfl) ?_
      iterate 2 refine .cons (Go.Rel.pure_yes (by kernel_rfl) (fun _ => by kernel_rfl)) ?_
      iterate 10 refine .cons (Go.Rel.pure_no (by kernel_rfl) rfl) ?_
      iterate 1 refine .cons (Go.Rel.pure_yes (by kernel_rfl) (fun _ => by kernel_rfl)) ?_
      exact .nil
    · refine ⟨?_, trivial⟩
      · refine SpecOk.call 79 #[.pointer (some ⟨B, 0, none⟩), .int .i64 node] rfl (by kernel_rfl) (fun _ => by kernel_rfl) fun _ w' hI _ _ _ _ => ?_
        refine (HT.out w' hI).mono ?_
        rintro e2 w2 ⟨rfl, rfl⟩
        exact ⟨_, rfl, (Below.refl _ _), hI, rfl⟩
    · intro f W1 e hall hJ hle hv
      have v9 := hv 15 rfl
      simp only [Go.Rel.finL, List.setIfInBounds_toArray, List.set_cons_succ, List.set_cons_zero]
      rw [show e 15 = .bool false from v9]
      have HJ := Lib.hid hJ
      clear hv hall hle hJ v9 HT HIs
      obtain ⟨X, hX⟩ : ∃ X, W1.heap.size = X := ⟨_, rfl⟩
      obtain ⟨W2, hW2⟩ : ∃ W2, W1.alloc (.cells #[.int .i64 node, .string addr, .int .u64 (i : Int), .int .u64 (i : Int)] TNd) = W2 := ⟨_, rfl⟩
      have kx := heap_alloc_new W1 (.cells #[.int .i64 node, .string addr, .int .u64 (i : Int), .int .u64 (i : Int)] TNd)
      have bx := below1 W1 #[.int .i64 node, .string addr, .int .u64 (i : Int), .int .u64 (i : Int)] TNd
      have sx : (W1.alloc (.cells #[.int .i64 node, .string addr, .int .u64 (i : Int), .int .u64 (i : Int)] TNd)).heap.size = W1.heap.size + 1 := by simp
      rw [hW2] at kx bx sx
      rw [hX] at kx sx
      have hYX : Y ≤ X := by have := HJ.out.size; have := HY.out; omega
      have HB2 : Hid (Below Y W0 W2) := Lib.hid (by rw [← HY.out]; exact HJ.out.trans (bx.mono HJ.out.size))
      have HX2 := Lib.hid kx
      have HS2 := Lib.hid sx
      have HW2 := Lib.hid hW2
      have HX := Lib.hid hX
      clear kx bx sx hW2 hX
      go_wp2_with fail
      rw [HW2.out, HX.out]
      go_loopw [10, 11, 12] (fun vv bv iv wr => ∃ (k mk : Nat) (bb : Bool) (ls : List (Rw NdA)), k ≤ L ∧ iv = .int .i64 (k : Int) ∧ bv = .bool bb ∧ Hid (layR (⟨kk, ⟨node, addr⟩, rm, i⟩ : Rw NdA) false d.n.l = ls ++ layR (⟨kk, ⟨node, addr⟩, rm, i⟩ : Rw NdA) bb (d.n.l.drop k)) ∧ Hid (bb = false → mk = i ∧ ∀ y ∈ d.n.l.take k, y.key ≠ kk) ∧ Hid (ls.length ≤ 2 * k) ∧ Hid (wr.heap[X]? = some (.cells #[.int .i64 node, .string addr, .int .u64 (mk : Int), .int .u64 (i : Int)] TNd (0, 0))) ∧ Hid (ndRow wr (X + 1) vv ls) ∧ Hid (Below Y W0 wr) ∧ Hid (X < wr.heap.size)) (fun _ _ iv _ => L - (intOf iv).toNat)
      case atStart => exact ⟨0, i, false, [], Nat.zero_le _, rfl, rfl, Lib.hid rfl, Lib.hid (fun _ => ⟨rfl, fun y hy => by simp at hy⟩), Lib.hid (Nat.le_refl _), HX2, Lib.hid (rowK.nil _ _), HB2, Lib.hid (by rw [HS2.out]; omega)⟩
      case round =>
        obtain ⟨k, mk, bb, ls, hk, rfl, rfl, hinv, hmk, hls, hxb, hrow, hb, hxs⟩ := hrel
        have hxs9 := hxs.out
        have hls9 := hls.out
        by_cases hlt : k < L
        · have hkl : k < d.n.l.length := by rw [HL.out]; exact hlt
          have hd := HH.out.below (by rw [HY.out]; exact hb.out)
          obtain ⟨b, off, rfl, hbl, hit⟩ := hd.r1.row.at_ hkl hkl
          have hdr : d.n.l.drop k = d.n.l[k] :: d.n.l.drop (k + 1) := List.drop_eq_getElem_cons hkl
          have htk : d.n.l.take (k + 1) = d.n.l.take k ++ [d.n.l[k]] := List.take_succ_eq_append_getElem hkl
          have hmem : d.n.l[k] ∈ d.n.l := List.getElem_mem hkl
          have hgap := fun hg hn => made_gap (i := i) (k := kk) HRise.out hkl hg hn
          obtain ⟨x, hx⟩ : ∃ x, d.n.l[k] = x := ⟨_, rfl⟩
          have HF' : Hid (∀ wx, Below Y W0 wx → wx.cell? ⟨B, 1, none⟩ = some (.slice (some ⟨b, off, none⟩) L c1) ∧ ItAt ndC wx b (off + k * 4) x) := Lib.hid fun wx hx9 => by
            have h1 := HH.out.below (w' := wx) (by rw [HY.out]; exact hx9)
            obtain ⟨b', off', e, _, h2⟩ := h1.r1.row.at_ hkl hkl
            cases e
            rw [hx] at h2
            have h3 := h1.cells.2.1
            rw [HL.out] at h3
            exact ⟨h3, h2⟩
          rw [hx] at hdr htk hmem hgap
          have hsm := HSame.out x hmem
          have hlt2 := HLt2.out x hmem
          have hms : x.key = kk → x.made = rm := fun e => by rw [← HRm.out]; exact (made_same HRise.out hmem e).symm
          have HD := Lib.hid hdr
          have HTk := Lib.hid htk
          clear hit hd hdr htk hx hmem
          by_cases q0 : x.val.node = node
          · rw [decide_eq_true q0] at hsm
            have hxm := hms (text_same.1 hsm)
            have q : (x.val.node == node) = true := beq_iff_eq.2 q0
            have HI1 : Hid (layR (⟨kk, ⟨node, addr⟩, rm, i⟩ : Rw NdA) false d.n.l = (ls ++ [(⟨kk, ⟨node, addr⟩, rm, i⟩ : Rw NdA)]) ++ layR (⟨kk, ⟨node, addr⟩, rm, i⟩ : Rw NdA) true (d.n.l.drop (k + 1))) := Lib.hid (by
              rw [hinv.out, HD.out, layR, if_pos hsm, List.append_assoc]
              rfl)
            obtain ⟨y1, hit⟩ := HF'.out wr hb.out
            obtain ⟨e0, e1, e2, e3⟩ := nd_cells hit
            clear hit
            rw [hxm] at e2
            have z0 := cellsN hxb.out 0 _ rfl
            have z1 := cellsN hxb.out 1 _ rfl
            have z2 := cellsN hxb.out 2 _ rfl
            have z3 := cellsN hxb.out 3 _ rfl
            have g2 := blk_froz hxb.out 2
            have kA : (wr.setCell ⟨X, 2, none⟩ (.int .u64 (rm : Int))).heap[X]? = some (.cells #[.int .i64 node, .string addr, .int .u64 (rm : Int), .int .u64 (i : Int)] TNd (0, 0)) := block_set hxb.out 2 _
            obtain ⟨a0, a1, a2, a3⟩ : _ ∧ _ ∧ _ ∧ _ := ⟨cellsN kA 0 _ rfl, cellsN kA 1 _ rfl, cellsN kA 2 _ rfl, cellsN kA 3 _ rfl⟩
            have hBA : Hid (Below Y W0 (wr.setCell ⟨X, 2, none⟩ (.int .u64 (rm : Int)))) := Lib.hid (hb.out.setCell (by exact hYX) _)
            have hRA : Hid (ndRow (wr.setCell ⟨X, 2, none⟩ (.int .u64 (rm : Int))) (X + 1) _ ls) := Lib.hid (hrow.out.but (But.set (S := (· = X)) wr (p := ⟨X, 2, none⟩) rfl _) fun j e z => by have := (hrow.out.from j e).1; have z2 : j = X := z; omega)
            have sA : (wr.setCell ⟨X, 2, none⟩ (.int .u64 (rm : Int))).heap.size = wr.heap.size := by simp [World.setCell]
            have HKA := Lib.hid kA
            clear hsm hlt2 hms hgap kA q0 hxm
            go_wp2_with (at_builtin; refine wpList_append_nd rfl (.tmp 71) (.tmp 73) rfl (X + 1) _ (ls) rfl ?qa wr.heap.size (⟨kk, ⟨node, addr⟩, rm, i⟩ : Rw NdA) rfl ?qb ?qd ?qc ?_)
            case qa => exact hRA.out.below ((Below.refl _ _).alloc (Nat.le_refl _) _)
            case qb => (have z9 := nd_new (wr.setCell ⟨X, 2, none⟩ (.int .u64 (rm : Int))) (⟨kk, ⟨node, addr⟩, rm, i⟩ : Rw NdA) TNd); rw [sA] at z9; exact z9
            case qd => omega
            case qc => (try simp); omega
            refine Lib.hid ?_
            intro vW4 W4 hown hgr
            have hbx := ndRow.snoc hRA.out (Below.refl _ _) (by (try simp); omega) hgr
            have HB4 := Lib.hid (hBA.out.trans (hbx.mono (by omega)))
            have HR4 := Lib.hid hown
            have HX4 : Hid (W4.heap[X]? = some (.cells #[.int .i64 node, .string addr, .int .u64 (rm : Int), .int .u64 (i : Int)] TNd (0, 0))) := Lib.hid ((hbx.block X (by omega)).trans HKA.out)
            have HZ4 : Hid (X < W4.heap.size) := Lib.hid (by have := hbx.size; rw [sA] at this; omega)
            clear hown hgr hbx y1 e0 e1 e2 e3 a0 a1 a2 a3 g2 sA z0 z1 z2 z3
            go_wp2
            go_roundw
            case rel => exact ⟨k + 1, rm, true, ls ++ [(⟨kk, ⟨node, addr⟩, rm, i⟩ : Rw NdA)], by omega, by go_num, rfl, HI1, Lib.hid (fun e => by cases e), Lib.hid (by simp; omega), HX4, HR4, HB4, HZ4⟩
            case measure => simp [intOf]; omega
          · rw [decide_eq_false q0] at hsm
            have hne : x.key ≠ kk := text_other.1 hsm
            have q : (x.val.node == node) = false := beq_eq_false_iff_ne.2 q0
            have hmkN : bb = false → mk = i ∧ ∀ y ∈ d.n.l.take (k + 1), y.key ≠ kk := fun e => ⟨(hmk.out e).1, fun y hy => by
              rw [HTk.out, List.mem_append, List.mem_singleton] at hy
              rcases hy with hy | rfl
              · exact (hmk.out e).2 y hy
              · exact hne⟩
            have z0 := cellsN hxb.out 0 _ rfl
            have z1 := cellsN hxb.out 1 _ rfl
            have z2 := cellsN hxb.out 2 _ rfl
            have z3 := cellsN hxb.out 3 _ rfl
            cases bb with
            | true =>
              have HI1 : Hid (layR (⟨kk, ⟨node, addr⟩, rm, i⟩ : Rw NdA) false d.n.l = (ls ++ [x]) ++ layR (⟨kk, ⟨node, addr⟩, rm, i⟩ : Rw NdA) true (d.n.l.drop (k + 1))) := Lib.hid (by
                rw [hinv.out, HD.out, layR, if_neg (by rw [hsm]; simp), if_neg (by simp), List.append_assoc]
                rfl)
              clear hsm hlt2 hms hgap q0 hmkN hne
              obtain ⟨y1, hit⟩ := HF'.out wr hb.out
              obtain ⟨e0, e1, e2, e3⟩ := nd_cells hit
              clear hit
              go_wp2_with (at_builtin; refine wpList_append_nd rfl (.tmp 93) (.tmp 101) rfl (X + 1) _ (ls) rfl ?qa wr.heap.size x rfl ?qb ?qd ?qc ?_)
              case qa => exact hrow.out.below ((Below.refl _ _).alloc (Nat.le_refl _) _)
              case qb => exact nd_new wr x _
              case qd => omega
              case qc => (try simp); omega
              refine Lib.hid ?_
              intro vW4 W4 hown hgr
              have hbx := ndRow.snoc hrow.out (Below.refl _ _) (by (try simp); omega) hgr
              have HB4 := Lib.hid (hb.out.trans (hbx.mono (by omega)))
              have HR4 := Lib.hid hown
              have HX4 : Hid (W4.heap[X]? = some (.cells #[.int .i64 node, .string addr, .int .u64 (mk : Int), .int .u64 (i : Int)] TNd (0, 0))) := Lib.hid ((hbx.block X (by omega)).trans hxb.out)
              have HZ4 : Hid (X < W4.heap.size) := Lib.hid (by have := hbx.size; omega)
              clear hown hgr hbx y1 e0 e1 e2 e3 z0 z1 z2 z3
              go_wp2
              go_roundw
              case rel => exact ⟨k + 1, mk, true, ls ++ [x], by omega, by go_num, rfl, HI1, Lib.hid (fun e => by cases e), Lib.hid (by simp; omega), HX4, HR4, HB4, HZ4⟩
              case measure => simp [intOf]; omega
            | false =>
              by_cases q3 : node < x.val.node
              · rw [decide_eq_true q3] at hlt2
                have hrm2 : mk = rm := by rw [(hmkN (by first | rfl | trivial)).1, ← HRm.out]; exact (hgap hlt2 (hmk.out (by first | rfl | trivial)).2).symm
                have HI1 : Hid (layR (⟨kk, ⟨node, addr⟩, rm, i⟩ : Rw NdA) false d.n.l = (ls ++ [(⟨kk, ⟨node, addr⟩, rm, i⟩ : Rw NdA), x]) ++ layR (⟨kk, ⟨node, addr⟩, rm, i⟩ : Rw NdA) true (d.n.l.drop (k + 1))) := Lib.hid (by
                  rw [hinv.out, HD.out, layR, if_neg (by rw [hsm]; simp), if_pos (by rw [show ltT kk x.key = true from hlt2]; rfl)]
                  simp)
                rw [hrm2] at z2
                have hxb2 := hxb.out
                rw [hrm2] at hxb2
                have HXB := Lib.hid hxb2
                clear hsm hlt2 hms hgap q0 hmkN hne hxb2
                obtain ⟨y1, hit⟩ := HF'.out wr hb.out
                obtain ⟨e0, e1, e2, e3⟩ := nd_cells hit
                clear hit
                go_wp2_with (at_builtin; refine wpList_append_nd rfl (.tmp 89) (.tmp 91) rfl (X + 1) _ (ls) rfl ?qa wr.heap.size (⟨kk, ⟨node, addr⟩, rm, i⟩ : Rw NdA) rfl ?qb ?qd ?qc ?_)
                case qa => exact hrow.out.below ((Below.refl _ _).alloc (Nat.le_refl _) _)
                case qb => exact nd_new wr (⟨kk, ⟨node, addr⟩, rm, i⟩ : Rw NdA) _
                case qd => omega
                case qc => (try simp); omega
                refine Lib.hid ?_
                intro vW4 W4 hown hgr
                have hbx := ndRow.snoc hrow.out (Below.refl _ _) (by (try simp); omega) hgr
                have HB4 := Lib.hid (hb.out.trans (hbx.mono (by omega)))
                have HR4 := Lib.hid hown
                have HX4 : Hid (W4.heap[X]? = some (.cells #[.int .i64 node, .string addr, .int .u64 (rm : Int), .int .u64 (i : Int)] TNd (0, 0))) := Lib.hid ((hbx.block X (by omega)).trans HXB.out)
                have hz4 : X < W4.heap.size := by have := hbx.size; omega
                clear hown hgr hbx y1 e0 e1 e2 e3 z0 z1 z2 z3
                obtain ⟨y1, hit⟩ := HF'.out W4 HB4.out
                obtain ⟨e0, e1, e2, e3⟩ := nd_cells hit
                clear hit
                go_wp2_with (at_builtin; refine wpList_append_nd rfl (.tmp 93) (.tmp 101) rfl (X + 1) _ (ls ++ [(⟨kk, ⟨node, addr⟩, rm, i⟩ : Rw NdA)]) rfl ?qa W4.heap.size x rfl ?qb ?qd ?qc ?_)
                case qa => exact HR4.out.below ((Below.refl _ _).alloc (Nat.le_refl _) _)
                case qb => exact nd_new W4 x _
                case qd => simp; omega
                case qc => (try simp); omega
                refine Lib.hid ?_
                intro vW5 W5 hown hgr
                have hbx := ndRow.snoc HR4.out (Below.refl _ _) (by (try simp); omega) hgr
                have HB5 := Lib.hid (HB4.out.trans (hbx.mono (by omega)))
                have HR5 := Lib.hid hown
                have HX5 : Hid (W5.heap[X]? = some (.cells #[.int .i64 node, .string addr, .int .u64 (rm : Int), .int .u64 (i : Int)] TNd (0, 0))) := Lib.hid ((hbx.block X (by omega)).trans HX4.out)
                have HZ5 : Hid (X < W5.heap.size) := Lib.hid (by have := hbx.size; omega)
                clear hown hgr hbx y1 e0 e1 e2 e3
                go_wp2
                go_roundw
                case rel => exact ⟨k + 1, rm, true, ls ++ [(⟨kk, ⟨node, addr⟩, rm, i⟩ : Rw NdA), x], by omega, by go_num, rfl, HI1, Lib.hid (fun e => by cases e), Lib.hid (by simp; omega), HX5, HR5, HB5, HZ5⟩
                case measure => simp [intOf]; omega
              · rw [decide_eq_false q3] at hlt2
                have HI1 : Hid (layR (⟨kk, ⟨node, addr⟩, rm, i⟩ : Rw NdA) false d.n.l = (ls ++ [x]) ++ layR (⟨kk, ⟨node, addr⟩, rm, i⟩ : Rw NdA) false (d.n.l.drop (k + 1))) := Lib.hid (by
                  rw [hinv.out, HD.out, layR, if_neg (by rw [hsm]; simp), if_neg (by rw [show ltT kk x.key = false from hlt2]; simp), List.append_assoc]
                  rfl)
                have HMN : Hid (mk = i ∧ ∀ y ∈ d.n.l.take (k + 1), y.key ≠ kk) := Lib.hid (hmkN (by first | rfl | trivial))
                clear hsm hlt2 hms hgap q0 hmkN hne
                obtain ⟨y1, hit⟩ := HF'.out wr hb.out
                obtain ⟨e0, e1, e2, e3⟩ := nd_cells hit
                clear hit
                go_wp2_with (at_builtin; refine wpList_append_nd rfl (.tmp 93) (.tmp 101) rfl (X + 1) _ (ls) rfl ?qa wr.heap.size x rfl ?qb ?qd ?qc ?_)
                case qa => exact hrow.out.below ((Below.refl _ _).alloc (Nat.le_refl _) _)
                case qb => exact nd_new wr x _
                case qd => omega
                case qc => (try simp); omega
                refine Lib.hid ?_
                intro vW4 W4 hown hgr
                have hbx := ndRow.snoc hrow.out (Below.refl _ _) (by (try simp); omega) hgr
                have HB4 := Lib.hid (hb.out.trans (hbx.mono (by omega)))
                have HR4 := Lib.hid hown
                have HX4 : Hid (W4.heap[X]? = some (.cells #[.int .i64 node, .string addr, .int .u64 (mk : Int), .int .u64 (i : Int)] TNd (0, 0))) := Lib.hid ((hbx.block X (by omega)).trans hxb.out)
                have HZ4 : Hid (X < W4.heap.size) := Lib.hid (by have := hbx.size; omega)
                clear hown hgr hbx y1 e0 e1 e2 e3 z0 z1 z2 z3
                go_wp2
                go_roundw
                case rel => exact ⟨k + 1, mk, false, ls ++ [x], by omega, by go_num, rfl, HI1, Lib.hid (fun _ => HMN.out), Lib.hid (by simp; omega), HX4, HR4, HB4, HZ4⟩
                case measure => simp [intOf]; omega
        · have hkL : k = L := by omega
          have hdk : d.n.l.drop k = [] := List.drop_eq_nil_of_le (by rw [HL.out]; omega)
          have htk : d.n.l.take k = d.n.l := List.take_of_length_le (by rw [HL.out]; omega)
          have hI := hinv.out
          rw [hdk] at hI
          have hd := HH.out.below (by rw [HY.out]; exact hb.out)
          have hcL := hd.cells.2.1
          rw [HL.out] at hcL
          clear hd hdk
          cases bb with
          | true =>
            have hMM : layR (⟨kk, ⟨node, addr⟩, rm, i⟩ : Rw NdA) false d.n.l = ls := by
              rw [hI]; simp [layR]
            obtain ⟨M, hM⟩ : ∃ M, ls = M := ⟨_, rfl⟩
            have hrz := hrow.out
            rw [hM] at hMM hrz
            have hd2 := HH.out.below (w' := wr) (by rw [HY.out]; exact hb.out)
            have hcz := hd2.cells.2.1
            rw [HL.out] at hcz
            have z := hd2.froz 1
            have hl := hd2.lt
            obtain ⟨A9, c9, rfl, k1, k2, k3, k4⟩ := SK.of_row ndC_len hrz
            have hset := (hd2.narrow (S' := fun k => S k ∨ Y ≤ k) (fun _ _ z => .inl (HSs.out _ z)) (fun k z => z.elim (HLo.out k) (Nat.le_trans HTop.out))).set1 (A := A9) (c := c9) (l := M) ⟨k1, fun b off e _ => ⟨.inr (by have := k4 b off e; omega), by have := k4 b off e; omega⟩, k2, k3⟩
            have HRs := Lib.hid (rdraise1_any i hset)
            have HB5 : Hid (But (· = B) W0 (wr.setCell ⟨B, 1, none⟩ (.slice A9 M.length c9))) := Lib.hid ((But.of_below (by rw [HY.out]; exact hb.out)).trans (But.set (S := (· = B)) wr (p := ⟨B, 1, none⟩) rfl (.slice A9 M.length c9)))
            have HMM := Lib.hid hMM
            clear hset k1 k4 hd2 hMM hM
            go_wp2_with fail
            refine HRs.out.mono ?_
            rintro e w2 ⟨rfl, hd3, hb3⟩
            have HD3 := Lib.hid hd3
            have HB6 := Lib.hid (HB5.out.trans hb3)
            clear hd3 hb3
            go_wp2
            go_ret
            have HOk4 := HOk3.out
            rw [HMM.out] at HOk4
            rw [HY.out, HMM.out]
            exact ⟨rfl, ⟨HOk4, _, _, _, _, _, _, _, HD3.out⟩, HB6.out⟩
          | false =>
            obtain ⟨hmi, hno⟩ := hmk.out (by first | rfl | trivial)
            rw [htk] at hno
            have hrm2 : mk = rm := by rw [hmi, ← HRm.out]; exact (made_none (t := d.n) hno).symm
            have hxb2 := hxb.out
            rw [hrm2] at hxb2
            have z0 := cellsN hxb2 0 _ rfl
            have z1 := cellsN hxb2 1 _ rfl
            have z2 := cellsN hxb2 2 _ rfl
            have z3 := cellsN hxb2 3 _ rfl
            clear hxb2 htk
            go_wp2_with (at_builtin; refine wpList_append_nd rfl (.tmp 105) (.tmp 107) rfl (X + 1) _ (ls) rfl ?qa wr.heap.size (⟨kk, ⟨node, addr⟩, rm, i⟩ : Rw NdA) rfl ?qb ?qd ?qc ?_)
            case qa => exact hrow.out.below ((Below.refl _ _).alloc (Nat.le_refl _) _)
            case qb => exact nd_new wr (⟨kk, ⟨node, addr⟩, rm, i⟩ : Rw NdA) _
            case qd => omega
            case qc => (try simp); omega
            refine Lib.hid ?_
            intro vW4 W4 hown hgr
            have hbx := ndRow.snoc hrow.out (Below.refl _ _) (by (try simp); omega) hgr
            have HB4 := Lib.hid (hb.out.trans (hbx.mono (by omega)))
            have HR4 := Lib.hid hown
            clear hown hgr hbx z0 z1 z2 z3 hcL
            have hMM : layR (⟨kk, ⟨node, addr⟩, rm, i⟩ : Rw NdA) false d.n.l = ls ++ [(⟨kk, ⟨node, addr⟩, rm, i⟩ : Rw NdA)] := by
              rw [hI]; simp [layR]
            obtain ⟨M, hM⟩ : ∃ M, ls ++ [(⟨kk, ⟨node, addr⟩, rm, i⟩ : Rw NdA)] = M := ⟨_, rfl⟩
            have hrz := HR4.out
            rw [hM] at hMM hrz
            have hd2 := HH.out.below (w' := W4) (by rw [HY.out]; exact HB4.out)
            have hcz := hd2.cells.2.1
            rw [HL.out] at hcz
            have z := hd2.froz 1
            have hl := hd2.lt
            obtain ⟨A9, c9, rfl, k1, k2, k3, k4⟩ := SK.of_row ndC_len hrz
            have hset := (hd2.narrow (S' := fun k => S k ∨ Y ≤ k) (fun _ _ z => .inl (HSs.out _ z)) (fun k z => z.elim (HLo.out k) (Nat.le_trans HTop.out))).set1 (A := A9) (c := c9) (l := M) ⟨k1, fun b off e _ => ⟨.inr (by have := k4 b off e; omega), by have := k4 b off e; omega⟩, k2, k3⟩
            have HRs := Lib.hid (rdraise1_any i hset)
            have HB5 : Hid (But (· = B) W0 (W4.setCell ⟨B, 1, none⟩ (.slice A9 M.length c9))) := Lib.hid ((But.of_below (by rw [HY.out]; exact HB4.out)).trans (But.set (S := (· = B)) W4 (p := ⟨B, 1, none⟩) rfl (.slice A9 M.length c9)))
            have HMM := Lib.hid hMM
            clear hset k1 k4 hd2 hMM hM
            go_wp2_with fail
            refine HRs.out.mono ?_
            rintro e w2 ⟨rfl, hd3, hb3⟩
            have HD3 := Lib.hid hd3
            have HB6 := Lib.hid (HB5.out.trans hb3)
            clear hd3 hb3
            go_wp2
            go_ret
            have HOk4 := HOk3.out
            rw [HMM.out] at HOk4
            rw [HY.out, HMM.out]
            exact ⟨rfl, ⟨HOk4, _, _, _, _, _, _, _, HD3.out⟩, HB6.out⟩
  · have hok3 := HOk2.out
    rw [HDB.out hf] at hok3 ⊢
    have HOk3 := Lib.hid hok3
    clear hok3
    have HD1 : Hid (decide (m ≤ L) = false) := Lib.hid (decide_eq_false (by omega))
    rw [hb] at HT
    clear hb hf hth hL hnm hok
    rename World => W0
    go_enter Tryz.func36, Tryz.ntmps36
    go_wp2_with fail
    have hre : ∀ w : World, ((fun a b : World => Below a.heap.size a b)) w w := (fun w => Below.refl _ w)
    have hrd : ∀ (f : Nat → Bool) w i, i ≠ 2 → (fun (_ : Nat → Bool) (w2 : World) => Below W0.heap.size W0 w2) f w → (fun (_ : Nat → Bool) (w2 : World) => Below W0.heap.size W0 w2) (Go.Rel.upd f i) w := (fun _ _ _ _ h => h)
    refine Go.Rel.wp_tab (by kernel_rfl) (by kernel_rfl) (fun (_ : Nat → Bool) (w2 : World) => Below W0.heap.size W0 w2) ((fun a b : World => Below a.heap.size a b)) hre ((fun _ _ _ h k => h.trans (k.mono h.size))) ((⟨rfl, rfl, rfl, Nat.le_refl _, fun _ _ => rfl⟩)) ⟨rfl, rfl, rfl, Nat.le_refl _, fun _ _ => rfl⟩ (rdnB B node m A1 L c1) (fun _ _ _ => True) (fun i => ([] : List Nat).contains i) (fun i => ([2, 8, 13, 14] : List Nat).contains i) (by kernel_rfl) (fun _ _ _ _ h _ => h) 2 rfl hrd ?_ (Go.Rel.AllOf.get ?_) ?_
    · repeat (refine .cons (by first | exact Go.Rel.pure_sp rfl | exact Go.Rel.pure_yes (by kernel_rfl) (fun _ => by kernel_rfl) | exact Go.Rel.pure_no (by kernel_rfl) rfl) ?_)
      exact .nil
    · refine ⟨?_, ?_, ?_, ?_, trivial⟩
      · refine SpecOk.call 79 #[.pointer (some ⟨B, 0, none⟩), .int .i64 node] rfl (by kernel_rfl) (fun _ => by kernel_rfl) fun _ w' hI _ _ _ _ => ?_
        refine (HT.out w' hI).mono ?_
        rintro e2 w2 ⟨rfl, rfl⟩
        exact ⟨_, rfl, (Below.refl _ _), hI, rfl⟩
      · exact SpecOk.ld hrd hre (q := .pointer (some ⟨B, 1, none⟩)) (h := fun _ w' hI _ _ _ _ => by obtain ⟨hz1, hz2, -⟩ := (HIs.out _ hI).cells; rw [HL.out] at hz2; go_simp; rfl)
      · exact SpecOk.ld hrd hre (q := .pointer (some ⟨B, 0, none⟩)) (h := fun _ w' hI _ _ _ _ => by obtain ⟨hz1, hz2, -⟩ := (HIs.out _ hI).cells; rw [HL.out] at hz2; go_simp; rfl)
      · refine SpecOk.gen (fun e => [(31, .int .i64 (L : Int)), (35, .int .i64 (m : Int))]) rfl rfl (fun _ => by kernel_rfl) fun f w' e hI hf hdesc hanc hle hX K hK => ?_
        have d1 := HD1.out
        go_simp
        exact hK _ _ (hre _) (hrd f w' 14 (by decide) hI) rfl
    · intro f W1 e hall hJ hle hv
      have v9 := hv 15 rfl
      simp only [Go.Rel.finL, List.setIfInBounds_toArray, List.set_cons_succ, List.set_cons_zero]
      rw [show e 15 = .bool false from v9]
      have HJ := Lib.hid hJ
      clear hv hall hle hJ v9 HT HIs
      obtain ⟨X, hX⟩ : ∃ X, W1.heap.size = X := ⟨_, rfl⟩
      obtain ⟨W2, hW2⟩ : ∃ W2, W1.alloc (.cells #[.int .i64 node, .string addr, .int .u64 (i : Int), .int .u64 (i : Int)] TNd) = W2 := ⟨_, rfl⟩
      have kx := heap_alloc_new W1 (.cells #[.int .i64 node, .string addr, .int .u64 (i : Int), .int .u64 (i : Int)] TNd)
      have bx := below1 W1 #[.int .i64 node, .string addr, .int .u64 (i : Int), .int .u64 (i : Int)] TNd
      have sx : (W1.alloc (.cells #[.int .i64 node, .string addr, .int .u64 (i : Int), .int .u64 (i : Int)] TNd)).heap.size = W1.heap.size + 1 := by simp
      rw [hW2] at kx bx sx
      rw [hX] at kx sx
      have hYX : Y ≤ X := by have := HJ.out.size; have := HY.out; omega
      have HB2 : Hid (Below Y W0 W2) := Lib.hid (by rw [← HY.out]; exact HJ.out.trans (bx.mono HJ.out.size))
      have HX2 := Lib.hid kx
      have HS2 := Lib.hid sx
      have HW2 := Lib.hid hW2
      have HX := Lib.hid hX
      clear kx bx sx hW2 hX
      go_wp2_with fail
      rw [HW2.out, HX.out]
      go_loopw [10, 11, 12] (fun vv bv iv wr => ∃ (k mk : Nat) (bb : Bool) (ls : List (Rw NdA)), k ≤ L ∧ iv = .int .i64 (k : Int) ∧ bv = .bool bb ∧ Hid (layR (⟨kk, ⟨node, addr⟩, rm, i⟩ : Rw NdA) false d.n.l = ls ++ layR (⟨kk, ⟨node, addr⟩, rm, i⟩ : Rw NdA) bb (d.n.l.drop k)) ∧ Hid (bb = false → mk = i ∧ ∀ y ∈ d.n.l.take k, y.key ≠ kk) ∧ Hid (ls.length ≤ 2 * k) ∧ Hid (wr.heap[X]? = some (.cells #[.int .i64 node, .string addr, .int .u64 (mk : Int), .int .u64 (i : Int)] TNd (0, 0))) ∧ Hid (ndRow wr (X + 1) vv ls) ∧ Hid (Below Y W0 wr) ∧ Hid (X < wr.heap.size)) (fun _ _ iv _ => L - (intOf iv).toNat)
      case atStart => exact ⟨0, i, false, [], Nat.zero_le _, rfl, rfl, Lib.hid rfl, Lib.hid (fun _ => ⟨rfl, fun y hy => by simp at hy⟩), Lib.hid (Nat.le_refl _), HX2, Lib.hid (rowK.nil _ _), HB2, Lib.hid (by rw [HS2.out]; omega)⟩
      case round =>
        obtain ⟨k, mk, bb, ls, hk, rfl, rfl, hinv, hmk, hls, hxb, hrow, hb, hxs⟩ := hrel
        have hxs9 := hxs.out
        have hls9 := hls.out
        by_cases hlt : k < L
        · have hkl : k < d.n.l.length := by rw [HL.out]; exact hlt
          have hd := HH.out.below (by rw [HY.out]; exact hb.out)
          obtain ⟨b, off, rfl, hbl, hit⟩ := hd.r1.row.at_ hkl hkl
          have hdr : d.n.l.drop k = d.n.l[k] :: d.n.l.drop (k + 1) := List.drop_eq_getElem_cons hkl
          have htk : d.n.l.take (k + 1) = d.n.l.take k ++ [d.n.l[k]] := List.take_succ_eq_append_getElem hkl
          have hmem : d.n.l[k] ∈ d.n.l := List.getElem_mem hkl
          have hgap := fun hg hn => made_gap (i := i) (k := kk) HRise.out hkl hg hn
          obtain ⟨x, hx⟩ : ∃ x, d.n.l[k] = x := ⟨_, rfl⟩
          have HF' : Hid (∀ wx, Below Y W0 wx → wx.cell? ⟨B, 1, none⟩ = some (.slice (some ⟨b, off, none⟩) L c1) ∧ ItAt ndC wx b (off + k * 4) x) := Lib.hid fun wx hx9 => by
            have h1 := HH.out.below (w' := wx) (by rw [HY.out]; exact hx9)
            obtain ⟨b', off', e, _, h2⟩ := h1.r1.row.at_ hkl hkl
            cases e
            rw [hx] at h2
            have h3 := h1.cells.2.1
            rw [HL.out] at h3
            exact ⟨h3, h2⟩
          rw [hx] at hdr htk hmem hgap
          have hsm := HSame.out x hmem
          have hlt2 := HLt2.out x hmem
          have hms : x.key = kk → x.made = rm := fun e => by rw [← HRm.out]; exact (made_same HRise.out hmem e).symm
          have HD := Lib.hid hdr
          have HTk := Lib.hid htk
          clear hit hd hdr htk hx hmem
          by_cases q0 : x.val.node = node
          · rw [decide_eq_true q0] at hsm
            have hxm := hms (text_same.1 hsm)
            have q : (x.val.node == node) = true := beq_iff_eq.2 q0
            have HI1 : Hid (layR (⟨kk, ⟨node, addr⟩, rm, i⟩ : Rw NdA) false d.n.l = (ls ++ [(⟨kk, ⟨node, addr⟩, rm, i⟩ : Rw NdA)]) ++ layR (⟨kk, ⟨node, addr⟩, rm, i⟩ : Rw NdA) true (d.n.l.drop (k + 1))) := Lib.hid (by
              rw [hinv.out, HD.out, layR, if_pos hsm, List.append_assoc]
              rfl)
            obtain ⟨y1, hit⟩ := HF'.out wr hb.out
            obtain ⟨e0, e1, e2, e3⟩ := nd_cells hit
            clear hit
            rw [hxm] at e2
            have z0 := cellsN hxb.out 0 _ rfl
            have z1 := cellsN hxb.out 1 _ rfl
            have z2 := cellsN hxb.out 2 _ rfl
            have z3 := cellsN hxb.out 3 _ rfl
            have g2 := blk_froz hxb.out 2
            have kA : (wr.setCell ⟨X, 2, none⟩ (.int .u64 (rm : Int))).heap[X]? = some (.cells #[.int .i64 node, .string addr, .int .u64 (rm : Int), .int .u64 (i : Int)] TNd (0, 0)) := block_set hxb.out 2 _
            obtain ⟨a0, a1, a2, a3⟩ : _ ∧ _ ∧ _ ∧ _ := ⟨cellsN kA 0 _ rfl, cellsN kA 1 _ rfl, cellsN kA 2 _ rfl, cellsN kA 3 _ rfl⟩
            have hBA : Hid (Below Y W0 (wr.setCell ⟨X, 2, none⟩ (.int .u64 (rm : Int)))) := Lib.hid (hb.out.setCell (by exact hYX) _)
            have hRA : Hid (ndRow (wr.setCell ⟨X, 2, none⟩ (.int .u64 (rm : Int))) (X + 1) _ ls) := Lib.hid (hrow.out.but (But.set (S := (· = X)) wr (p := ⟨X, 2, none⟩) rfl _) fun j e z => by have := (hrow.out.from j e).1; have z2 : j = X := z; omega)
            have sA : (wr.setCell ⟨X, 2, none⟩ (.int .u64 (rm : Int))).heap.size = wr.heap.size := by simp [World.setCell]
            have HKA := Lib.hid kA
            clear hsm hlt2 hms hgap kA q0 hxm
            go_wp2_with (at_builtin; refine wpList_append_nd rfl (.tmp 71) (.tmp 73) rfl (X + 1) _ (ls) rfl ?qa wr.heap.size (⟨kk, ⟨node, addr⟩, rm, i⟩ : Rw NdA) rfl ?qb ?qd ?qc ?_)
            case qa => exact hRA.out.below ((Below.refl _ _).alloc (Nat.le_refl _) _)
            case qb => (have z9 := nd_new (wr.setCell ⟨X, 2, none⟩ (.int .u64 (rm : Int))) (⟨kk, ⟨node, addr⟩, rm, i⟩ : Rw NdA) TNd); rw [sA] at z9; exact z9
            case qd => omega
            case qc => (try simp); omega
            refine Lib.hid ?_
            intro vW4 W4 hown hgr
            have hbx := ndRow.snoc hRA.out (Below.refl _ _) (by (try simp); omega) hgr
            have HB4 := Lib.hid (hBA.out.trans (hbx.mono (by omega)))
            have HR4 := Lib.hid hown
            have HX4 : Hid (W4.heap[X]? = some (.cells #[.int .i64 node, .string addr, .int .u64 (rm : Int), .int .u64 (i : Int)] TNd (0, 0))) := Lib.hid ((hbx.block X (by omega)).trans HKA.out)
            have HZ4 : Hid (X < W4.heap.size) := Lib.hid (by have := hbx.size; rw [sA] at this; omega)
            clear hown hgr hbx y1 e0 e1 e2 e3 a0 a1 a2 a3 g2 sA z0 z1 z2 z3
            go_wp2
            go_roundw
            case rel => exact ⟨k + 1, rm, true, ls ++ [(⟨kk, ⟨node, addr⟩, rm, i⟩ : Rw NdA)], by omega, by go_num, rfl, HI1, Lib.hid (fun e => by cases e), Lib.hid (by simp; omega), HX4, HR4, HB4, HZ4⟩
            case measure => simp [intOf]; omega
          · rw [decide_eq_false q0] at hsm
            have hne : x.key ≠ kk := text_other.1 hsm
            have q : (x.val.node == node) = false := beq_eq_false_iff_ne.2 q0
            have hmkN : bb = false → mk = i ∧ ∀ y ∈ d.n.l.take (k + 1), y.key ≠ kk := fun e => ⟨(hmk.out e).1, fun y hy => by
              rw [HTk.out, List.mem_append, List.mem_singleton] at hy
              rcases hy with hy | rfl
              · exact (hmk.out e).2 y hy
              · exact hne⟩
            have z0 := cellsN hxb.out 0 _ rfl
            have z1 := cellsN hxb.out 1 _ rfl
            have z2 := cellsN hxb.out 2 _ rfl
            have z3 := cellsN hxb.out 3 _ rfl
            cases bb with
            | true =>
              have HI1 : Hid (layR (⟨kk, ⟨node, addr⟩, rm, i⟩ : Rw NdA) false d.n.l = (ls ++ [x]) ++ layR (⟨kk, ⟨node, addr⟩, rm, i⟩ : Rw NdA) true (d.n.l.drop (k + 1))) := Lib.hid (by
                rw [hinv.out, HD.out, layR, if_neg (by rw [hsm]; simp), if_neg (by simp), List.append_assoc]
                rfl)
              clear hsm hlt2 hms hgap q0 hmkN hne
              obtain ⟨y1, hit⟩ := HF'.out wr hb.out
              obtain ⟨e0, e1, e2, e3⟩ := nd_cells hit
              clear hit
              go_wp2_with (at_builtin; refine wpList_append_nd rfl (.tmp 93) (.tmp 101) rfl (X + 1) _ (ls) rfl ?qa wr.heap.size x rfl ?qb ?qd ?qc ?_)
              case qa => exact hrow.out.below ((Below.refl _ _).alloc (Nat.le_refl _) _)
              case qb => exact nd_new wr x _
              case qd => omega
              case qc => (try simp); omega
              refine Lib.hid ?_
              intro vW4 W4 hown hgr
              have hbx := ndRow.snoc hrow.out (Below.refl _ _) (by (try simp); omega) hgr
              have HB4 := Lib.hid (hb.out.trans (hbx.mono (by omega)))
              have HR4 := Lib.hid hown
              have HX4 : Hid (W4.heap[X]? = some (.cells #[.int .i64 node, .string addr, .int .u64 (mk : Int), .int .u64 (i : Int)] TNd (0, 0))) := Lib.hid ((hbx.block X (by omega)).trans hxb.out)
              have HZ4 : Hid (X < W4.heap.size) := Lib.hid (by have := hbx.size; omega)
              clear hown hgr hbx y1 e0 e1 e2 e3 z0 z1 z2 z3
              go_wp2
              go_roundw
              case rel => exact ⟨k + 1, mk, true, ls ++ [x], by omega, by go_num, rfl, HI1, Lib.hid (fun e => by cases e), Lib.hid (by simp; omega), HX4, HR4, HB4, HZ4⟩
              case measure => simp [intOf]; omega
            | false =>
              by_cases q3 : node < x.val.node
              · rw [decide_eq_true q3] at hlt2
                have hrm2 : mk = rm := by rw [(hmkN (by first | rfl | trivial)).1, ← HRm.out]; exact (hgap hlt2 (hmk.out (by first | rfl | trivial)).2).symm
                have HI1 : Hid (layR (⟨kk, ⟨node, addr⟩, rm, i⟩ : Rw NdA) false d.n.l = (ls ++ [(⟨kk, ⟨node, addr⟩, rm, i⟩ : Rw NdA), x]) ++ layR (⟨kk, ⟨node, addr⟩, rm, i⟩ : Rw NdA) true (d.n.l.drop (k + 1))) := Lib.hid (by
                  rw [hinv.out, HD.out, layR, if_neg (by rw [hsm]; simp), if_pos (by rw [show ltT kk x.key = true from hlt2]; rfl)]
                  simp)
                rw [hrm2] at z2
                have hxb2 := hxb.out
                rw [hrm2] at hxb2
                have HXB := Lib.hid hxb2
                clear hsm hlt2 hms hgap q0 hmkN hne hxb2
                obtain ⟨y1, hit⟩ := HF'.out wr hb.out
                obtain ⟨e0, e1, e2, e3⟩ := nd_cells hit
                clear hit
                go_wp2_with (at_builtin; refine wpList_append_nd rfl (.tmp 89) (.tmp 91) rfl (X + 1) _ (ls) rfl ?qa wr.heap.size (⟨kk, ⟨node, addr⟩, rm, i⟩ : Rw NdA) rfl ?qb ?qd ?qc ?_)
                case qa => exact hrow.out.below ((Below.refl _ _).alloc (Nat.le_refl _) _)
                case qb => exact nd_new wr (⟨kk, ⟨node, addr⟩, rm, i⟩ : Rw NdA) _
                case qd => omega
                case qc => (try simp); omega
                refine Lib.hid ?_
                intro vW4 W4 hown hgr
                have hbx := ndRow.snoc hrow.out (Below.refl _ _) (by (try simp); omega) hgr
                have HB4 := Lib.hid (hb.out.trans (hbx.mono (by omega)))
                have HR4 := Lib.hid hown
                have HX4 : Hid (W4.heap[X]? = some (.cells #[.int .i64 node, .string addr, .int .u64 (rm : Int), .int .u64 (i : Int)] TNd (0, 0))) := Lib.hid ((hbx.block X (by omega)).trans HXB.out)
                have hz4 : X < W4.heap.size := by have := hbx.size; omega
                clear hown hgr hbx y1 e0 e1 e2 e3 z0 z1 z2 z3
                obtain ⟨y1, hit⟩ := HF'.out W4 HB4.out
                obtain ⟨e0, e1, e2, e3⟩ := nd_cells hit
                clear hit
                go_wp2_with (at_builtin; refine wpList_append_nd rfl (.tmp 93) (.tmp 101) rfl (X + 1) _ (ls ++ [(⟨kk, ⟨node, addr⟩, rm, i⟩ : Rw NdA)]) rfl ?qa W4.heap.size x rfl ?qb ?qd ?qc ?_)
                case qa => exact HR4.out.below ((Below.refl _ _).alloc (Nat.le_refl _) _)
                case qb => exact nd_new W4 x _
                case qd => simp; omega
                case qc => (try simp); omega
                refine Lib.hid ?_
                intro vW5 W5 hown hgr
                have hbx := ndRow.snoc HR4.out (Below.refl _ _) (by (try simp); omega) hgr
                have HB5 := Lib.hid (HB4.out.trans (hbx.mono (by omega)))
                have HR5 := Lib.hid hown
                have HX5 : Hid (W5.heap[X]? = some (.cells #[.int .i64 node, .string addr, .int .u64 (rm : Int), .int .u64 (i : Int)] TNd (0, 0))) := Lib.hid ((hbx.block X (by omega)).trans HX4.out)
                have HZ5 : Hid (X < W5.heap.size) := Lib.hid (by have := hbx.size; omega)
                clear hown hgr hbx y1 e0 e1 e2 e3
                go_wp2
                go_roundw
                case rel => exact ⟨k + 1, rm, true, ls ++ [(⟨kk, ⟨node, addr⟩, rm, i⟩ : Rw NdA), x], by omega, by go_num, rfl, HI1, Lib.hid (fun e => by cases e), Lib.hid (by simp; omega), HX5, HR5, HB5, HZ5⟩
                case measure => simp [intOf]; omega
              · rw [decide_eq_false q3] at hlt2
                have HI1 : Hid (layR (⟨kk, ⟨node, addr⟩, rm, i⟩ : Rw NdA) false d.n.l = (ls ++ [x]) ++ layR (⟨kk, ⟨node, addr⟩, rm, i⟩ : Rw NdA) false (d.n.l.drop (k + 1))) := Lib.hid (by
                  rw [hinv.out, HD.out, layR, if_neg (by rw [hsm]; simp), if_neg (by rw [show ltT kk x.key = false from hlt2]; simp), List.append_assoc]
                  rfl)
                have HMN : Hid (mk = i ∧ ∀ y ∈ d.n.l.take (k + 1), y.key ≠ kk) := Lib.hid (hmkN (by first | rfl | trivial))
                clear hsm hlt2 hms hgap q0 hmkN hne
                obtain ⟨y1, hit⟩ := HF'.out wr hb.out
                obtain ⟨e0, e1, e2, e3⟩ := nd_cells hit
                clear hit
                go_wp2_with (at_builtin; refine wpList_append_nd rfl (.tmp 93) (.tmp 101) rfl (X + 1) _ (ls) rfl ?qa wr.heap.size x rfl ?qb ?qd ?qc ?_)
                case qa => exact hrow.out.below ((Below.refl _ _).alloc (Nat.le_refl _) _)
                case qb => exact nd_new wr x _
                case qd => omega
                case qc => (try simp); omega
                refine Lib.hid ?_
                intro vW4 W4 hown hgr
                have hbx := ndRow.snoc hrow.out (Below.refl _ _) (by (try simp); omega) hgr
                have HB4 := Lib.hid (hb.out.trans (hbx.mono (by omega)))
                have HR4 := Lib.hid hown
                have HX4 : Hid (W4.heap[X]? = some (.cells #[.int .i64 node, .string addr, .int .u64 (mk : Int), .int .u64 (i : Int)] TNd (0, 0))) := Lib.hid ((hbx.block X (by omega)).trans hxb.out)
                have HZ4 : Hid (X < W4.heap.size) := Lib.hid (by have := hbx.size; omega)
                clear hown hgr hbx y1 e0 e1 e2 e3 z0 z1 z2 z3
                go_wp2
                go_roundw
                case rel => exact ⟨k + 1, mk, false, ls ++ [x], by omega, by go_num, rfl, HI1, Lib.hid (fun _ => HMN.out), Lib.hid (by simp; omega), HX4, HR4, HB4, HZ4⟩
                case measure => simp [intOf]; omega
        · have hkL : k = L := by omega
          have hdk : d.n.l.drop k = [] := List.drop_eq_nil_of_le (by rw [HL.out]; omega)
          have htk : d.n.l.take k = d.n.l := List.take_of_length_le (by rw [HL.out]; omega)
          have hI := hinv.out
          rw [hdk] at hI
          have hd := HH.out.below (by rw [HY.out]; exact hb.out)
          have hcL := hd.cells.2.1
          rw [HL.out] at hcL
          clear hd hdk
          cases bb with
          | true =>
            have hMM : layR (⟨kk, ⟨node, addr⟩, rm, i⟩ : Rw NdA) false d.n.l = ls := by
              rw [hI]; simp [layR]
            obtain ⟨M, hM⟩ : ∃ M, ls = M := ⟨_, rfl⟩
            have hrz := hrow.out
            rw [hM] at hMM hrz
            have hd2 := HH.out.below (w' := wr) (by rw [HY.out]; exact hb.out)
            have hcz := hd2.cells.2.1
            rw [HL.out] at hcz
            have z := hd2.froz 1
            have hl := hd2.lt
            obtain ⟨A9, c9, rfl, k1, k2, k3, k4⟩ := SK.of_row ndC_len hrz
            have hset := (hd2.narrow (S' := fun k => S k ∨ Y ≤ k) (fun _ _ z => .inl (HSs.out _ z)) (fun k z => z.elim (HLo.out k) (Nat.le_trans HTop.out))).set1 (A := A9) (c := c9) (l := M) ⟨k1, fun b off e _ => ⟨.inr (by have := k4 b off e; omega), by have := k4 b off e; omega⟩, k2, k3⟩
            have HRs := Lib.hid (rdraise1_any i hset)
            have HB5 : Hid (But (· = B) W0 (wr.setCell ⟨B, 1, none⟩ (.slice A9 M.length c9))) := Lib.hid ((But.of_below (by rw [HY.out]; exact hb.out)).trans (But.set (S := (· = B)) wr (p := ⟨B, 1, none⟩) rfl (.slice A9 M.length c9)))
            have HMM := Lib.hid hMM
            clear hset k1 k4 hd2 hMM hM
            go_wp2_with fail
            refine HRs.out.mono ?_
            rintro e w2 ⟨rfl, hd3, hb3⟩
            have HD3 := Lib.hid hd3
            have HB6 := Lib.hid (HB5.out.trans hb3)
            clear hd3 hb3
            go_wp2
            go_ret
            have HOk4 := HOk3.out
            rw [HMM.out] at HOk4
            rw [HY.out, HMM.out]
            exact ⟨rfl, ⟨HOk4, _, _, _, _, _, _, _, HD3.out⟩, HB6.out⟩
          | false =>
            obtain ⟨hmi, hno⟩ := hmk.out (by first | rfl | trivial)
            rw [htk] at hno
            have hrm2 : mk = rm := by rw [hmi, ← HRm.out]; exact (made_none (t := d.n) hno).symm
            have hxb2 := hxb.out
            rw [hrm2] at hxb2
            have z0 := cellsN hxb2 0 _ rfl
            have z1 := cellsN hxb2 1 _ rfl
            have z2 := cellsN hxb2 2 _ rfl
            have z3 := cellsN hxb2 3 _ rfl
            clear hxb2 htk
            go_wp2_with (at_builtin; refine wpList_append_nd rfl (.tmp 105) (.tmp 107) rfl (X + 1) _ (ls) rfl ?qa wr.heap.size (⟨kk, ⟨node, addr⟩, rm, i⟩ : Rw NdA) rfl ?qb ?qd ?qc ?_)
            case qa => exact hrow.out.below ((Below.refl _ _).alloc (Nat.le_refl _) _)
            case qb => exact nd_new wr (⟨kk, ⟨node, addr⟩, rm, i⟩ : Rw NdA) _
            case qd => omega
            case qc => (try simp); omega
            refine Lib.hid ?_
            intro vW4 W4 hown hgr
            have hbx := ndRow.snoc hrow.out (Below.refl _ _) (by (try simp); omega) hgr
            have HB4 := Lib.hid (hb.out.trans (hbx.mono (by omega)))
            have HR4 := Lib.hid hown
            clear hown hgr hbx z0 z1 z2 z3 hcL
            have hMM : layR (⟨kk, ⟨node, addr⟩, rm, i⟩ : Rw NdA) false d.n.l = ls ++ [(⟨kk, ⟨node, addr⟩, rm, i⟩ : Rw NdA)] := by
              rw [hI]; simp [layR]
            obtain ⟨M, hM⟩ : ∃ M, ls ++ [(⟨kk, ⟨node, addr⟩, rm, i⟩ : Rw NdA)] = M := ⟨_, rfl⟩
            have hrz := HR4.out
            rw [hM] at hMM hrz
            have hd2 := HH.out.below (w' := W4) (by rw [HY.out]; exact HB4.out)
            have hcz := hd2.cells.2.1
            rw [HL.out] at hcz
            have z := hd2.froz 1
            have hl := hd2.lt
            obtain ⟨A9, c9, rfl, k1, k2, k3, k4⟩ := SK.of_row ndC_len hrz
            have hset := (hd2.narrow (S' := fun k => S k ∨ Y ≤ k) (fun _ _ z => .inl (HSs.out _ z)) (fun k z => z.elim (HLo.out k) (Nat.le_trans HTop.out))).set1 (A := A9) (c := c9) (l := M) ⟨k1, fun b off e _ => ⟨.inr (by have := k4 b off e; omega), by have := k4 b off e; omega⟩, k2, k3⟩
            have HRs := Lib.hid (rdraise1_any i hset)
            have HB5 : Hid (But (· = B) W0 (W4.setCell ⟨B, 1, none⟩ (.slice A9 M.length c9))) := Lib.hid ((But.of_below (by rw [HY.out]; exact HB4.out)).trans (But.set (S := (· = B)) W4 (p := ⟨B, 1, none⟩) rfl (.slice A9 M.length c9)))
            have HMM := Lib.hid hMM
            clear hset k1 k4 hd2 hMM hM
            go_wp2_with fail
            refine HRs.out.mono ?_
            rintro e w2 ⟨rfl, hd3, hb3⟩
            have HD3 := Lib.hid hd3
            have HB6 := Lib.hid (HB5.out.trans hb3)
            clear hd3 hb3
            go_wp2
            go_ret
            have HOk4 := HOk3.out
            rw [HMM.out] at HOk4
            rw [HY.out, HMM.out]
            exact ⟨rfl, ⟨HOk4, _, _, _, _, _, _, _, HD3.out⟩, HB6.out⟩
  · rw [HDF.out hf]
    have HD1 : Hid (decide (m ≤ L) = true) := Lib.hid (decide_eq_true (by omega))
    rw [hb] at HT
    clear hb hf hth hL hnm hok
    rename World => W0
    go_enter Tryz.func36, Tryz.ntmps36
    go_wp2_with fail
    have hre : ∀ w : World, ((fun a b : World => Below a.heap.size a b)) w w := (fun w => Below.refl _ w)
    have hrd : ∀ (f : Nat → Bool) w i, i ≠ 2 → (fun (_ : Nat → Bool) (w2 : World) => Below W0.heap.size W0 w2) f w → (fun (_ : Nat → Bool) (w2 : World) => Below W0.heap.size W0 w2) (Go.Rel.upd f i) w := (fun _ _ _ _ h => h)
    refine Go.Rel.wp_tab (by kernel_rfl) (by kernel_rfl) (fun (_ : Nat → Bool) (w2 : World) => Below W0.heap.size W0 w2) ((fun a b : World => Below a.heap.size a b)) hre ((fun _ _ _ h k => h.trans (k.mono h.size))) ((⟨rfl, rfl, rfl, Nat.le_refl _, fun _ _ => rfl⟩)) ⟨rfl, rfl, rfl, Nat.le_refl _, fun _ _ => rfl⟩ (rdnC B node m A1 L c1) (fun _ _ _ => True) (fun i => ([] : List Nat).contains i) (fun i => ([2, 8, 13, 14] : List Nat).contains i) (by kernel_rfl) (fun _ _ _ _ h _ => h) 2 rfl hrd ?_ (Go.Rel.AllOf.get ?_) ?_
    · repeat (refine .cons (by first | exact Go.Rel.pure_sp rfl | exact Go.Rel.pure_yes (by kernel_rfl) (fun _ => by kernel_rfl) | exact Go.Rel.pure_no (by kernel_rfl) rfl) ?_)
      exact .nil
    · refine ⟨?_, ?_, ?_, ?_, trivial⟩
      · refine SpecOk.call 79 #[.pointer (some ⟨B, 0, none⟩), .int .i64 node] rfl (by kernel_rfl) (fun _ => by kernel_rfl) fun _ w' hI _ _ _ _ => ?_
        refine (HT.out w' hI).mono ?_
        rintro e2 w2 ⟨rfl, rfl⟩
        exact ⟨_, rfl, (Below.refl _ _), hI, rfl⟩
      · exact SpecOk.ld hrd hre (q := .pointer (some ⟨B, 1, none⟩)) (h := fun _ w' hI _ _ _ _ => by obtain ⟨hz1, hz2, -⟩ := (HIs.out _ hI).cells; rw [HL.out] at hz2; go_simp; rfl)
      · exact SpecOk.ld hrd hre (q := .pointer (some ⟨B, 0, none⟩)) (h := fun _ w' hI _ _ _ _ => by obtain ⟨hz1, hz2, -⟩ := (HIs.out _ hI).cells; rw [HL.out] at hz2; go_simp; rfl)
      · refine SpecOk.gen (fun e => [(31, .int .i64 (L : Int)), (35, .int .i64 (m : Int))]) rfl rfl (fun _ => by kernel_rfl) fun f w' e hI hf hdesc hanc hle hX K hK => ?_
        have d1 := HD1.out
        go_simp
        exact hK _ _ (hre _) (hrd f w' 14 (by decide) hI) rfl
    · intro f W1 e hall hJ hle hv
      have v9 := hv 15 rfl
      simp only [Go.Rel.finL, List.setIfInBounds_toArray, List.set_cons_succ, List.set_cons_zero]
      rw [show e 15 = .bool true from v9]
      have HJ := Lib.hid hJ
      clear hv hall hle hJ v9 HT HIs
      go_wp2
      go_ret
      have z9 := KEEP.out _ HJ.out
      rw [HY.out] at z9
      exact ⟨rfl, z9⟩
end
end Go.Proofs.YtilkbfmaofmjoaaGreatDoor
namespace Go.Proofs.YtilkbfmaofmjoaaGreatDoor
open Go.RowKit
set_option linter.unusedSimpArgs false
set_option linter.unusedVariables false
section
variable {base : Nat} {S : Nat → Prop} {w : World} {B : Nat} {A1 A2 A3 : Option Addr} {c1 c2 c3 m : Nat} {l2 : List (Rw SvW)} {d : Ro}
set_option maxHeartbeats 4000000 in
set_option maxRecDepth 100000 in
theorem rdwrongs_any (x : Rw SvW) (hok : RoOk m d) (hx : SvIn w x) (h : RdIs base S w B A1 A2 A3 c1 c2 c3 m l2 d) : Calls Tryz.prog 83 #[.pointer (some ⟨B, 0, none⟩), svV x] w fun e w' => e = .returned (.int .i64 (d.wrongS x.val.a : Int)) ∧ Below w.heap.size w w' := by
  have B0 := Lib.hid (below1 w #[.int .i64 x.val.a.node, .string x.val.a.id, .string x.val.a.name, .slice x.val.A x.val.n x.val.c, .int .i64 x.val.a.port, .int .u64 (x.made : Int), .int .u64 (x.ix : Int)] TSv)
  have H1 := Lib.hid (fun W => rright_any x.val.a.id W hx.id)
  have H2 := Lib.hid (fun W => rright_any x.val.a.name W hx.name)
  have H3 := Lib.hid (rtags_any x.val.A x.val.n x.val.c x.val.a.tags (w.alloc (.cells #[.int .i64 x.val.a.node, .string x.val.a.id, .string x.val.a.name, .slice x.val.A x.val.n x.val.c, .int .i64 x.val.a.port, .int .u64 (x.made : Int), .int .u64 (x.ix : Int)] TSv)) (hx.tx.below B0.out).rs hx.small (Nat.le_trans hx.tx.le hx.tx.max))
  have H4 := Lib.hid (fun W (hW : Below w.heap.size w W) => rdthere_any x.val.a.node hok (h.below hW))
  clear h hok hx
  unfold svV
  by_cases n0 : x.val.a.node < 0
  · have hd : d.wrongS x.val.a = 2 := by unfold Ro.wrongS; rw [if_pos (.inl (by rw [← Bool.not_eq_true, nodeB_iff]; omega))]
    rw [hd]
    clear hd H1 H2 H3 H4
    go_enter Tryz.func83, Tryz.ntmps83
    go_wp2
    go_ret
    exact ⟨rfl, B0.out⟩
  by_cases n7 : 7 < x.val.a.node
  · have hd : d.wrongS x.val.a = 2 := by unfold Ro.wrongS; rw [if_pos (.inl (by rw [← Bool.not_eq_true, nodeB_iff]; omega))]
    rw [hd]
    clear hd H1 H2 H3 H4
    go_enter Tryz.func83, Tryz.ntmps83
    go_wp2
    go_ret
    exact ⟨rfl, B0.out⟩
  by_cases p0 : x.val.a.port < 0
  · have hd : d.wrongS x.val.a = 2 := by unfold Ro.wrongS; rw [if_pos (.inr (.inl p0))]
    rw [hd]
    clear hd H1 H2 H3 H4
    go_enter Tryz.func83, Tryz.ntmps83
    go_wp2
    go_ret
    exact ⟨rfl, B0.out⟩
  by_cases p1 : 65535 < x.val.a.port
  · have hd : d.wrongS x.val.a = 2 := by unfold Ro.wrongS; rw [if_pos (.inr (.inr p1))]
    rw [hd]
    clear hd H1 H2 H3 H4
    go_enter Tryz.func83, Tryz.ntmps83
    go_wp2
    go_ret
    exact ⟨rfl, B0.out⟩
  have hn : nodeB x.val.a.node = true := nodeB_iff.2 ⟨by omega, by omega⟩
  have h1 : ¬ (nodeB x.val.a.node = false ∨ x.val.a.port < 0 ∨ 65535 < x.val.a.port) := by rw [hn]; rintro (z | z | z); cases z; exact p0 z; exact p1 z
  clear hn
  cases hid : rightB x.val.a.id.data.toList with
  | false =>
    have hd : d.wrongS x.val.a = 10 := by unfold Ro.wrongS; rw [if_neg h1, if_pos (.inl hid)]
    rw [hid] at H1
    rw [hd]
    clear hd hid h1 H2 H3 H4
    go_enter Tryz.func83, Tryz.ntmps83
    go_wp2_with fail
    refine (H1.out _).mono ?_
    rintro e w2 ⟨rfl, rfl⟩
    go_wp2
    go_ret
    exact ⟨rfl, B0.out⟩
  | true =>
    rw [hid] at H1
    cases hna : rightB x.val.a.name.data.toList with
    | false =>
      have hd : d.wrongS x.val.a = 10 := by unfold Ro.wrongS; rw [if_neg h1, if_pos (.inr (.inl hna))]
      rw [hna] at H2
      rw [hd]
      clear hd hid h1 hna H3 H4
      go_enter Tryz.func83, Tryz.ntmps83
      go_wp2_with fail
      refine (H1.out _).mono ?_
      rintro e w2 ⟨rfl, rfl⟩
      go_wp2_with fail
      refine (H2.out _).mono ?_
      rintro e w2 ⟨rfl, rfl⟩
      go_wp2
      go_ret
      exact ⟨rfl, B0.out⟩
    | true =>
      rw [hna] at H2
      cases htg : tagsB x.val.a.tags with
      | false =>
        have hd : d.wrongS x.val.a = 10 := by unfold Ro.wrongS; rw [if_neg h1, if_pos (.inr (.inr htg))]
        rw [htg] at H3
        rw [hd]
        clear hd hid h1 hna htg H4
        go_enter Tryz.func83, Tryz.ntmps83
        go_wp2_with fail
        refine (H1.out _).mono ?_
        rintro e w2 ⟨rfl, rfl⟩
        go_wp2_with fail
        refine (H2.out _).mono ?_
        rintro e w2 ⟨rfl, rfl⟩
        go_wp2_with fail
        refine H3.out.mono ?_
        rintro e w2 ⟨rfl, hb⟩
        have HB := Lib.hid (B0.out.trans (hb.mono B0.out.size))
        clear hb
        go_wp2
        go_ret
        exact ⟨rfl, HB.out⟩
      | true =>
        rw [htg] at H3
        obtain ⟨er, her⟩ : ∃ er : Nat, d.wrongS x.val.a = er := ⟨_, rfl⟩
        have hd : er = if d.there x.val.a.node = false then 4 else 0 := by rw [← her]; unfold Ro.wrongS; rw [if_neg h1, if_neg (by rw [hid, hna, htg]; simp)]
        rw [her]
        obtain ⟨b, hb⟩ : ∃ b, d.there x.val.a.node = b := ⟨_, rfl⟩
        rw [hb] at hd H4
        clear hid h1 hna htg her hb
        go_enter Tryz.func83, Tryz.ntmps83
        go_wp2_with fail
        refine (H1.out _).mono ?_
        rintro e w2 ⟨rfl, rfl⟩
        go_wp2_with fail
        refine (H2.out _).mono ?_
        rintro e w2 ⟨rfl, rfl⟩
        go_wp2_with fail
        refine H3.out.mono ?_
        rintro e w2 ⟨rfl, hb⟩
        have HB := Lib.hid (B0.out.trans (hb.mono B0.out.size))
        have d0 := cellsN ((hb.block w.heap.size (by simp)).trans (heap_alloc_new w _)) 0 _ rfl
        clear hb H1 H2 H3
        go_wp2_with fail
        refine (H4.out _ HB.out).mono ?_
        rintro e w3 ⟨rfl, rfl⟩
        cases b with
        | true =>
          rw [if_neg (by simp)] at hd
          subst hd
          go_wp2
          go_ret
          exact ⟨rfl, HB.out⟩
        | false =>
          rw [if_pos rfl] at hd
          subst hd
          go_wp2
          go_ret
          exact ⟨rfl, HB.out⟩
set_option maxHeartbeats 4000000 in
set_option maxRecDepth 100000 in
theorem rdwrongc_any (x : Rw CkA) (hok : RoOk m d) (hx : CkIn x) (h : RdIs base S w B A1 A2 A3 c1 c2 c3 m l2 d) : Calls Tryz.prog 85 #[.pointer (some ⟨B, 0, none⟩), ckV x] w fun e w' => e = .returned (.int .i64 (d.wrongC x.val : Int)) ∧ Below w.heap.size w w' := by
  have B0 := Lib.hid (below1 w #[.int .i64 x.val.node, .string x.val.id, .string x.val.svc, .string x.val.note, .int .i64 x.val.status, .int .u64 (x.made : Int), .int .u64 (x.ix : Int)] TCk)
  have H1 := Lib.hid (fun W => rright_any x.val.id W hx.id)
  have H2 := Lib.hid (fun W => rright_any x.val.svc W hx.svc)
  have H4 := Lib.hid (rdthere_any x.val.node hok (h.below (below1 w #[.int .i64 x.val.node, .string x.val.id, .string x.val.svc, .string x.val.note, .int .i64 x.val.status, .int .u64 (x.made : Int), .int .u64 (x.ix : Int)] TCk)))
  have H5 := Lib.hid (rdhas_any x.val.node x.val.svc hok (h.below (below1 w #[.int .i64 x.val.node, .string x.val.id, .string x.val.svc, .string x.val.note, .int .i64 x.val.status, .int .u64 (x.made : Int), .int .u64 (x.ix : Int)] TCk)))
  have hm9 : x.val.note.size ≤ 9223372036854775807 := by have := hx.note; unfold maxLen at this; omega
  clear h hok hx
  unfold ckV
  by_cases n0 : x.val.node < 0
  · have hd : d.wrongC x.val = 2 := by unfold Ro.wrongC; rw [if_pos (.inl (by rw [← Bool.not_eq_true, nodeB_iff]; omega))]
    rw [hd]
    clear hd H1 H2 H4 H5
    go_enter Tryz.func85, Tryz.ntmps85
    go_wp2
    go_ret
    exact ⟨rfl, B0.out⟩
  by_cases n7 : 7 < x.val.node
  · have hd : d.wrongC x.val = 2 := by unfold Ro.wrongC; rw [if_pos (.inl (by rw [← Bool.not_eq_true, nodeB_iff]; omega))]
    rw [hd]
    clear hd H1 H2 H4 H5
    go_enter Tryz.func85, Tryz.ntmps85
    go_wp2
    go_ret
    exact ⟨rfl, B0.out⟩
  by_cases p0 : x.val.status < 0
  · have hd : d.wrongC x.val = 2 := by unfold Ro.wrongC; rw [if_pos (.inr (.inl p0))]
    rw [hd]
    clear hd H1 H2 H4 H5
    go_enter Tryz.func85, Tryz.ntmps85
    go_wp2
    go_ret
    exact ⟨rfl, B0.out⟩
  by_cases p1 : 3 < x.val.status
  · have hd : d.wrongC x.val = 2 := by unfold Ro.wrongC; rw [if_pos (.inr (.inr p1))]
    rw [hd]
    clear hd H1 H2 H4 H5
    go_enter Tryz.func85, Tryz.ntmps85
    go_wp2
    go_ret
    exact ⟨rfl, B0.out⟩
  have hn : nodeB x.val.node = true := nodeB_iff.2 ⟨by omega, by omega⟩
  have h1 : ¬ (nodeB x.val.node = false ∨ x.val.status < 0 ∨ 3 < x.val.status) := by rw [hn]; rintro (z | z | z); cases z; exact p0 z; exact p1 z
  clear hn
  cases hid : rightB x.val.id.data.toList with
  | false =>
    have hd : d.wrongC x.val = 10 := by unfold Ro.wrongC; rw [if_neg h1, if_pos (.inl hid)]
    rw [hid] at H1
    rw [hd]
    clear hd hid h1 H2 H4 H5
    go_enter Tryz.func85, Tryz.ntmps85
    go_wp2_with fail
    refine (H1.out _).mono ?_
    rintro e w2 ⟨rfl, rfl⟩
    go_wp2
    go_ret
    exact ⟨rfl, B0.out⟩
  | true =>
    rw [hid] at H1
    obtain ⟨bt, hbt⟩ : ∃ b, d.there x.val.node = b := ⟨_, rfl⟩
    obtain ⟨bh, hbh⟩ : ∃ b, d.has x.val.node x.val.svc = b := ⟨_, rfl⟩
    rw [hbt] at H4
    rw [hbh] at H5
    by_cases q1 : x.val.svc = noT
    · have hq : x.val.svc.toList = [] := by rw [q1]; exact noT_list
      by_cases hl : 32 < x.val.note.size
      · have hd : d.wrongC x.val = 3 := by unfold Ro.wrongC; rw [if_neg h1, if_neg (by rw [hid]; simp [q1]), if_pos hl]
        have ql : (32 : Int) < (x.val.note.size : Int) := by omega
        rw [hd]
        clear hd hid h1 H2 H4 H5 hbt hbh q1
        go_enter Tryz.func85, Tryz.ntmps85
        go_wp2_with fail
        refine (H1.out _).mono ?_
        rintro e w2 ⟨rfl, rfl⟩
        go_wp2
        go_ret
        exact ⟨rfl, B0.out⟩
      have ql : ¬ (32 : Int) < (x.val.note.size : Int) := by omega
      cases bt with
      | false =>
        have hd : d.wrongC x.val = 4 := by unfold Ro.wrongC; rw [if_neg h1, if_neg (by rw [hid]; simp [q1]), if_neg hl, if_pos (.inl hbt)]
        rw [hd]
        clear hd hid h1 H2 H5 hbt hbh q1
        go_enter Tryz.func85, Tryz.ntmps85
        go_wp2_with fail
        refine (H1.out _).mono ?_
        rintro e w2 ⟨rfl, rfl⟩
        go_wp2_with fail
        refine H4.out.mono ?_
        rintro e w2 ⟨rfl, rfl⟩
        go_wp2
        go_ret
        exact ⟨rfl, B0.out⟩
      | true =>
        have hd : d.wrongC x.val = 0 := by unfold Ro.wrongC; rw [if_neg h1, if_neg (by rw [hid]; simp [q1]), if_neg hl, if_neg (by rw [hbt]; simp [q1])]
        rw [hd]
        clear hd hid h1 H2 H5 hbt hbh q1
        go_enter Tryz.func85, Tryz.ntmps85
        go_wp2_with fail
        refine (H1.out _).mono ?_
        rintro e w2 ⟨rfl, rfl⟩
        go_wp2_with fail
        refine H4.out.mono ?_
        rintro e w2 ⟨rfl, rfl⟩
        go_wp2
        go_ret
        exact ⟨rfl, B0.out⟩
    · have hq : ¬ x.val.svc.toList = [] := fun e => q1 (text_same.1 (by rw [e, noT_list]; rfl))
      have hqi : x.val.svc.toList.isEmpty = false := by rw [Bool.eq_false_iff]; exact fun e => hq (by simpa using e)
      cases hsv : rightB x.val.svc.data.toList with
      | false =>
        have hd : d.wrongC x.val = 10 := by unfold Ro.wrongC; rw [if_neg h1, if_pos (.inr ⟨q1, hsv⟩)]
        rw [hsv] at H2
        rw [hd]
        clear hd hid h1 H4 H5 hbt hbh q1 hsv
        go_enter Tryz.func85, Tryz.ntmps85
        go_wp2_with fail
        refine (H1.out _).mono ?_
        rintro e w2 ⟨rfl, rfl⟩
        go_wp2_with fail
        refine (H2.out _).mono ?_
        rintro e w2 ⟨rfl, rfl⟩
        go_wp2
        go_ret
        exact ⟨rfl, B0.out⟩
      | true =>
        rw [hsv] at H2
        by_cases hl : 32 < x.val.note.size
        · have hd : d.wrongC x.val = 3 := by unfold Ro.wrongC; rw [if_neg h1, if_neg (by rw [hid, hsv]; simp), if_pos hl]
          have ql : (32 : Int) < (x.val.note.size : Int) := by omega
          rw [hd]
          clear hd hid h1 H4 H5 hbt hbh q1 hsv
          go_enter Tryz.func85, Tryz.ntmps85
          go_wp2_with fail
          refine (H1.out _).mono ?_
          rintro e w2 ⟨rfl, rfl⟩
          go_wp2_with fail
          refine (H2.out _).mono ?_
          rintro e w2 ⟨rfl, rfl⟩
          go_wp2
          go_ret
          exact ⟨rfl, B0.out⟩
        have ql : ¬ (32 : Int) < (x.val.note.size : Int) := by omega
        cases bt with
        | false =>
          have hd : d.wrongC x.val = 4 := by unfold Ro.wrongC; rw [if_neg h1, if_neg (by rw [hid, hsv]; simp), if_neg hl, if_pos (.inl hbt)]
          rw [hd]
          clear hd hid h1 H5 hbt hbh q1 hsv
          go_enter Tryz.func85, Tryz.ntmps85
          go_wp2_with fail
          refine (H1.out _).mono ?_
          rintro e w2 ⟨rfl, rfl⟩
          go_wp2_with fail
          refine (H2.out _).mono ?_
          rintro e w2 ⟨rfl, rfl⟩
          go_wp2_with fail
          refine H4.out.mono ?_
          rintro e w2 ⟨rfl, rfl⟩
          go_wp2
          go_ret
          exact ⟨rfl, B0.out⟩
        | true =>
          cases bh with
          | false =>
            have hd : d.wrongC x.val = 4 := by unfold Ro.wrongC; rw [if_neg h1, if_neg (by rw [hid, hsv]; simp), if_neg hl, if_pos (.inr ⟨q1, hbh⟩)]
            rw [hd]
            clear hd hid h1 hbt hbh q1 hsv
            go_enter Tryz.func85, Tryz.ntmps85
            go_wp2_with fail
            refine (H1.out _).mono ?_
            rintro e w2 ⟨rfl, rfl⟩
            go_wp2_with fail
            refine (H2.out _).mono ?_
            rintro e w2 ⟨rfl, rfl⟩
            go_wp2_with fail
            refine H4.out.mono ?_
            rintro e w2 ⟨rfl, rfl⟩
            go_wp2_with fail
            refine H5.out.mono ?_
            rintro e w2 ⟨rfl, rfl⟩
            go_wp2
            go_ret
            exact ⟨rfl, B0.out⟩
          | true =>
            have hd : d.wrongC x.val = 0 := by unfold Ro.wrongC; rw [if_neg h1, if_neg (by rw [hid, hsv]; simp), if_neg hl, if_neg (by rw [hbt, hbh]; simp)]
            rw [hd]
            clear hd hid h1 hbt hbh q1 hsv
            go_enter Tryz.func85, Tryz.ntmps85
            go_wp2_with fail
            refine (H1.out _).mono ?_
            rintro e w2 ⟨rfl, rfl⟩
            go_wp2_with fail
            refine (H2.out _).mono ?_
            rintro e w2 ⟨rfl, rfl⟩
            go_wp2_with fail
            refine H4.out.mono ?_
            rintro e w2 ⟨rfl, rfl⟩
            go_wp2_with fail
            refine H5.out.mono ?_
            rintro e w2 ⟨rfl, rfl⟩
            go_wp2
            go_ret
            exact ⟨rfl, B0.out⟩
end
end Go.Proofs.YtilkbfmaofmjoaaGreatDoor
namespace Go.Proofs.YtilkbfmaofmjoaaGreatDoor
open Go.RowKit
set_option linter.unusedSimpArgs false
set_option linter.unusedVariables false
theorem less_other (x y : ByteArray) (b : Bool) (h1 : ltT y x = b) (h2 : (x.toList == y.toList) = false) : Op.bytesLess x.toList y.toList = !b := by
  cases b with
  | true => exact ltT_asymm h1
  | false =>
    cases e : ltT x y
    · exact absurd (ltT_tri e h1) (text_other.1 h2)
    · exact e
theorem layR_mem {α : Type} {r x : Rw α} : ∀ {b : Bool} {l : List (Rw α)}, x ∈ layR r b l → x = r ∨ x ∈ l
  | b, [], h => by
    rw [layR] at h
    split at h
    · cases h
    · exact .inl (List.mem_singleton.1 h)
  | b, y :: l, h => by
    rw [layR] at h
    split at h
    · rcases List.mem_cons.1 h with h | h
      · exact .inl h
      · exact (layR_mem h).imp id (List.mem_cons_of_mem _)
    · split at h
      · rcases List.mem_cons.1 h with h | h
        · exact .inl h
        · rcases List.mem_cons.1 h with h | h
          · exact .inr (by rw [h]; simp)
          · exact (layR_mem h).imp id (List.mem_cons_of_mem _)
      · rcases List.mem_cons.1 h with h | h
        · exact .inr (by rw [h]; simp)
        · exact (layR_mem h).imp id (List.mem_cons_of_mem _)
theorem SR.of_map {α β : Type} {f : α → β} {l : List (Rw α)} (h : SR (l.map (rwMap f))) : SR l := by
  unfold SR at h ⊢
  rw [List.pairwise_map] at h
  exact h
theorem made_map {α β : Type} {f : α → β} (l : List (Rw α)) (k : ByteArray) (i : Nat) : ((getR (l.map (rwMap f)) k).map (·.made)).getD i = ((getR l k).map (·.made)).getD i := by
  rw [getR_map]
  cases getR l k <;> rfl
section
variable {base : Nat} {S : Nat → Prop} {w : World} {B : Nat} {A1 A2 A3 : Option Addr} {c1 c2 c3 m : Nat} {l2 : List (Rw SvW)} {d : Ro}
theorem RdIs.same2 (h : RdIs base S w B A1 A2 A3 c1 c2 c3 m l2 d) (hok : RoOk m d) (node : Int) (id : ByteArray) : ∀ y ∈ l2, (y.key.toList == (keyO node id).toList) = (decide (y.val.a.node = node) && (y.val.a.id.toList == id.toList)) := fun y hy => by
  have : rwMap (fun v : SvW => v.a) y ∈ d.s.l := by rw [← h.eq]; exact List.mem_map_of_mem hy
  exact hok.sv_same this
theorem RdIs.lt2 (h : RdIs base S w B A1 A2 A3 c1 c2 c3 m l2 d) (hok : RoOk m d) {node : Int} (hn : nodeB node = true) (id : ByteArray) : ∀ y ∈ l2, ltT (keyO node id) y.key = (decide (node < y.val.a.node) || (decide (node = y.val.a.node) && ltT id y.val.a.id)) := fun y hy => by
  have : rwMap (fun v : SvW => v.a) y ∈ d.s.l := by rw [← h.eq]; exact List.mem_map_of_mem hy
  exact hok.sv_lt hn this
theorem RdIs.rise2 (h : RdIs base S w B A1 A2 A3 c1 c2 c3 m l2 d) (hok : RoOk m d) : SR l2 := SR.of_map (f := fun v : SvW => v.a) (by rw [h.eq]; exact hok.sok.rise)
theorem RdIs.service (h : RdIs base S w B A1 A2 A3 c1 c2 c3 m l2 d) {x : Rw SvW} {i rm : Nat} {kk : ByteArray} (hk : keyO x.val.a.node x.val.a.id = kk) (hw : d.wrongS x.val.a = 0) (hf : d.s.fullB kk = false) (hr : ((getR l2 kk).map (·.made)).getD i = rm) : d.service x.val.a i = (0, { d with s := ({ d.s with l := (layR (⟨kk, x.val, rm, i⟩ : Rw SvW) false l2).map (rwMap (·.a)) } : Tb SvA).raise i }) := by
  unfold Ro.service SvA.key
  rw [hw, if_neg (by simp)]
  simp only [hk]
  unfold layE Tb.putT
  rw [hf]
  unfold Tb.put Tb.row
  have h1 : ((getR d.s.l kk).map (·.made)).getD i = rm := by rw [← h.eq, made_map, hr]
  rw [h1, ← layR_map, h.eq]
  rfl
theorem Ro.check_is {x : Rw CkA} {i rm : Nat} {kk : ByteArray} (hk : keyO x.val.node x.val.id = kk) (hw : d.wrongC x.val = 0) (hf : d.c.fullB kk = false) (hr : ((getR d.c.l kk).map (·.made)).getD i = rm) : d.check x.val i = (0, { d with c := ({ d.c with l := layR (⟨kk, x.val, rm, i⟩ : Rw CkA) false d.c.l } : Tb CkA).raise i }) := by
  unfold Ro.check CkA.key
  rw [hw, if_neg (by simp)]
  simp only [hk]
  unfold layE Tb.putT
  rw [hf]
  unfold Tb.put Tb.row
  rw [hr]
  rfl
end
end Go.Proofs.YtilkbfmaofmjoaaGreatDoor
namespace Go.Proofs.YtilkbfmaofmjoaaGreatDoor
open Go.RowKit Go.Rel
set_option linter.unusedSimpArgs false
set_option linter.unusedVariables false
def rdaE (B : Nat) (X : Nat) (x : Rw SvW) (m : Nat) (A2 : Option Addr) (L : Nat) (c2 : Nat) : Nat → Value
  | 0 => .pointer (some ⟨B, 0, none⟩)
  | 1 => .pointer (some ⟨X, 0, none⟩)
  | 2 => .int .i64 x.val.a.node
  | 3 => .pointer (some ⟨X, 1, none⟩)
  | 4 => .string x.val.a.id
  | 5 => .bool true
  | 6 | 7 | 18 => .bool false
  | _ => undef
section
variable {base : Nat} {S : Nat → Prop} {w : World} {B : Nat} {A1 A2 A3 : Option Addr} {c1 c2 c3 m : Nat} {l2 : List (Rw SvW)} {d : Ro}
set_option maxHeartbeats 16000000 in
set_option maxRecDepth 100000 in
theorem rdservice_a (x : Rw SvW) (i : Nat) (hok : RoOk m d) (hx : SvIn w x) (ht : TgAt (fun k => k < base) w x.val) (hw : d.wrongS x.val.a = 0) (hb : d.has x.val.a.node x.val.a.id = true) (h : RdIs base S w B A1 A2 A3 c1 c2 c3 m l2 d) (hi : i < 18446744073709551616) : Calls Tryz.prog 38 #[.pointer (some ⟨B, 0, none⟩), svV x, .int .u64 (i : Int)] w fun e w' => e = .returned (.int .i64 0) ∧ RdAt base (fun k => S k ∨ w.heap.size ≤ k) w' B m (d.service x.val.a i).2 ∧ But (· = B) w w' := by
  have KEEP : Hid (∀ w', Below w.heap.size w w' → RdIs base (fun k => S k ∨ w.heap.size ≤ k) w' B A1 A2 A3 c1 c2 c3 m l2 d ∧ But (· = B) w w') := Lib.hid fun w' hb => ⟨(h.below hb).narrow (fun _ _ z => .inl z) (fun k z => z.elim (h.lo k) (Nat.le_trans h.top)), But.of_below hb⟩
  have b0 := below1 w #[.int .i64 x.val.a.node, .string x.val.a.id, .string x.val.a.name, .slice x.val.A x.val.n x.val.c, .int .i64 x.val.a.port, .int .u64 (x.made : Int), .int .u64 (x.ix : Int)] TSv
  have k0 := heap_alloc_new w (.cells #[.int .i64 x.val.a.node, .string x.val.a.id, .string x.val.a.name, .slice x.val.A x.val.n x.val.c, .int .i64 x.val.a.port, .int .u64 (x.made : Int), .int .u64 (x.ix : Int)] TSv)
  obtain ⟨X, hX⟩ : ∃ X, w.heap.size = X := ⟨_, rfl⟩
  obtain ⟨W1, hW1⟩ : ∃ W1, w.alloc (.cells #[.int .i64 x.val.a.node, .string x.val.a.id, .string x.val.a.name, .slice x.val.A x.val.n x.val.c, .int .i64 x.val.a.port, .int .u64 (x.made : Int), .int .u64 (x.ix : Int)] TSv) = W1 := ⟨_, rfl⟩
  rw [hW1] at b0 k0
  rw [hX] at k0
  have HWr := Lib.hid (by
    have := rdwrongs_any x hok (hx.below b0) (h.below b0)
    unfold svV at this
    rw [hw] at this
    exact this : Calls Tryz.prog 83 #[.pointer (some ⟨B, 0, none⟩), .agg #[.int .i64 x.val.a.node, .string x.val.a.id, .string x.val.a.name, .slice x.val.A x.val.n x.val.c, .int .i64 x.val.a.port, .int .u64 (x.made : Int), .int .u64 (x.ix : Int)]] W1 fun e w' => e = .returned (.int .i64 0) ∧ Below W1.heap.size W1 w')
  have HT9 := Lib.hid (fun W (hW : Below w.heap.size w W) => rdhas_any x.val.a.node x.val.a.id hok (h.below hW))
  have HI9 := Lib.hid (fun W (hW : Below w.heap.size w W) => h.below hW)
  rw [hb] at HT9
  have hn := (wrongS_ok.1 hw).1.node
  obtain ⟨kk, hkk⟩ : ∃ kk, keyO x.val.a.node x.val.a.id = kk := ⟨_, rfl⟩
  obtain ⟨rm, hrm⟩ : ∃ rm, ((getR l2 kk).map (·.made)).getD i = rm := ⟨_, rfl⟩
  have hf : d.s.fullB kk = false := by
    unfold Tb.fullB
    have h1 : (getR d.s.l kk).isSome = true := by rw [← hkk]; exact hb
    cases e2 : getR d.s.l kk with
    | none => rw [e2] at h1; cases h1
    | some r => rfl
  have hok3 := hok.service (x := x.val.a) hi
  rw [h.service hkk hw hf hrm] at hok3 ⊢
  have HOk3 := Lib.hid hok3
  have h64 : l2.length ≤ 64 := by rw [h.len2]; exact Nat.le_trans hok.sok.len hok.sok.most.2
  have HSame := Lib.hid (hkk ▸ h.same2 hok x.val.a.node x.val.a.id)
  have HLt2 := Lib.hid (hkk ▸ h.lt2 hok hn x.val.a.id)
  have HRise := Lib.hid (h.rise2 hok)
  have HRm := Lib.hid hrm
  have HTg := Lib.hid (fun W (hW : Below w.heap.size w W) => ht.below hW)
  have hm1 := hok.most.2
  obtain ⟨Y, hY⟩ : ∃ Y, w.heap.size = Y := ⟨_, rfl⟩
  have HY := Lib.hid hY
  have hBY : B < Y := by rw [← hY]; exact h.lt
  have HTop : Hid (base ≤ Y) := Lib.hid (by rw [← hY]; exact h.top)
  obtain ⟨S0, hS0⟩ : ∃ S0 : Nat → Prop, S0 = fun k => S k ∧ k < Y := ⟨_, rfl⟩
  have HH : Hid (RdIs base S0 w B A1 A2 A3 c1 c2 c3 m l2 d) := Lib.hid (h.narrow (fun k hk z => by rw [hS0]; exact ⟨z, by omega⟩) (fun k z => h.lo k (by rw [hS0] at z; exact z.1)))
  have HLt : Hid (∀ k, S0 k → k < Y) := Lib.hid (fun k z => by rw [hS0] at z; exact z.2)
  have HSs : Hid (∀ k, S0 k → S k) := Lib.hid (fun k z => by rw [hS0] at z; exact z.1)
  have HLo : Hid (∀ k, S k → base ≤ k) := Lib.hid h.lo
  obtain ⟨L, hL⟩ : ∃ L, l2.length = L := ⟨_, rfl⟩
  rw [hL] at h64
  have HL := Lib.hid hL
  have HB1 := Lib.hid b0
  have HK1 := Lib.hid k0
  have HW1 := Lib.hid hW1
  have HX := Lib.hid hX
  have HOkR := Lib.hid hok
  have hYX : Y ≤ X := by omega
  unfold svV
  clear h hok hx ht hw hb hi b0 k0 hW1 hX hL hn hkk hrm hf hok3 hS0 hY
  go_enter Tryz.func38, Tryz.ntmps38
  go_wp2_with fail
  rw [HW1.out, HX.out]
  refine HWr.out.mono ?_
  rintro e W2 ⟨rfl, hb⟩
  have HB2 := Lib.hid (HB1.out.trans (hb.mono HB1.out.size))
  have hx1 := block_lt HK1.out
  have hkx := (hb.block X hx1).trans HK1.out
  have HKx := Lib.hid hkx
  have HLx := Lib.hid (block_lt hkx)
  have HT := Lib.hid (fun W (hW : Below W2.heap.size W2 W) => HT9.out W (HB2.out.trans (hW.mono HB2.out.size)))
  have HIs := Lib.hid (fun W (hW : Below W2.heap.size W2 W) => HI9.out W (HB2.out.trans (hW.mono HB2.out.size)))
  clear hb hx1 hkx HWr HT9 HI9
  go_wp2_with fail
  have hre : ∀ w : World, ((fun a b : World => Below a.heap.size a b)) w w := (fun w => Below.refl _ w)
  have hrd : ∀ (f : Nat → Bool) w i, i ≠ 5 → (fun (_ : Nat → Bool) (w2 : World) => Below W2.heap.size W2 w2) f w → (fun (_ : Nat → Bool) (w2 : World) => Below W2.heap.size W2 w2) (Go.Rel.upd f i) w := (fun _ _ _ _ h => h)
  refine Go.Rel.wp_tab (by kernel_rfl) (by kernel_rfl) (fun (_ : Nat → Bool) (w2 : World) => Below W2.heap.size W2 w2) ((fun a b : World => Below a.heap.size a b)) hre ((fun _ _ _ h k => h.trans (k.mono h.size))) ((⟨rfl, rfl, rfl, Nat.le_refl _, fun _ _ => rfl⟩)) ⟨rfl, rfl, rfl, Nat.le_refl _, fun _ _ => rfl⟩ (rdaE B X x m A2 L c2) (fun _ _ _ => True) (fun i => ([] : List Nat).contains i) (fun i => ([2, 4, 5] : List Nat).contains i) (by kernel_rfl) (fun _ _ _ _ h _ => h) 5 rfl hrd ?_ (Go.Rel.AllOf.get ?_) ?_
  · iterate 2 refine .cons (Go.Rel.pure_yes (by kernel_rfl) (fun _ => by kernel_rfl)) ?_
    iterate 1 refine .cons (Go.Rel.pure_sp rfl) ?_
    iterate 1 refine .cons (Go.Rel.pure_yes (by kernel_rfl) (fun _ => by kernel_rfl)) ?_
    iterate 2 refine .cons (Go.Rel.pure_sp rfl) ?_
    iterate 2 refine .cons (Go.Rel.pure_yes (by kernel_rfl) (fun _ => by kernel_rfl)) ?_
    iterate 10 refine .cons (Go.Rel.pure_no (by kernel_rfl) rfl) ?_
    iterate 1 refine .cons (Go.Rel.pure_yes (by kernel_rfl) (fun _ => by kernel_rfl)) ?_
    exact .nil
  · refine ⟨?_, ?_, ?_, trivial⟩
    · exact SpecOk.ld hrd hre (q := .pointer (some ⟨X, 0, none⟩)) (h := fun _ w' hI _ _ _ _ => by have cx := sv_blk ((hI.block X HLx.out).trans HKx.out); go_simp; rfl)
    · exact SpecOk.ld hrd hre (q := .pointer (some ⟨X, 1, none⟩)) (h := fun _ w' hI _ _ _ _ => by have cx := sv_blk ((hI.block X HLx.out).trans HKx.out); go_simp; rfl)
    · refine SpecOk.call 84 #[.pointer (some ⟨B, 0, none⟩), .int .i64 x.val.a.node, .string x.val.a.id] rfl (by kernel_rfl) (fun _ => by kernel_rfl) fun _ w' hI _ _ _ _ => ?_
      refine (HT.out w' hI).mono ?_
      rintro e2 w2 ⟨rfl, rfl⟩
      exact ⟨_, rfl, (Below.refl _ _), hI, rfl⟩
  · intro f W3 e hall hJ hle hv
    have v9 := hv 18 rfl
    simp only [Go.Rel.finL, List.setIfInBounds_toArray, List.set_cons_succ, List.set_cons_zero]
    rw [show e 18 = .bool false from v9]
    have HB3 := Lib.hid (HB2.out.trans (hJ.mono HB2.out.size))
    have hx3 := (hJ.block X HLx.out).trans HKx.out
    clear hv hall hle hJ v9 HT HIs
    have z5 := cellsN hx3 5 _ rfl
    have z6 := cellsN hx3 6 _ rfl
    have g5 := blk_froz hx3 5
    have g6 := blk_froz hx3 6
    have hxl := block_lt hx3
    have k4 : (W3.setCell ⟨X, 5, none⟩ (.int .u64 (i : Int))).heap[X]? = some (.cells #[.int .i64 x.val.a.node, .string x.val.a.id, .string x.val.a.name, .slice x.val.A x.val.n x.val.c, .int .i64 x.val.a.port, .int .u64 (i : Int), .int .u64 (x.ix : Int)] TSv (0, 0)) := block_set hx3 5 _
    have k5 : ((W3.setCell ⟨X, 5, none⟩ (.int .u64 (i : Int))).setCell ⟨X, 6, none⟩ (.int .u64 (i : Int))).heap[X]? = some (.cells #[.int .i64 x.val.a.node, .string x.val.a.id, .string x.val.a.name, .slice x.val.A x.val.n x.val.c, .int .i64 x.val.a.port, .int .u64 (i : Int), .int .u64 (i : Int)] TSv (0, 0)) := block_set k4 6 _
    have g6' := blk_froz k4 6
    obtain ⟨W5, hW5⟩ : ∃ W5, (W3.setCell ⟨X, 5, none⟩ (.int .u64 (i : Int))).setCell ⟨X, 6, none⟩ (.int .u64 (i : Int)) = W5 := ⟨_, rfl⟩
    have HB5 : Hid (Below Y w W5) := Lib.hid (by rw [← hW5, ← HY.out]; exact (HB3.out.setCell (by show _ ≤ X; rw [HY.out]; exact hYX) _).setCell (by show _ ≤ X; rw [HY.out]; exact hYX) _)
    rw [hW5] at k5
    have HX5 := Lib.hid k5
    have HS5 := Lib.hid (block_lt k5)
    have HW5 := Lib.hid hW5
    clear k4 k5 hW5 hx3
    go_wp2
    rw [HW5.out]
    clear z5 z6 g5 g6 g6' hxl
    go_loopw [8, 9, 10] (fun vv bv iv wr => ∃ (k mk : Nat) (bb : Bool) (ls : List (Rw SvW)), k ≤ L ∧ iv = .int .i64 (k : Int) ∧ bv = .bool bb ∧ Hid (layR (⟨kk, x.val, rm, i⟩ : Rw SvW) false l2 = ls ++ layR (⟨kk, x.val, rm, i⟩ : Rw SvW) bb (l2.drop k)) ∧ Hid (bb = false → mk = i ∧ ∀ y ∈ l2.take k, y.key ≠ kk) ∧ Hid (ls.length ≤ 2 * k) ∧ Hid (wr.heap[X]? = some (.cells #[.int .i64 x.val.a.node, .string x.val.a.id, .string x.val.a.name, .slice x.val.A x.val.n x.val.c, .int .i64 x.val.a.port, .int .u64 (mk : Int), .int .u64 (i : Int)] TSv (0, 0))) ∧ Hid (svRow wr (X + 1) vv ls) ∧ Hid (Below Y w wr) ∧ Hid (X < wr.heap.size)) (fun _ _ iv _ => L - (intOf iv).toNat)
    case atStart => exact ⟨0, i, false, [], Nat.zero_le _, rfl, rfl, Lib.hid rfl, Lib.hid (fun _ => ⟨rfl, fun y hy => by simp at hy⟩), Lib.hid (Nat.le_refl _), HX5, Lib.hid (rowK.nil _ _), HB5, HS5⟩
    case round =>
      obtain ⟨k, mk, bb, ls, hk, rfl, rfl, hinv, hmk, hls, hxb, hrow, hb, hxs⟩ := hrel
      have hxs9 := hxs.out
      have hls9 := hls.out
      by_cases hlt : k < L
      · have hkl : k < l2.length := by rw [HL.out]; exact hlt
        have hd := HH.out.below (by rw [HY.out]; exact hb.out)
        obtain ⟨b, off, rfl, hbl, hit⟩ := hd.r2.row.at_ hkl hkl
        have hdr : l2.drop k = l2[k] :: l2.drop (k + 1) := List.drop_eq_getElem_cons hkl
        have htk : l2.take (k + 1) = l2.take k ++ [l2[k]] := List.take_succ_eq_append_getElem hkl
        have hmem : l2[k] ∈ l2 := List.getElem_mem hkl
        have hgap := fun hg hn => made_gap (t := (⟨0, l2, 0⟩ : Tb SvW)) (i := i) (k := kk) HRise.out hkl hg hn
        obtain ⟨y, hy⟩ : ∃ y, l2[k] = y := ⟨_, rfl⟩
        rw [hy] at hdr htk hmem hit
        have hgap2 : ltT kk y.key = true → (∀ z ∈ l2.take k, z.key ≠ kk) → ((getR l2 kk).map (·.made)).getD i = i := fun h1 h2 => hgap (by show ltT kk (l2[k]).key = true; rw [hy]; exact h1) h2
        have hc0 := hd.cells.2.2.1
        rw [show (l2.length) = L from HL.out] at hc0
        have hsm := HSame.out y hmem
        have hlt2 := HLt2.out y hmem
        have hms : y.key = kk → y.made = rm := fun e => by rw [← HRm.out]; exact (made_same (t := (⟨0, l2, 0⟩ : Tb SvW)) HRise.out hmem e).symm
        have HD := Lib.hid hdr
        have HTk := Lib.hid htk
        obtain ⟨e0, e1, e2, e3, e4, e5, e6⟩ := sv_cells hit
        clear hit hd hdr htk hy hmem hgap
        by_cases q0 : y.val.a.node = x.val.a.node
        · have q : (y.val.a.node == x.val.a.node) = true := beq_iff_eq.2 q0
          have q3 : ¬ x.val.a.node < y.val.a.node := by omega
          rw [decide_eq_true q0, Bool.true_and] at hsm
          rw [decide_eq_false q3, decide_eq_true q0.symm, Bool.false_or, Bool.true_and] at hlt2
          cases hz : (y.val.a.id.toList == x.val.a.id.toList) with
          | true =>
            rw [hz] at hsm
            have hxm := hms (text_same.1 hsm)
            have HI1 : Hid (layR (⟨kk, x.val, rm, i⟩ : Rw SvW) false l2 = (ls ++ [(⟨kk, x.val, rm, i⟩ : Rw SvW)]) ++ layR (⟨kk, x.val, rm, i⟩ : Rw SvW) true (l2.drop (k + 1))) := Lib.hid (by
              rw [hinv.out, HD.out, layR, if_pos hsm, List.append_assoc]
              rfl)
            rw [hxm] at e5
            have z0 := cellsN hxb.out 0 _ rfl
            have z1 := cellsN hxb.out 1 _ rfl
            have z2 := cellsN hxb.out 2 _ rfl
            have z3 := cellsN hxb.out 3 _ rfl
            have z4 := cellsN hxb.out 4 _ rfl
            have z5 := cellsN hxb.out 5 _ rfl
            have z6 := cellsN hxb.out 6 _ rfl
            have g5 := blk_froz hxb.out 5
            have k1 : (wr.setCell ⟨X, 5, none⟩ (.int .u64 (rm : Int))).heap[X]? = some (.cells #[.int .i64 x.val.a.node, .string x.val.a.id, .string x.val.a.name, .slice x.val.A x.val.n x.val.c, .int .i64 x.val.a.port, .int .u64 (rm : Int), .int .u64 (i : Int)] TSv (0, 0)) := block_set hxb.out 5 _
            have s1 : (wr.setCell ⟨X, 5, none⟩ (.int .u64 (rm : Int))).heap.size = wr.heap.size := by simp [World.setCell]
            have b1 := below1 (wr.setCell ⟨X, 5, none⟩ (.int .u64 (rm : Int))) #[.int .i64 y.val.a.node, .string y.val.a.id, .string y.val.a.name, .slice y.val.A y.val.n y.val.c, .int .i64 y.val.a.port, .int .u64 (rm : Int), .int .u64 (y.ix : Int)] TSv
            have kA := (b1.block X (by rw [s1]; exact hxs9)).trans k1
            have sA : ((wr.setCell ⟨X, 5, none⟩ (.int .u64 (rm : Int))).alloc (.cells #[.int .i64 y.val.a.node, .string y.val.a.id, .string y.val.a.name, .slice y.val.A y.val.n y.val.c, .int .i64 y.val.a.port, .int .u64 (rm : Int), .int .u64 (y.ix : Int)] TSv)).heap.size = wr.heap.size + 1 := by simp [World.setCell]
            have hB1 := hb.out.setCell (p := ⟨X, 5, none⟩) (by exact hYX) (.int .u64 (rm : Int))
            have hBA : Hid (Below Y w ((wr.setCell ⟨X, 5, none⟩ (.int .u64 (rm : Int))).alloc (.cells #[.int .i64 y.val.a.node, .string y.val.a.id, .string y.val.a.name, .slice y.val.A y.val.n y.val.c, .int .i64 y.val.a.port, .int .u64 (rm : Int), .int .u64 (y.ix : Int)] TSv))) := Lib.hid (hB1.trans (b1.mono (by rw [s1]; have := hb.out.size; have := HY.out; omega)))
            have hRA : Hid (svRow ((wr.setCell ⟨X, 5, none⟩ (.int .u64 (rm : Int))).alloc (.cells #[.int .i64 y.val.a.node, .string y.val.a.id, .string y.val.a.name, .slice y.val.A y.val.n y.val.c, .int .i64 y.val.a.port, .int .u64 (rm : Int), .int .u64 (y.ix : Int)] TSv)) (X + 1) _ ls) := Lib.hid ((hrow.out.but (But.set (S := (· = X)) wr (p := ⟨X, 5, none⟩) rfl (.int .u64 (rm : Int))) fun j e z => by have := (hrow.out.from j e).1; have z2 : j = X := z; omega).below b1)
            have HKA := Lib.hid kA
            clear hsm hlt2 hms hgap2 kA hxm b1 k1 s1 hB1 q0
            go_wp2_with (at_builtin; refine wpList_append_sv rfl (.tmp 72) (.tmp 74) rfl (X + 1) _ (ls) rfl ?qa (wr.heap.size + 1) (⟨kk, x.val, rm, i⟩ : Rw SvW) rfl ?qb ?qd ?qc ?_)
            case qa => exact hRA.out.below ((Below.refl _ _).alloc (Nat.le_refl _) _)
            case qb => exact (by have z9 := sv_new ((wr.setCell ⟨X, 5, none⟩ (.int .u64 (rm : Int))).alloc (.cells #[.int .i64 y.val.a.node, .string y.val.a.id, .string y.val.a.name, .slice y.val.A y.val.n y.val.c, .int .i64 y.val.a.port, .int .u64 (rm : Int), .int .u64 (y.ix : Int)] TSv)) (⟨kk, x.val, rm, i⟩ : Rw SvW) TSv; rw [sA] at z9; exact z9)
            case qd => omega
            case qc => first | (rw [sA]; omega) | ((try simp); omega)
            refine Lib.hid ?_
            intro vW4 W4 hown hgr
            have hbx := svRow.snoc hRA.out (Below.refl _ _) (by first | (rw [sA]; omega) | ((try simp); omega)) hgr
            have HB4 := Lib.hid (hBA.out.trans (hbx.mono (by omega)))
            have HR4 := Lib.hid hown
            have HX4 : Hid (W4.heap[X]? = some (.cells #[.int .i64 x.val.a.node, .string x.val.a.id, .string x.val.a.name, .slice x.val.A x.val.n x.val.c, .int .i64 x.val.a.port, .int .u64 (rm : Int), .int .u64 (i : Int)] TSv (0, 0))) := Lib.hid ((hbx.block X (by omega)).trans HKA.out)
            have HZ4 : Hid (X < W4.heap.size) := Lib.hid (by have := hbx.size; rw [sA] at this; omega)
            clear hown hgr hbx hc0 e0 e1 e2 e3 e4 e5 e6 z0 z1 z2 z3 z4 z5 z6 g5 sA
            go_wp2
            go_roundw
            case rel => exact ⟨k + 1, rm, true, ls ++ [(⟨kk, x.val, rm, i⟩ : Rw SvW)], by omega, by go_num, rfl, HI1, Lib.hid (fun e => by cases e), Lib.hid (by simp; omega), HX4, HR4, HB4, HZ4⟩
            case measure => simp [intOf]; omega
          | false =>
            rw [hz] at hsm
            have hne : y.key ≠ kk := text_other.1 hsm
            have hmkN : bb = false → mk = i ∧ ∀ z ∈ l2.take (k + 1), z.key ≠ kk := fun e => ⟨(hmk.out e).1, fun z hz => by
              rw [HTk.out, List.mem_append, List.mem_singleton] at hz
              rcases hz with hz | rfl
              · exact (hmk.out e).2 z hz
              · exact hne⟩
            cases bb with
            | true =>
              have HI1 : Hid (layR (⟨kk, x.val, rm, i⟩ : Rw SvW) false l2 = (ls ++ [y]) ++ layR (⟨kk, x.val, rm, i⟩ : Rw SvW) true (l2.drop (k + 1))) := Lib.hid (by
                rw [hinv.out, HD.out, layR, if_neg (by rw [hsm]; simp), if_neg (by simp), List.append_assoc]
                rfl)
              have b1 := below1 wr #[.int .i64 y.val.a.node, .string y.val.a.id, .string y.val.a.name, .slice y.val.A y.val.n y.val.c, .int .i64 y.val.a.port, .int .u64 (y.made : Int), .int .u64 (y.ix : Int)] TSv
              have k1 := (b1.block X hxs9).trans hxb.out
              have sA : (wr.alloc (.cells #[.int .i64 y.val.a.node, .string y.val.a.id, .string y.val.a.name, .slice y.val.A y.val.n y.val.c, .int .i64 y.val.a.port, .int .u64 (y.made : Int), .int .u64 (y.ix : Int)] TSv)).heap.size = wr.heap.size + 1 := by simp
              have hBA : Hid (Below Y w (wr.alloc (.cells #[.int .i64 y.val.a.node, .string y.val.a.id, .string y.val.a.name, .slice y.val.A y.val.n y.val.c, .int .i64 y.val.a.port, .int .u64 (y.made : Int), .int .u64 (y.ix : Int)] TSv))) := Lib.hid (hb.out.trans (b1.mono (by have := hb.out.size; have := HY.out; omega)))
              have hRA : Hid (svRow (wr.alloc (.cells #[.int .i64 y.val.a.node, .string y.val.a.id, .string y.val.a.name, .slice y.val.A y.val.n y.val.c, .int .i64 y.val.a.port, .int .u64 (y.made : Int), .int .u64 (y.ix : Int)] TSv)) (X + 1) _ ls) := Lib.hid (hrow.out.below b1)
              have HKA := Lib.hid k1
              have z0 := cellsN hxb.out 0 _ rfl
              have z1 := cellsN hxb.out 1 _ rfl
              have z2 := cellsN hxb.out 2 _ rfl
              have z3 := cellsN hxb.out 3 _ rfl
              have z4 := cellsN hxb.out 4 _ rfl
              have z5 := cellsN hxb.out 5 _ rfl
              have z6 := cellsN hxb.out 6 _ rfl
              clear hsm hlt2 hms hgap2 b1 k1 hmkN hne q0
              go_wp2_with (at_builtin; refine wpList_append_sv rfl (.tmp 103) (.tmp 105) rfl (X + 1) _ (ls) rfl ?qa (wr.heap.size + 1) y rfl ?qb ?qd ?qc ?_)
              case qa => exact hRA.out.below ((Below.refl _ _).alloc (Nat.le_refl _) _)
              case qb => exact (by have z9 := sv_new (wr.alloc (.cells #[.int .i64 y.val.a.node, .string y.val.a.id, .string y.val.a.name, .slice y.val.A y.val.n y.val.c, .int .i64 y.val.a.port, .int .u64 (y.made : Int), .int .u64 (y.ix : Int)] TSv)) y TSv; rw [sA] at z9; exact z9)
              case qd => omega
              case qc => first | (rw [sA]; omega) | ((try simp); omega)
              refine Lib.hid ?_
              intro vW4 W4 hown hgr
              have hbx := svRow.snoc hRA.out (Below.refl _ _) (by first | (rw [sA]; omega) | ((try simp); omega)) hgr
              have HB4 := Lib.hid (hBA.out.trans (hbx.mono (by omega)))
              have HR4 := Lib.hid hown
              have HX4 : Hid (W4.heap[X]? = some (.cells #[.int .i64 x.val.a.node, .string x.val.a.id, .string x.val.a.name, .slice x.val.A x.val.n x.val.c, .int .i64 x.val.a.port, .int .u64 (mk : Int), .int .u64 (i : Int)] TSv (0, 0))) := Lib.hid ((hbx.block X (by omega)).trans HKA.out)
              have HZ4 : Hid (X < W4.heap.size) := Lib.hid (by have := hbx.size; rw [sA] at this; omega)
              clear hown hgr hbx hc0 e0 e1 e2 e3 e4 e5 e6 z0 z1 z2 z3 z4 z5 z6 sA
              go_wp2
              go_roundw
              case rel => exact ⟨k + 1, mk, true, ls ++ [y], by omega, by go_num, rfl, HI1, Lib.hid (fun e => by cases e), Lib.hid (by simp; omega), HX4, HR4, HB4, HZ4⟩
              case measure => simp [intOf]; omega
            | false =>
              cases hg : ltT x.val.a.id y.val.a.id with
              | true =>
                rw [hg] at hlt2
                have g : Op.bytesLess (y.val.a.id).toList (x.val.a.id).toList = false := less_other _ _ true hg hz
                clear hg
                have hrm2 : mk = rm := by rw [(hmkN (by first | rfl | trivial)).1, ← HRm.out]; exact (hgap2 hlt2 (hmk.out (by first | rfl | trivial)).2).symm
                have HI1 : Hid (layR (⟨kk, x.val, rm, i⟩ : Rw SvW) false l2 = (ls ++ [(⟨kk, x.val, rm, i⟩ : Rw SvW), y]) ++ layR (⟨kk, x.val, rm, i⟩ : Rw SvW) true (l2.drop (k + 1))) := Lib.hid (by
                  rw [hinv.out, HD.out, layR, if_neg (by rw [hsm]; simp), if_pos (by rw [show ltT kk y.key = true from hlt2]; rfl)]
                  simp)
                have hxb2 := hxb.out
                rw [hrm2] at hxb2
                have z0 := cellsN hxb2 0 _ rfl
                have z1 := cellsN hxb2 1 _ rfl
                have z2 := cellsN hxb2 2 _ rfl
                have z3 := cellsN hxb2 3 _ rfl
                have z4 := cellsN hxb2 4 _ rfl
                have z5 := cellsN hxb2 5 _ rfl
                have z6 := cellsN hxb2 6 _ rfl
                have b1 := below1 wr #[.int .i64 y.val.a.node, .string y.val.a.id, .string y.val.a.name, .slice y.val.A y.val.n y.val.c, .int .i64 y.val.a.port, .int .u64 (y.made : Int), .int .u64 (y.ix : Int)] TSv
                have k1 := (b1.block X hxs9).trans hxb2
                have kR := heap_alloc_new wr (.cells #[.int .i64 y.val.a.node, .string y.val.a.id, .string y.val.a.name, .slice y.val.A y.val.n y.val.c, .int .i64 y.val.a.port, .int .u64 (y.made : Int), .int .u64 (y.ix : Int)] TSv)
                have sA : (wr.alloc (.cells #[.int .i64 y.val.a.node, .string y.val.a.id, .string y.val.a.name, .slice y.val.A y.val.n y.val.c, .int .i64 y.val.a.port, .int .u64 (y.made : Int), .int .u64 (y.ix : Int)] TSv)).heap.size = wr.heap.size + 1 := by simp
                have hBA : Hid (Below Y w (wr.alloc (.cells #[.int .i64 y.val.a.node, .string y.val.a.id, .string y.val.a.name, .slice y.val.A y.val.n y.val.c, .int .i64 y.val.a.port, .int .u64 (y.made : Int), .int .u64 (y.ix : Int)] TSv))) := Lib.hid (hb.out.trans (b1.mono (by have := hb.out.size; have := HY.out; omega)))
                have hRA : Hid (svRow (wr.alloc (.cells #[.int .i64 y.val.a.node, .string y.val.a.id, .string y.val.a.name, .slice y.val.A y.val.n y.val.c, .int .i64 y.val.a.port, .int .u64 (y.made : Int), .int .u64 (y.ix : Int)] TSv)) (X + 1) _ ls) := Lib.hid (hrow.out.below b1)
                have hfr := Lib.hid (fun j e => (hrow.out.from j e).2)
                have HKA := Lib.hid k1
                have HKR := Lib.hid kR
                clear hsm hlt2 hms hgap2 b1 k1 kR hmkN hne hxb2 q0
                go_wp2_with (at_builtin; refine wpList_append_sv rfl (.tmp 99) (.tmp 101) rfl (X + 1) _ (ls) rfl ?qa (wr.heap.size + 1) (⟨kk, x.val, rm, i⟩ : Rw SvW) rfl ?qb ?qd ?qc ?_)
                case qa => exact hRA.out.below ((Below.refl _ _).alloc (Nat.le_refl _) _)
                case qb => exact (by have z9 := sv_new (wr.alloc (.cells #[.int .i64 y.val.a.node, .string y.val.a.id, .string y.val.a.name, .slice y.val.A y.val.n y.val.c, .int .i64 y.val.a.port, .int .u64 (y.made : Int), .int .u64 (y.ix : Int)] TSv)) (⟨kk, x.val, rm, i⟩ : Rw SvW) TSv; rw [sA] at z9; exact z9)
                case qd => omega
                case qc => first | (rw [sA]; omega) | ((try simp); omega)
                refine Lib.hid ?_
                intro vW4 W4 hown hgr
                have hbx := svRow.snoc hRA.out (Below.refl _ _) (by first | (rw [sA]; omega) | ((try simp); omega)) hgr
                have HB4 := Lib.hid (hBA.out.trans (hbx.mono (by omega)))
                have HR4 := Lib.hid hown
                have hx4 : W4.heap[X]? = some (.cells #[.int .i64 x.val.a.node, .string x.val.a.id, .string x.val.a.name, .slice x.val.A x.val.n x.val.c, .int .i64 x.val.a.port, .int .u64 (rm : Int), .int .u64 (i : Int)] TSv (0, 0)) := (hbx.block X (by omega)).trans HKA.out
                have hz4 : X + 1 < W4.heap.size := by have := hbx.size; rw [sA] at this; omega
                have hbu : But (fun k => k ≠ wr.heap.size) (wr.alloc (.cells #[.int .i64 y.val.a.node, .string y.val.a.id, .string y.val.a.name, .slice y.val.A y.val.n y.val.c, .int .i64 y.val.a.port, .int .u64 (y.made : Int), .int .u64 (y.ix : Int)] TSv)) W4 := (But.of_below ((Below.refl _ (wr.alloc (.cells #[.int .i64 y.val.a.node, .string y.val.a.id, .string y.val.a.name, .slice y.val.A y.val.n y.val.c, .int .i64 y.val.a.port, .int .u64 (y.made : Int), .int .u64 (y.ix : Int)] TSv))).alloc (Nat.le_refl _) _)).trans (But.of_grown (S := fun k => k ≠ wr.heap.size) hgr fun r e _ => by have := hfr.out r e; omega)
                have kR4 : W4.heap[wr.heap.size]? = some (.cells #[.int .i64 y.val.a.node, .string y.val.a.id, .string y.val.a.name, .slice y.val.A y.val.n y.val.c, .int .i64 y.val.a.port, .int .u64 (y.made : Int), .int .u64 (y.ix : Int)] TSv (0, 0)) := (hbu.block wr.heap.size (by rw [sA]; omega) (by simp)).trans HKR.out
                obtain ⟨f0, f1, f2, f3, f4, f5, f6⟩ := sv_blk kR4
                have HX4 := Lib.hid hx4
                clear hown hgr hbx hx4 hbu kR4 hc0 e0 e1 e2 e3 e4 e5 e6 z0 z1 z2 z3 z4 z5 z6 sA
                go_wp2_with (at_builtin; refine wpList_append_sv rfl (.tmp 103) (.tmp 105) rfl (X + 1) _ (ls ++ [(⟨kk, x.val, rm, i⟩ : Rw SvW)]) rfl ?qa (W4.heap.size) y rfl ?qb ?qd ?qc ?_)
                case qa => exact HR4.out.below ((Below.refl _ _).alloc (Nat.le_refl _) _)
                case qb => exact (by have z9 := sv_new (W4) y TSv; exact z9)
                case qd => simp; omega
                case qc => first | (rw [hzz]; omega) | ((try simp); omega)
                refine Lib.hid ?_
                intro vW5 W5 hown hgr
                have hbx := svRow.snoc HR4.out (Below.refl _ _) (by first | (rw [hzz]; omega) | ((try simp); omega)) hgr
                have HB5 := Lib.hid (HB4.out.trans (hbx.mono (by omega)))
                have HR5 := Lib.hid hown
                have HX5 : Hid (W5.heap[X]? = some (.cells #[.int .i64 x.val.a.node, .string x.val.a.id, .string x.val.a.name, .slice x.val.A x.val.n x.val.c, .int .i64 x.val.a.port, .int .u64 (rm : Int), .int .u64 (i : Int)] TSv (0, 0))) := Lib.hid ((hbx.block X (by omega)).trans HX4.out)
                have HZ5 : Hid (X < W5.heap.size) := Lib.hid (by have := hbx.size; omega)
                clear hown hgr hbx f0 f1 f2 f3 f4 f5 f6
                go_wp2
                go_roundw
                case rel => exact ⟨k + 1, rm, true, ls ++ [(⟨kk, x.val, rm, i⟩ : Rw SvW), y], by omega, by go_num, rfl, HI1, Lib.hid (fun e => by cases e), Lib.hid (by simp; omega), HX5, HR5, HB5, HZ5⟩
                case measure => simp [intOf]; omega
              | false =>
                rw [hg] at hlt2
                have g : Op.bytesLess (y.val.a.id).toList (x.val.a.id).toList = true := less_other _ _ false hg hz
                clear hg
                have HI1 : Hid (layR (⟨kk, x.val, rm, i⟩ : Rw SvW) false l2 = (ls ++ [y]) ++ layR (⟨kk, x.val, rm, i⟩ : Rw SvW) false (l2.drop (k + 1))) := Lib.hid (by
                  rw [hinv.out, HD.out, layR, if_neg (by rw [hsm]; simp), if_neg (by rw [show ltT kk y.key = false from hlt2]; simp), List.append_assoc]
                  rfl)
                have HMN : Hid (mk = i ∧ ∀ y ∈ l2.take (k + 1), y.key ≠ kk) := Lib.hid (hmkN (by first | rfl | trivial))
                have b1 := below1 wr #[.int .i64 y.val.a.node, .string y.val.a.id, .string y.val.a.name, .slice y.val.A y.val.n y.val.c, .int .i64 y.val.a.port, .int .u64 (y.made : Int), .int .u64 (y.ix : Int)] TSv
                have k1 := (b1.block X hxs9).trans hxb.out
                have sA : (wr.alloc (.cells #[.int .i64 y.val.a.node, .string y.val.a.id, .string y.val.a.name, .slice y.val.A y.val.n y.val.c, .int .i64 y.val.a.port, .int .u64 (y.made : Int), .int .u64 (y.ix : Int)] TSv)).heap.size = wr.heap.size + 1 := by simp
                have hBA : Hid (Below Y w (wr.alloc (.cells #[.int .i64 y.val.a.node, .string y.val.a.id, .string y.val.a.name, .slice y.val.A y.val.n y.val.c, .int .i64 y.val.a.port, .int .u64 (y.made : Int), .int .u64 (y.ix : Int)] TSv))) := Lib.hid (hb.out.trans (b1.mono (by have := hb.out.size; have := HY.out; omega)))
                have hRA : Hid (svRow (wr.alloc (.cells #[.int .i64 y.val.a.node, .string y.val.a.id, .string y.val.a.name, .slice y.val.A y.val.n y.val.c, .int .i64 y.val.a.port, .int .u64 (y.made : Int), .int .u64 (y.ix : Int)] TSv)) (X + 1) _ ls) := Lib.hid (hrow.out.below b1)
                have HKA := Lib.hid k1
                have z0 := cellsN hxb.out 0 _ rfl
                have z1 := cellsN hxb.out 1 _ rfl
                have z2 := cellsN hxb.out 2 _ rfl
                have z3 := cellsN hxb.out 3 _ rfl
                have z4 := cellsN hxb.out 4 _ rfl
                have z5 := cellsN hxb.out 5 _ rfl
                have z6 := cellsN hxb.out 6 _ rfl
                clear hsm hlt2 hms hgap2 b1 k1 hmkN hne q0
                go_wp2_with (at_builtin; refine wpList_append_sv rfl (.tmp 103) (.tmp 105) rfl (X + 1) _ (ls) rfl ?qa (wr.heap.size + 1) y rfl ?qb ?qd ?qc ?_)
                case qa => exact hRA.out.below ((Below.refl _ _).alloc (Nat.le_refl _) _)
                case qb => exact (by have z9 := sv_new (wr.alloc (.cells #[.int .i64 y.val.a.node, .string y.val.a.id, .string y.val.a.name, .slice y.val.A y.val.n y.val.c, .int .i64 y.val.a.port, .int .u64 (y.made : Int), .int .u64 (y.ix : Int)] TSv)) y TSv; rw [sA] at z9; exact z9)
                case qd => omega
                case qc => first | (rw [sA]; omega) | ((try simp); omega)
                refine Lib.hid ?_
                intro vW4 W4 hown hgr
                have hbx := svRow.snoc hRA.out (Below.refl _ _) (by first | (rw [sA]; omega) | ((try simp); omega)) hgr
                have HB4 := Lib.hid (hBA.out.trans (hbx.mono (by omega)))
                have HR4 := Lib.hid hown
                have HX4 : Hid (W4.heap[X]? = some (.cells #[.int .i64 x.val.a.node, .string x.val.a.id, .string x.val.a.name, .slice x.val.A x.val.n x.val.c, .int .i64 x.val.a.port, .int .u64 (mk : Int), .int .u64 (i : Int)] TSv (0, 0))) := Lib.hid ((hbx.block X (by omega)).trans HKA.out)
                have HZ4 : Hid (X < W4.heap.size) := Lib.hid (by have := hbx.size; rw [sA] at this; omega)
                clear hown hgr hbx hc0 e0 e1 e2 e3 e4 e5 e6 z0 z1 z2 z3 z4 z5 z6 sA
                go_wp2
                go_roundw
                case rel => exact ⟨k + 1, mk, false, ls ++ [y], by omega, by go_num, rfl, HI1, Lib.hid (fun _ => HMN.out), Lib.hid (by simp; omega), HX4, HR4, HB4, HZ4⟩
                case measure => simp [intOf]; omega
        · have q : (y.val.a.node == x.val.a.node) = false := beq_eq_false_iff_ne.2 q0
          rw [decide_eq_false q0, Bool.false_and] at hsm
          rw [decide_eq_false (show ¬ x.val.a.node = y.val.a.node from fun e => q0 e.symm), Bool.false_and, Bool.or_false] at hlt2
          have hne : y.key ≠ kk := text_other.1 hsm
          have hmkN : bb = false → mk = i ∧ ∀ z ∈ l2.take (k + 1), z.key ≠ kk := fun e => ⟨(hmk.out e).1, fun z hz => by
            rw [HTk.out, List.mem_append, List.mem_singleton] at hz
            rcases hz with hz | rfl
            · exact (hmk.out e).2 z hz
            · exact hne⟩
          cases bb with
          | true =>
            have HI1 : Hid (layR (⟨kk, x.val, rm, i⟩ : Rw SvW) false l2 = (ls ++ [y]) ++ layR (⟨kk, x.val, rm, i⟩ : Rw SvW) true (l2.drop (k + 1))) := Lib.hid (by
              rw [hinv.out, HD.out, layR, if_neg (by rw [hsm]; simp), if_neg (by simp), List.append_assoc]
              rfl)
            have b1 := below1 wr #[.int .i64 y.val.a.node, .string y.val.a.id, .string y.val.a.name, .slice y.val.A y.val.n y.val.c, .int .i64 y.val.a.port, .int .u64 (y.made : Int), .int .u64 (y.ix : Int)] TSv
            have k1 := (b1.block X hxs9).trans hxb.out
            have sA : (wr.alloc (.cells #[.int .i64 y.val.a.node, .string y.val.a.id, .string y.val.a.name, .slice y.val.A y.val.n y.val.c, .int .i64 y.val.a.port, .int .u64 (y.made : Int), .int .u64 (y.ix : Int)] TSv)).heap.size = wr.heap.size + 1 := by simp
            have hBA : Hid (Below Y w (wr.alloc (.cells #[.int .i64 y.val.a.node, .string y.val.a.id, .string y.val.a.name, .slice y.val.A y.val.n y.val.c, .int .i64 y.val.a.port, .int .u64 (y.made : Int), .int .u64 (y.ix : Int)] TSv))) := Lib.hid (hb.out.trans (b1.mono (by have := hb.out.size; have := HY.out; omega)))
            have hRA : Hid (svRow (wr.alloc (.cells #[.int .i64 y.val.a.node, .string y.val.a.id, .string y.val.a.name, .slice y.val.A y.val.n y.val.c, .int .i64 y.val.a.port, .int .u64 (y.made : Int), .int .u64 (y.ix : Int)] TSv)) (X + 1) _ ls) := Lib.hid (hrow.out.below b1)
            have HKA := Lib.hid k1
            have z0 := cellsN hxb.out 0 _ rfl
            have z1 := cellsN hxb.out 1 _ rfl
            have z2 := cellsN hxb.out 2 _ rfl
            have z3 := cellsN hxb.out 3 _ rfl
            have z4 := cellsN hxb.out 4 _ rfl
            have z5 := cellsN hxb.out 5 _ rfl
            have z6 := cellsN hxb.out 6 _ rfl
            clear hsm hlt2 hms hgap2 b1 k1 hmkN hne q0
            go_wp2_with (at_builtin; refine wpList_append_sv rfl (.tmp 103) (.tmp 105) rfl (X + 1) _ (ls) rfl ?qa (wr.heap.size + 1) y rfl ?qb ?qd ?qc ?_)
            case qa => exact hRA.out.below ((Below.refl _ _).alloc (Nat.le_refl _) _)
            case qb => exact (by have z9 := sv_new (wr.alloc (.cells #[.int .i64 y.val.a.node, .string y.val.a.id, .string y.val.a.name, .slice y.val.A y.val.n y.val.c, .int .i64 y.val.a.port, .int .u64 (y.made : Int), .int .u64 (y.ix : Int)] TSv)) y TSv; rw [sA] at z9; exact z9)
            case qd => omega
            case qc => first | (rw [sA]; omega) | ((try simp); omega)
            refine Lib.hid ?_
            intro vW4 W4 hown hgr
            have hbx := svRow.snoc hRA.out (Below.refl _ _) (by first | (rw [sA]; omega) | ((try simp); omega)) hgr
            have HB4 := Lib.hid (hBA.out.trans (hbx.mono (by omega)))
            have HR4 := Lib.hid hown
            have HX4 : Hid (W4.heap[X]? = some (.cells #[.int .i64 x.val.a.node, .string x.val.a.id, .string x.val.a.name, .slice x.val.A x.val.n x.val.c, .int .i64 x.val.a.port, .int .u64 (mk : Int), .int .u64 (i : Int)] TSv (0, 0))) := Lib.hid ((hbx.block X (by omega)).trans HKA.out)
            have HZ4 : Hid (X < W4.heap.size) := Lib.hid (by have := hbx.size; rw [sA] at this; omega)
            clear hown hgr hbx hc0 e0 e1 e2 e3 e4 e5 e6 z0 z1 z2 z3 z4 z5 z6 sA
            go_wp2
            go_roundw
            case rel => exact ⟨k + 1, mk, true, ls ++ [y], by omega, by go_num, rfl, HI1, Lib.hid (fun e => by cases e), Lib.hid (by simp; omega), HX4, HR4, HB4, HZ4⟩
            case measure => simp [intOf]; omega
          | false =>
            by_cases q3 : x.val.a.node < y.val.a.node
            · rw [decide_eq_true q3] at hlt2
              have hrm2 : mk = rm := by rw [(hmkN (by first | rfl | trivial)).1, ← HRm.out]; exact (hgap2 hlt2 (hmk.out (by first | rfl | trivial)).2).symm
              have HI1 : Hid (layR (⟨kk, x.val, rm, i⟩ : Rw SvW) false l2 = (ls ++ [(⟨kk, x.val, rm, i⟩ : Rw SvW), y]) ++ layR (⟨kk, x.val, rm, i⟩ : Rw SvW) true (l2.drop (k + 1))) := Lib.hid (by
                rw [hinv.out, HD.out, layR, if_neg (by rw [hsm]; simp), if_pos (by rw [show ltT kk y.key = true from hlt2]; rfl)]
                simp)
              have hxb2 := hxb.out
              rw [hrm2] at hxb2
              have z0 := cellsN hxb2 0 _ rfl
              have z1 := cellsN hxb2 1 _ rfl
              have z2 := cellsN hxb2 2 _ rfl
              have z3 := cellsN hxb2 3 _ rfl
              have z4 := cellsN hxb2 4 _ rfl
              have z5 := cellsN hxb2 5 _ rfl
              have z6 := cellsN hxb2 6 _ rfl
              have b1 := below1 wr #[.int .i64 y.val.a.node, .string y.val.a.id, .string y.val.a.name, .slice y.val.A y.val.n y.val.c, .int .i64 y.val.a.port, .int .u64 (y.made : Int), .int .u64 (y.ix : Int)] TSv
              have k1 := (b1.block X hxs9).trans hxb2
              have kR := heap_alloc_new wr (.cells #[.int .i64 y.val.a.node, .string y.val.a.id, .string y.val.a.name, .slice y.val.A y.val.n y.val.c, .int .i64 y.val.a.port, .int .u64 (y.made : Int), .int .u64 (y.ix : Int)] TSv)
              have sA : (wr.alloc (.cells #[.int .i64 y.val.a.node, .string y.val.a.id, .string y.val.a.name, .slice y.val.A y.val.n y.val.c, .int .i64 y.val.a.port, .int .u64 (y.made : Int), .int .u64 (y.ix : Int)] TSv)).heap.size = wr.heap.size + 1 := by simp
              have hBA : Hid (Below Y w (wr.alloc (.cells #[.int .i64 y.val.a.node, .string y.val.a.id, .string y.val.a.name, .slice y.val.A y.val.n y.val.c, .int .i64 y.val.a.port, .int .u64 (y.made : Int), .int .u64 (y.ix : Int)] TSv))) := Lib.hid (hb.out.trans (b1.mono (by have := hb.out.size; have := HY.out; omega)))
              have hRA : Hid (svRow (wr.alloc (.cells #[.int .i64 y.val.a.node, .string y.val.a.id, .string y.val.a.name, .slice y.val.A y.val.n y.val.c, .int .i64 y.val.a.port, .int .u64 (y.made : Int), .int .u64 (y.ix : Int)] TSv)) (X + 1) _ ls) := Lib.hid (hrow.out.below b1)
              have hfr := Lib.hid (fun j e => (hrow.out.from j e).2)
              have HKA := Lib.hid k1
              have HKR := Lib.hid kR
              clear hsm hlt2 hms hgap2 b1 k1 kR hmkN hne hxb2 q0
              go_wp2_with (at_builtin; refine wpList_append_sv rfl (.tmp 99) (.tmp 101) rfl (X + 1) _ (ls) rfl ?qa (wr.heap.size + 1) (⟨kk, x.val, rm, i⟩ : Rw SvW) rfl ?qb ?qd ?qc ?_)
              case qa => exact hRA.out.below ((Below.refl _ _).alloc (Nat.le_refl _) _)
              case qb => exact (by have z9 := sv_new (wr.alloc (.cells #[.int .i64 y.val.a.node, .string y.val.a.id, .string y.val.a.name, .slice y.val.A y.val.n y.val.c, .int .i64 y.val.a.port, .int .u64 (y.made : Int), .int .u64 (y.ix : Int)] TSv)) (⟨kk, x.val, rm, i⟩ : Rw SvW) TSv; rw [sA] at z9; exact z9)
              case qd => omega
              case qc => first | (rw [sA]; omega) | ((try simp); omega)
              refine Lib.hid ?_
              intro vW4 W4 hown hgr
              have hbx := svRow.snoc hRA.out (Below.refl _ _) (by first | (rw [sA]; omega) | ((try simp); omega)) hgr
              have HB4 := Lib.hid (hBA.out.trans (hbx.mono (by omega)))
              have HR4 := Lib.hid hown
              have hx4 : W4.heap[X]? = some (.cells #[.int .i64 x.val.a.node, .string x.val.a.id, .string x.val.a.name, .slice x.val.A x.val.n x.val.c, .int .i64 x.val.a.port, .int .u64 (rm : Int), .int .u64 (i : Int)] TSv (0, 0)) := (hbx.block X (by omega)).trans HKA.out
              have hz4 : X + 1 < W4.heap.size := by have := hbx.size; rw [sA] at this; omega
              have hbu : But (fun k => k ≠ wr.heap.size) (wr.alloc (.cells #[.int .i64 y.val.a.node, .string y.val.a.id, .string y.val.a.name, .slice y.val.A y.val.n y.val.c, .int .i64 y.val.a.port, .int .u64 (y.made : Int), .int .u64 (y.ix : Int)] TSv)) W4 := (But.of_below ((Below.refl _ (wr.alloc (.cells #[.int .i64 y.val.a.node, .string y.val.a.id, .string y.val.a.name, .slice y.val.A y.val.n y.val.c, .int .i64 y.val.a.port, .int .u64 (y.made : Int), .int .u64 (y.ix : Int)] TSv))).alloc (Nat.le_refl _) _)).trans (But.of_grown (S := fun k => k ≠ wr.heap.size) hgr fun r e _ => by have := hfr.out r e; omega)
              have kR4 : W4.heap[wr.heap.size]? = some (.cells #[.int .i64 y.val.a.node, .string y.val.a.id, .string y.val.a.name, .slice y.val.A y.val.n y.val.c, .int .i64 y.val.a.port, .int .u64 (y.made : Int), .int .u64 (y.ix : Int)] TSv (0, 0)) := (hbu.block wr.heap.size (by rw [sA]; omega) (by simp)).trans HKR.out
              obtain ⟨f0, f1, f2, f3, f4, f5, f6⟩ := sv_blk kR4
              have HX4 := Lib.hid hx4
              clear hown hgr hbx hx4 hbu kR4 hc0 e0 e1 e2 e3 e4 e5 e6 z0 z1 z2 z3 z4 z5 z6 sA
              go_wp2_with (at_builtin; refine wpList_append_sv rfl (.tmp 103) (.tmp 105) rfl (X + 1) _ (ls ++ [(⟨kk, x.val, rm, i⟩ : Rw SvW)]) rfl ?qa (W4.heap.size) y rfl ?qb ?qd ?qc ?_)
              case qa => exact HR4.out.below ((Below.refl _ _).alloc (Nat.le_refl _) _)
              case qb => exact (by have z9 := sv_new (W4) y TSv; exact z9)
              case qd => simp; omega
              case qc => first | (rw [hzz]; omega) | ((try simp); omega)
              refine Lib.hid ?_
              intro vW5 W5 hown hgr
              have hbx := svRow.snoc HR4.out (Below.refl _ _) (by first | (rw [hzz]; omega) | ((try simp); omega)) hgr
              have HB5 := Lib.hid (HB4.out.trans (hbx.mono (by omega)))
              have HR5 := Lib.hid hown
              have HX5 : Hid (W5.heap[X]? = some (.cells #[.int .i64 x.val.a.node, .string x.val.a.id, .string x.val.a.name, .slice x.val.A x.val.n x.val.c, .int .i64 x.val.a.port, .int .u64 (rm : Int), .int .u64 (i : Int)] TSv (0, 0))) := Lib.hid ((hbx.block X (by omega)).trans HX4.out)
              have HZ5 : Hid (X < W5.heap.size) := Lib.hid (by have := hbx.size; omega)
              clear hown hgr hbx f0 f1 f2 f3 f4 f5 f6
              go_wp2
              go_roundw
              case rel => exact ⟨k + 1, rm, true, ls ++ [(⟨kk, x.val, rm, i⟩ : Rw SvW), y], by omega, by go_num, rfl, HI1, Lib.hid (fun e => by cases e), Lib.hid (by simp; omega), HX5, HR5, HB5, HZ5⟩
              case measure => simp [intOf]; omega
            · rw [decide_eq_false q3] at hlt2
              have HI1 : Hid (layR (⟨kk, x.val, rm, i⟩ : Rw SvW) false l2 = (ls ++ [y]) ++ layR (⟨kk, x.val, rm, i⟩ : Rw SvW) false (l2.drop (k + 1))) := Lib.hid (by
                rw [hinv.out, HD.out, layR, if_neg (by rw [hsm]; simp), if_neg (by rw [show ltT kk y.key = false from hlt2]; simp), List.append_assoc]
                rfl)
              have HMN : Hid (mk = i ∧ ∀ y ∈ l2.take (k + 1), y.key ≠ kk) := Lib.hid (hmkN (by first | rfl | trivial))
              have b1 := below1 wr #[.int .i64 y.val.a.node, .string y.val.a.id, .string y.val.a.name, .slice y.val.A y.val.n y.val.c, .int .i64 y.val.a.port, .int .u64 (y.made : Int), .int .u64 (y.ix : Int)] TSv
              have k1 := (b1.block X hxs9).trans hxb.out
              have sA : (wr.alloc (.cells #[.int .i64 y.val.a.node, .string y.val.a.id, .string y.val.a.name, .slice y.val.A y.val.n y.val.c, .int .i64 y.val.a.port, .int .u64 (y.made : Int), .int .u64 (y.ix : Int)] TSv)).heap.size = wr.heap.size + 1 := by simp
              have hBA : Hid (Below Y w (wr.alloc (.cells #[.int .i64 y.val.a.node, .string y.val.a.id, .string y.val.a.name, .slice y.val.A y.val.n y.val.c, .int .i64 y.val.a.port, .int .u64 (y.made : Int), .int .u64 (y.ix : Int)] TSv))) := Lib.hid (hb.out.trans (b1.mono (by have := hb.out.size; have := HY.out; omega)))
              have hRA : Hid (svRow (wr.alloc (.cells #[.int .i64 y.val.a.node, .string y.val.a.id, .string y.val.a.name, .slice y.val.A y.val.n y.val.c, .int .i64 y.val.a.port, .int .u64 (y.made : Int), .int .u64 (y.ix : Int)] TSv)) (X + 1) _ ls) := Lib.hid (hrow.out.below b1)
              have HKA := Lib.hid k1
              have z0 := cellsN hxb.out 0 _ rfl
              have z1 := cellsN hxb.out 1 _ rfl
              have z2 := cellsN hxb.out 2 _ rfl
              have z3 := cellsN hxb.out 3 _ rfl
              have z4 := cellsN hxb.out 4 _ rfl
              have z5 := cellsN hxb.out 5 _ rfl
              have z6 := cellsN hxb.out 6 _ rfl
              clear hsm hlt2 hms hgap2 b1 k1 hmkN hne q0
              go_wp2_with (at_builtin; refine wpList_append_sv rfl (.tmp 103) (.tmp 105) rfl (X + 1) _ (ls) rfl ?qa (wr.heap.size + 1) y rfl ?qb ?qd ?qc ?_)
              case qa => exact hRA.out.below ((Below.refl _ _).alloc (Nat.le_refl _) _)
              case qb => exact (by have z9 := sv_new (wr.alloc (.cells #[.int .i64 y.val.a.node, .string y.val.a.id, .string y.val.a.name, .slice y.val.A y.val.n y.val.c, .int .i64 y.val.a.port, .int .u64 (y.made : Int), .int .u64 (y.ix : Int)] TSv)) y TSv; rw [sA] at z9; exact z9)
              case qd => omega
              case qc => first | (rw [sA]; omega) | ((try simp); omega)
              refine Lib.hid ?_
              intro vW4 W4 hown hgr
              have hbx := svRow.snoc hRA.out (Below.refl _ _) (by first | (rw [sA]; omega) | ((try simp); omega)) hgr
              have HB4 := Lib.hid (hBA.out.trans (hbx.mono (by omega)))
              have HR4 := Lib.hid hown
              have HX4 : Hid (W4.heap[X]? = some (.cells #[.int .i64 x.val.a.node, .string x.val.a.id, .string x.val.a.name, .slice x.val.A x.val.n x.val.c, .int .i64 x.val.a.port, .int .u64 (mk : Int), .int .u64 (i : Int)] TSv (0, 0))) := Lib.hid ((hbx.block X (by omega)).trans HKA.out)
              have HZ4 : Hid (X < W4.heap.size) := Lib.hid (by have := hbx.size; rw [sA] at this; omega)
              clear hown hgr hbx hc0 e0 e1 e2 e3 e4 e5 e6 z0 z1 z2 z3 z4 z5 z6 sA
              go_wp2
              go_roundw
              case rel => exact ⟨k + 1, mk, false, ls ++ [y], by omega, by go_num, rfl, HI1, Lib.hid (fun _ => HMN.out), Lib.hid (by simp; omega), HX4, HR4, HB4, HZ4⟩
              case measure => simp [intOf]; omega
      · have hkL : k = L := by omega
        have hdk : l2.drop k = [] := List.drop_eq_nil_of_le (by rw [HL.out]; omega)
        have htk : l2.take k = l2 := List.take_of_length_le (by rw [HL.out]; omega)
        have hI := hinv.out
        rw [hdk] at hI
        have hd := HH.out.below (by rw [HY.out]; exact hb.out)
        have hc0 := hd.cells.2.2.1
        rw [show (l2.length) = L from HL.out] at hc0
        clear hd hdk
        cases bb with
        | true =>
          have hMM : layR (⟨kk, x.val, rm, i⟩ : Rw SvW) false l2 = ls := by
            rw [hI]; simp [layR]
          obtain ⟨M, hM⟩ : ∃ M, ls = M := ⟨_, rfl⟩
          have hrz := hrow.out
          rw [hM] at hMM hrz
          have hd2 := HH.out.below (w' := wr) (by rw [HY.out]; exact hb.out)
          have hcz := hd2.cells.2.2.1
          rw [show (l2.length) = L from HL.out] at hcz
          have z := hd2.froz 2
          have hl := hd2.lt
          obtain ⟨A9, c9, rfl, k1, k2, k3, k4⟩ := SK.of_row svC_len hrz
          have hset := (hd2.narrow (S' := fun k => S k ∨ Y ≤ k) (fun _ _ z => .inl (HSs.out _ z)) (fun k z => z.elim (HLo.out k) (Nat.le_trans HTop.out))).set2 (A := A9) (c := c9) (l := M) ⟨k1, fun b off e _ => ⟨.inr (by have := k4 b off e; omega), by have := k4 b off e; omega⟩, k2, k3⟩ (fun r hr => by rw [← hMM] at hr; rcases layR_mem hr with rfl | hr; exact HTg.out _ (by rw [HY.out]; exact hb.out); exact hd2.tg r hr)
          have HRs := Lib.hid (rdraise2_any i hset)
          have HB5 : Hid (But (· = B) w (wr.setCell ⟨B, 2, none⟩ (.slice A9 M.length c9))) := Lib.hid ((But.of_below (by rw [HY.out]; exact hb.out)).trans (But.set (S := (· = B)) wr (p := ⟨B, 2, none⟩) rfl (.slice A9 M.length c9)))
          have HMM := Lib.hid hMM
          clear hset k1 k4 hd2 hMM hM hc0
          go_wp2_with fail
          refine HRs.out.mono ?_
          rintro e w2 ⟨rfl, hd3, hb3⟩
          have HD3 := Lib.hid hd3
          have HB6 := Lib.hid (HB5.out.trans hb3)
          clear hd3 hb3
          go_wp2
          go_ret
          have HOk4 := HOk3.out
          rw [HMM.out] at HOk4
          rw [HY.out, HMM.out]
          exact ⟨rfl, ⟨HOk4, _, _, _, _, _, _, _, HD3.out⟩, HB6.out⟩
        | false =>
          obtain ⟨hmi, hno⟩ := hmk.out (by first | rfl | trivial)
          rw [htk] at hno
          have hrm2 : mk = rm := by rw [hmi, ← HRm.out]; exact (made_none (t := (⟨0, l2, 0⟩ : Tb SvW)) hno).symm
          have hxb2 := hxb.out
          rw [hrm2] at hxb2
          have z0 := cellsN hxb2 0 _ rfl
          have z1 := cellsN hxb2 1 _ rfl
          have z2 := cellsN hxb2 2 _ rfl
          have z3 := cellsN hxb2 3 _ rfl
          have z4 := cellsN hxb2 4 _ rfl
          have z5 := cellsN hxb2 5 _ rfl
          have z6 := cellsN hxb2 6 _ rfl
          clear hxb2 htk
          go_wp2_with (at_builtin; refine wpList_append_sv rfl (.tmp 109) (.tmp 111) rfl (X + 1) _ (ls) rfl ?qa (wr.heap.size) (⟨kk, x.val, rm, i⟩ : Rw SvW) rfl ?qb ?qd ?qc ?_)
          case qa => exact hrow.out.below ((Below.refl _ _).alloc (Nat.le_refl _) _)
          case qb => exact (by have z9 := sv_new (wr) (⟨kk, x.val, rm, i⟩ : Rw SvW) TSv; exact z9)
          case qd => omega
          case qc => first | (rw [hzz]; omega) | ((try simp); omega)
          refine Lib.hid ?_
          intro vW4 W4 hown hgr
          have hbx := svRow.snoc hrow.out (Below.refl _ _) (by first | (rw [hzz]; omega) | ((try simp); omega)) hgr
          have HB4 := Lib.hid (hb.out.trans (hbx.mono (by omega)))
          have HR4 := Lib.hid hown
          clear hown hgr hbx z0 z1 z2 z3 z4 z5 z6
          have hMM : layR (⟨kk, x.val, rm, i⟩ : Rw SvW) false l2 = ls ++ [(⟨kk, x.val, rm, i⟩ : Rw SvW)] := by
            rw [hI]; simp [layR]
          obtain ⟨M, hM⟩ : ∃ M, ls ++ [(⟨kk, x.val, rm, i⟩ : Rw SvW)] = M := ⟨_, rfl⟩
          have hrz := HR4.out
          rw [hM] at hMM hrz
          have hd2 := HH.out.below (w' := W4) (by rw [HY.out]; exact HB4.out)
          have hcz := hd2.cells.2.2.1
          rw [show (l2.length) = L from HL.out] at hcz
          have z := hd2.froz 2
          have hl := hd2.lt
          obtain ⟨A9, c9, rfl, k1, k2, k3, k4⟩ := SK.of_row svC_len hrz
          have hset := (hd2.narrow (S' := fun k => S k ∨ Y ≤ k) (fun _ _ z => .inl (HSs.out _ z)) (fun k z => z.elim (HLo.out k) (Nat.le_trans HTop.out))).set2 (A := A9) (c := c9) (l := M) ⟨k1, fun b off e _ => ⟨.inr (by have := k4 b off e; omega), by have := k4 b off e; omega⟩, k2, k3⟩ (fun r hr => by rw [← hMM] at hr; rcases layR_mem hr with rfl | hr; exact HTg.out _ (by rw [HY.out]; exact HB4.out); exact hd2.tg r hr)
          have HRs := Lib.hid (rdraise2_any i hset)
          have HB5 : Hid (But (· = B) w (W4.setCell ⟨B, 2, none⟩ (.slice A9 M.length c9))) := Lib.hid ((But.of_below (by rw [HY.out]; exact HB4.out)).trans (But.set (S := (· = B)) W4 (p := ⟨B, 2, none⟩) rfl (.slice A9 M.length c9)))
          have HMM := Lib.hid hMM
          clear hset k1 k4 hd2 hMM hM hc0
          go_wp2_with fail
          refine HRs.out.mono ?_
          rintro e w2 ⟨rfl, hd3, hb3⟩
          have HD3 := Lib.hid hd3
          have HB6 := Lib.hid (HB5.out.trans hb3)
          clear hd3 hb3
          go_wp2
          go_ret
          have HOk4 := HOk3.out
          rw [HMM.out] at HOk4
          rw [HY.out, HMM.out]
          exact ⟨rfl, ⟨HOk4, _, _, _, _, _, _, _, HD3.out⟩, HB6.out⟩
end
end Go.Proofs.YtilkbfmaofmjoaaGreatDoor
