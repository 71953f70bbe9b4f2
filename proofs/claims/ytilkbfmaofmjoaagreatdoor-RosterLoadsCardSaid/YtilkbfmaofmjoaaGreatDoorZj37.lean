import Derived.Test.YtilkbfmaofmjoaaGreatDoorZj9
import Derived.Test.YtilkbfmaofmjoaaGreatDoorZj23
import Derived.Test.YtilkbfmaofmjoaaGreatDoorZj24
import Derived.Test.YtilkbfmaofmjoaaGreatDoorZj28
import Derived.Test.YtilkbfmaofmjoaaGreatDoorZj30
import Derived.Test.YtilkbfmaofmjoaaGreatDoorZj33
import Derived.Test.YtilkbfmaofmjoaaGreatDoorZj35
import Derived.Test.YtilkbfmaofmjoaaGreatDoorZj36
import Derived.Test.YtilkbfmaofmjoaaGreatDoorZj31
import Derived.Lib.QuietBelow
import Derived.Laws.StructEq
import Derived.Laws.Pointers
import Derived.Lib.ItoaLen
import Derived.RegionTactic
import Derived.BigRegion
import Derived.ChangeAlike
namespace Go.Proofs.YtilkbfmaofmjoaaGreatDoor
open Go.RowKit
set_option linter.unusedSimpArgs false
set_option linter.unusedVariables false
abbrev gPw : Nat := 0
def PwIs (w : World) : Prop := Lib.TabIs Tryz.prog w "internal/strconv.uint64pow10" .u64 Lib.pow10Tab
theorem pw_named : Tryz.prog.globalNamed "internal/strconv.uint64pow10" = some gPw := by kernel_rfl
theorem PwIs.lt {w : World} (h : PwIs w) : gPw < w.heap.size := by
  unfold PwIs Lib.TabIs World.var? at h
  rw [pw_named] at h
  simp only [Option.bind_some] at h
  rcases Nat.lt_or_ge gPw w.heap.size with h' | h'
  · exact h'
  · rw [Array.getElem?_eq_none h'] at h; simp at h
theorem PwIs.of_block {w w' : World} (h : PwIs w) (hb : w'.heap[gPw]? = w.heap[gPw]?) : PwIs w' := by
  unfold PwIs Lib.TabIs World.var? at *
  rw [pw_named] at *
  simp only [Option.bind_some] at *
  rw [hb]
  exact h
theorem PwIs.but {S : Nat → Prop} {w w' : World} (h : PwIs w) (hb : But S w w') (hS : ¬ S gPw) : PwIs w' := h.of_block (hb.block gPw h.lt hS)
theorem PwIs.below {w w' : World} (h : PwIs w) (hb : Below w.heap.size w w') : PwIs w' := h.of_block (hb.block gPw h.lt)
abbrev TRo : TypeId := 70
def P3 (a b c : Option Addr) : Array Value := #[.pointer a, .pointer b, .pointer c]
def Ch3 (B1 B2 B3 : Nat) (k : Nat) : Prop := k = B1 ∨ k = B2 ∨ k = B3
def Sub (S : Nat → Prop) (B a b : Nat) (k : Nat) : Prop := S k ∧ k ≠ B ∧ k ≠ a ∧ k ≠ b ∧ k ≠ gPw
abbrev nA (T : Tb NdW) : Tb NdA := T.map (·.a)
abbrev sA (T : Tb SvW) : Tb SvA := T.map (·.a)
abbrev cA (T : Tb CkW) : Tb CkA := T.map (·.a)
structure RoIs (S : Nat → Prop) (w : World) (B B1 B2 B3 : Nat) (T1 : Tb NdW) (T2 : Tb SvW) (T3 : Tb CkW) : Prop where
  pw : PwIs w
  sg : S gPw
  mine : S B ∧ B ≠ gPw
  ptr : w.heap[B]? = some (.cells #[.pointer (some ⟨B1, 0, none⟩), .pointer (some ⟨B2, 0, none⟩), .pointer (some ⟨B3, 0, none⟩)] TRo (0, 0))
  t1 : Nt.TAt (Sub S B B2 B3) w B1 T1
  t2 : Vt.TAt (Sub S B B1 B3) w B2 T2
  t3 : Ct.TAt (Sub S B B1 B2) w B3 T3
  tg : ∀ r ∈ T2.l, TgAt (fun k => S k ∧ k ≠ B1 ∧ k ≠ B2 ∧ k ≠ B3) w r.val
structure RoAt (S : Nat → Prop) (w : World) (B B1 B2 B3 : Nat) (m : Nat) (d : Ro) : Prop where
  ok : RoOk m d
  is_ : ∃ T1 T2 T3, RoIs S w B B1 B2 B3 T1 T2 T3 ∧ nA T1 = d.n ∧ sA T2 = d.s ∧ cA T3 = d.c
structure NoRo (w : World) (p : Option Addr) : Prop where
  or : p = none ∨ ∃ B, p = some ⟨B, 0, none⟩ ∧ w.heap[B]? = some (.cells #[.pointer none, .pointer none, .pointer none] TRo (0, 0))
section
variable {S S' : Nat → Prop} {w w' : World} {B B1 B2 B3 m : Nat} {d : Ro} {T1 T1' : Tb NdW} {T2 T2' : Tb SvW} {T3 T3' : Tb CkW}
theorem RoIs.lt (h : RoIs S w B B1 B2 B3 T1 T2 T3) : B < w.heap.size := block_lt h.ptr
theorem RoIs.lts (h : RoIs S w B B1 B2 B3 T1 T2 T3) : B1 < w.heap.size ∧ B2 < w.heap.size ∧ B3 < w.heap.size := ⟨h.t1.lt, h.t2.lt, h.t3.lt⟩
theorem RoIs.m1 (h : RoIs S w B B1 B2 B3 T1 T2 T3) : Sub S B B2 B3 B1 := h.t1.mine
theorem RoIs.m2 (h : RoIs S w B B1 B2 B3 T1 T2 T3) : Sub S B B1 B3 B2 := h.t2.mine
theorem RoIs.m3 (h : RoIs S w B B1 B2 B3 T1 T2 T3) : Sub S B B1 B2 B3 := h.t3.mine
theorem RoIs.ch (h : RoIs S w B B1 B2 B3 T1 T2 T3) : ∀ k, Ch3 B1 B2 B3 k → S k ∧ k ≠ B ∧ k ≠ gPw ∧ k < w.heap.size := by
  obtain ⟨l1, l2, l3⟩ := h.lts
  have m1 := h.m1
  have m2 := h.m2
  have m3 := h.m3
  rintro k (rfl | rfl | rfl)
  · exact ⟨m1.1, m1.2.1, m1.2.2.2.2, l1⟩
  · exact ⟨m2.1, m2.2.1, m2.2.2.2.2, l2⟩
  · exact ⟨m3.1, m3.2.1, m3.2.2.2.2, l3⟩
theorem RoIs.but (h : RoIs S w B B1 B2 B3 T1 T2 T3) (hb : But S' w w') (hS : ∀ k, S' k → ¬ S k) : RoIs S w' B B1 B2 B3 T1 T2 T3 :=
  ⟨h.pw.but hb fun e => hS _ e h.sg, h.sg, h.mine, (hb.block B h.lt fun e => hS B e h.mine.1).trans h.ptr, h.t1.but hb fun k e z => hS k e z.1, h.t2.but hb fun k e z => hS k e z.1, h.t3.but hb fun k e z => hS k e z.1, fun r hr => (h.tg r hr).but hb fun k e z => hS k e z.1⟩
theorem RoIs.below (h : RoIs S w B B1 B2 B3 T1 T2 T3) (hb : Below w.heap.size w w') : RoIs S w' B B1 B2 B3 T1 T2 T3 := h.but (S' := fun _ => False) (But.of_below hb) (fun _ h => h.elim)
theorem Sub.imp {a b : Nat} {k : Nat} (h : Sub S B a b k) (hs : S k → S' k) : Sub S' B a b k := ⟨hs h.1, h.2⟩
theorem RoIs.narrow (h : RoIs S w B B1 B2 B3 T1 T2 T3) (hs : ∀ k, k < w.heap.size → S k → S' k) : RoIs S' w B B1 B2 B3 T1 T2 T3 :=
  ⟨h.pw, hs _ h.pw.lt h.sg, ⟨hs _ h.lt h.mine.1, h.mine.2⟩, h.ptr, h.t1.narrow fun k hk z => z.imp (hs k hk), h.t2.narrow fun k hk z => z.imp (hs k hk), h.t3.narrow fun k hk z => z.imp (hs k hk), fun r hr => (h.tg r hr).narrow fun k hk z => ⟨hs k hk z.1, z.2⟩⟩
theorem RoAt.but (h : RoAt S w B B1 B2 B3 m d) (hb : But S' w w') (hS : ∀ k, S' k → ¬ S k) : RoAt S w' B B1 B2 B3 m d := by
  obtain ⟨h0, T1, T2, T3, h1, h2⟩ := h
  exact ⟨h0, T1, T2, T3, h1.but hb hS, h2⟩
theorem RoAt.below (h : RoAt S w B B1 B2 B3 m d) (hb : Below w.heap.size w w') : RoAt S w' B B1 B2 B3 m d := h.but (S' := fun _ => False) (But.of_below hb) (fun _ h => h.elim)
theorem RoAt.narrow (h : RoAt S w B B1 B2 B3 m d) (hs : ∀ k, k < w.heap.size → S k → S' k) : RoAt S' w B B1 B2 B3 m d := by
  obtain ⟨h0, T1, T2, T3, h1, h2⟩ := h
  exact ⟨h0, T1, T2, T3, h1.narrow hs, h2⟩
theorem RoAt.wide (h : RoAt S w B B1 B2 B3 m d) (hb : Below w.heap.size w w') {n : Nat} : RoAt (fun k => S k ∨ n ≤ k) w' B B1 B2 B3 m d := (h.below hb).narrow fun _ _ z => .inl z
theorem RoAt.lt (h : RoAt S w B B1 B2 B3 m d) : B < w.heap.size ∧ B1 < w.heap.size ∧ B2 < w.heap.size ∧ B3 < w.heap.size := by
  obtain ⟨h0, T1, T2, T3, h1, h2⟩ := h
  exact ⟨h1.lt, h1.lts⟩
theorem RoAt.ch (h : RoAt S w B B1 B2 B3 m d) : ∀ k, Ch3 B1 B2 B3 k → S k ∧ k ≠ B ∧ k ≠ gPw ∧ k < w.heap.size := by
  obtain ⟨h0, T1, T2, T3, h1, h2⟩ := h
  exact h1.ch
theorem RoAt.pw (h : RoAt S w B B1 B2 B3 m d) : PwIs w := by
  obtain ⟨h0, T1, T2, T3, h1, h2⟩ := h
  exact h1.pw
theorem RoIs.turn1 (h : RoIs S w B B1 B2 B3 T1 T2 T3) (ht : Nt.TAt (fun k => Sub S B B2 B3 k ∨ w.heap.size ≤ k) w' B1 T1') (hb : But (· = B1) w w') : RoIs (fun k => S k ∨ w.heap.size ≤ k) w' B B1 B2 B3 T1' T2 T3 := by
  obtain ⟨l1, l2, l3⟩ := h.lts
  have m1 := h.m1
  have hp := h.pw.lt
  have hl := h.lt
  refine ⟨h.pw.but hb fun e => m1.2.2.2.2 e.symm, .inl h.sg, ⟨.inl h.mine.1, h.mine.2⟩, (hb.block B hl fun e => m1.2.1 e.symm).trans h.ptr, ht.narrow fun k hk z => ?_, ?_, ?_, fun r hr => ?_⟩
  · rcases z with z | z
    · exact z.imp .inl
    · exact ⟨.inr z, by omega, by omega, by omega, by omega⟩
  · exact (h.t2.but hb fun k e z => z.2.2.1 e).narrow fun k _ z => z.imp .inl
  · exact (h.t3.but hb fun k e z => z.2.2.1 e).narrow fun k _ z => z.imp .inl
  · exact ((h.tg r hr).but hb fun k e z => z.2.1 e).narrow fun k _ z => ⟨.inl z.1, z.2⟩
theorem RoIs.turn2 (h : RoIs S w B B1 B2 B3 T1 T2 T3) (ht : Vt.TAt (fun k => Sub S B B1 B3 k ∨ w.heap.size ≤ k) w' B2 T2') (hb : But (· = B2) w w') (htg : ∀ r ∈ T2'.l, r ∈ T2.l ∨ ∃ r2 ∈ T2.l, r2.val = r.val) : RoIs (fun k => S k ∨ w.heap.size ≤ k) w' B B1 B2 B3 T1 T2' T3 := by
  obtain ⟨l1, l2, l3⟩ := h.lts
  have m1 := h.m2
  have hp := h.pw.lt
  have hl := h.lt
  refine ⟨h.pw.but hb fun e => m1.2.2.2.2 e.symm, .inl h.sg, ⟨.inl h.mine.1, h.mine.2⟩, (hb.block B hl fun e => m1.2.1 e.symm).trans h.ptr, ?_, ht.narrow fun k hk z => ?_, ?_, fun r hr => ?_⟩
  · exact (h.t1.but hb fun k e z => z.2.2.1 e).narrow fun k _ z => z.imp .inl
  · rcases z with z | z
    · exact z.imp .inl
    · exact ⟨.inr z, by omega, by omega, by omega, by omega⟩
  · exact (h.t3.but hb fun k e z => z.2.2.2.1 e).narrow fun k _ z => z.imp .inl
  · rcases htg r hr with hr | ⟨r2, hr, e⟩
    · exact ((h.tg r hr).but hb fun k e z => z.2.2.1 e).narrow fun k _ z => ⟨.inl z.1, z.2⟩
    · rw [← e]
      exact ((h.tg r2 hr).but hb fun k e z => z.2.2.1 e).narrow fun k _ z => ⟨.inl z.1, z.2⟩
theorem RoIs.put2 (h : RoIs S w B B1 B2 B3 T1 T2 T3) (ht : Vt.TAt (fun k => Sub S B B1 B3 k ∨ w.heap.size ≤ k) w' B2 T2') (hb : But (· = B2) w w') {v : SvW} (htg : ∀ r ∈ T2'.l, r.val = v ∨ r ∈ T2.l) (hv : TgAt (fun k => S k ∧ k ≠ B1 ∧ k ≠ B2 ∧ k ≠ B3) w v) : RoIs (fun k => S k ∨ w.heap.size ≤ k) w' B B1 B2 B3 T1 T2' T3 := by
  obtain ⟨l1, l2, l3⟩ := h.lts
  have m1 := h.m2
  have hp := h.pw.lt
  have hl := h.lt
  refine ⟨h.pw.but hb fun e => m1.2.2.2.2 e.symm, .inl h.sg, ⟨.inl h.mine.1, h.mine.2⟩, (hb.block B hl fun e => m1.2.1 e.symm).trans h.ptr, ?_, ht.narrow fun k hk z => ?_, ?_, fun r hr => ?_⟩
  · exact (h.t1.but hb fun k e z => z.2.2.1 e).narrow fun k _ z => z.imp .inl
  · rcases z with z | z
    · exact z.imp .inl
    · exact ⟨.inr z, by omega, by omega, by omega, by omega⟩
  · exact (h.t3.but hb fun k e z => z.2.2.2.1 e).narrow fun k _ z => z.imp .inl
  · rcases htg r hr with e | hr
    · rw [e]
      exact (hv.but hb fun k e z => z.2.2.1 e).narrow fun k _ z => ⟨.inl z.1, z.2⟩
    · exact ((h.tg r hr).but hb fun k e z => z.2.2.1 e).narrow fun k _ z => ⟨.inl z.1, z.2⟩
theorem RoIs.turn3 (h : RoIs S w B B1 B2 B3 T1 T2 T3) (ht : Ct.TAt (fun k => Sub S B B1 B2 k ∨ w.heap.size ≤ k) w' B3 T3') (hb : But (· = B3) w w') : RoIs (fun k => S k ∨ w.heap.size ≤ k) w' B B1 B2 B3 T1 T2 T3' := by
  obtain ⟨l1, l2, l3⟩ := h.lts
  have m1 := h.m3
  have hp := h.pw.lt
  have hl := h.lt
  refine ⟨h.pw.but hb fun e => m1.2.2.2.2 e.symm, .inl h.sg, ⟨.inl h.mine.1, h.mine.2⟩, (hb.block B hl fun e => m1.2.1 e.symm).trans h.ptr, ?_, ?_, ht.narrow fun k hk z => ?_, fun r hr => ?_⟩
  · exact (h.t1.but hb fun k e z => z.2.2.2.1 e).narrow fun k _ z => z.imp .inl
  · exact (h.t2.but hb fun k e z => z.2.2.2.1 e).narrow fun k _ z => z.imp .inl
  · rcases z with z | z
    · exact z.imp .inl
    · exact ⟨.inr z, by omega, by omega, by omega, by omega⟩
  · exact ((h.tg r hr).but hb fun k e z => z.2.2.2 e).narrow fun k _ z => ⟨.inl z.1, z.2⟩
theorem but1 (hb : But (· = B1) w w') : But (Ch3 B1 B2 B3) w w' := hb.mono fun k e => .inl e
theorem but2 (hb : But (· = B2) w w') : But (Ch3 B1 B2 B3) w w' := hb.mono fun k e => .inr (.inl e)
theorem but3 (hb : But (· = B3) w w') : But (Ch3 B1 B2 B3) w w' := hb.mono fun k e => .inr (.inr e)
theorem NoRo.below {p : Option Addr} (h : NoRo w p) (hb : Below w.heap.size w w') : NoRo w' p :=
  ⟨h.or.imp (fun z => z) fun ⟨B, e, k⟩ => ⟨B, e, (hb.block B (block_lt k)).trans k⟩⟩
end
structure SvL (w : World) (l' : List (Rw SvW)) (l : List (Rw SvA)) : Prop where
  eq : l'.map (rwMap (·.a)) = l
  tx : ∀ r ∈ l', Tx w r.val.A r.val.n r.val.c r.val.a.tags
theorem SvL.below {w w' : World} {l' : List (Rw SvW)} {l : List (Rw SvA)} (h : SvL w l' l) (hb : Below w.heap.size w w') : SvL w' l' l := ⟨h.eq, fun r hr => (h.tx r hr).below hb⟩
theorem SvL.len {w : World} {l' : List (Rw SvW)} {l : List (Rw SvA)} (h : SvL w l' l) : l'.length = l.length := by rw [← h.eq, List.length_map]
abbrev NewNd := NewRows ndC 4
abbrev NewCk := NewRows ckC 7
def NewSv (w : World) (l : List (Rw SvA)) (e : Ending) (w' : World) : Prop := ∃ l', NewRows svC 7 w l' e w' ∧ SvL w' l' l
end Go.Proofs.YtilkbfmaofmjoaaGreatDoor
namespace Go.Proofs.YtilkbfmaofmjoaaGreatDoor
open Go.RowKit
set_option linter.unusedSimpArgs false
set_option linter.unusedVariables false
theorem ro_guard : Tryz.prog.eqGuardType Tryz.prog.depth TRo = false := by kernel_rfl
theorem ro_pn (w : World) (p : Option Addr) : (Op.equalIn 9999 66 (.pointer p) (.pointer none)).run Tryz.prog w = .ok p.isNone w ∧ (Op.equalIn 9999 67 (.pointer p) (.pointer none)).run Tryz.prog w = .ok p.isNone w ∧ (Op.equalIn 9999 68 (.pointer p) (.pointer none)).run Tryz.prog w = .ok p.isNone w :=
  ⟨run_equalIn_pointer_nil w 9998 _ p (by kernel_rfl), run_equalIn_pointer_nil w 9998 _ p (by kernel_rfl), run_equalIn_pointer_nil w 9998 _ p (by kernel_rfl)⟩
section
variable {S : Nat → Prop} {w : World} {B B1 B2 B3 : Nat}
theorem tables_is (k : w.heap[B]? = some (.cells #[.pointer (some ⟨B1, 0, none⟩), .pointer (some ⟨B2, 0, none⟩), .pointer (some ⟨B3, 0, none⟩)] TRo (0, 0))) : Calls Tryz.prog 43 #[.pointer (some ⟨B, 0, none⟩)] w fun e w' => e = .returned (.agg #[.pointer (some ⟨B1, 0, none⟩), .pointer (some ⟨B2, 0, none⟩), .pointer (some ⟨B3, 0, none⟩)]) ∧ Below w.heap.size w w' := by
  obtain ⟨c0, c1, c2⟩ : w.cell? ⟨B, 0, none⟩ = some (.pointer (some ⟨B1, 0, none⟩)) ∧ w.cell? ⟨B, 1, none⟩ = some (.pointer (some ⟨B2, 0, none⟩)) ∧ w.cell? ⟨B, 2, none⟩ = some (.pointer (some ⟨B3, 0, none⟩)) := ⟨cellsN k 0 _ rfl, cellsN k 1 _ rfl, cellsN k 2 _ rfl⟩
  have hl := block_lt k
  have hk := heap_alloc_new w (.cells #[.pointer (some ⟨B1, 0, none⟩), .pointer (some ⟨B2, 0, none⟩), .pointer (some ⟨B3, 0, none⟩)] TRo)
  obtain ⟨q0, q1, q2⟩ : _ ∧ _ ∧ _ := ⟨cellsN hk 0 _ rfl, cellsN hk 1 _ rfl, cellsN hk 2 _ rfl⟩
  clear k hk
  go_enter Tryz.func43, Tryz.ntmps43
  go_wp2
  refine bodyPost_ret (v := .agg #[.pointer (some ⟨B1, 0, none⟩), .pointer (some ⟨B2, 0, none⟩), .pointer (some ⟨B3, 0, none⟩)]) (by simp [results, Tryz.results43, go_sem, q0, q1, q2]) rfl ⟨rfl, below1 _ _ _⟩
set_option maxRecDepth 100000 in
theorem made_is (k : w.heap[B]? = some (.cells #[.pointer (some ⟨B1, 0, none⟩), .pointer (some ⟨B2, 0, none⟩), .pointer (some ⟨B3, 0, none⟩)] TRo (0, 0))) : Calls Tryz.prog 55 #[.pointer (some ⟨B, 0, none⟩)] w fun e w' => e = .returned (.bool true) ∧ Below w.heap.size w w' := by
  have HT := Lib.hid (tables_is k)
  clear k
  go_enter Tryz.func55, Tryz.ntmps55
  go_wp2_with fail
  refine HT.out.mono ?_
  rintro e w' ⟨rfl, hb⟩
  have HB := Lib.hid hb
  have ug := ro_guard
  have e0 := (ro_pn w' (some ⟨B1, 0, none⟩)).1
  clear hb HT
  go_wp2
  go_ret
  exact ⟨rfl, HB.out⟩
end
theorem right_is (n : Int) (w : World) (h : -9223372036854775808 ≤ n ∧ n ≤ 9223372036854775807) : Calls Tryz.prog 56 #[.int .i64 n] w fun e w' => e = .returned (.bool (nodeB n)) ∧ w = w' := by
  by_cases h0 : 0 ≤ n
  · by_cases h1 : n < 8
    · have e : nodeB n = true := nodeB_iff.2 ⟨h0, by omega⟩
      have HE := Lib.hid e
      clear e
      go_enter Tryz.func56, Tryz.ntmps56
      go_wp2
      go_ret
      rw [HE.out]
      exact ⟨rfl, rfl⟩
    · have e : nodeB n = false := by rw [Bool.eq_false_iff]; intro e; have := nodeB_iff.1 e; omega
      have HE := Lib.hid e
      clear e
      go_enter Tryz.func56, Tryz.ntmps56
      go_wp2
      go_ret
      rw [HE.out]
      exact ⟨rfl, rfl⟩
  · have e : nodeB n = false := by rw [Bool.eq_false_iff]; intro e; have := nodeB_iff.1 e; omega
    have HE := Lib.hid e
    clear e
    go_enter Tryz.func56, Tryz.ntmps56
    go_wp2
    go_ret
    rw [HE.out]
    exact ⟨rfl, rfl⟩
theorem short_is (s : ByteArray) (w : World) (h : s.size ≤ maxLen) : Calls Tryz.prog 58 #[.string s] w fun e w' => e = .returned (.bool (decide (s.size ≤ 32))) ∧ w = w' := by
  obtain ⟨n, hn⟩ : ∃ n, s.size = n := ⟨_, rfl⟩
  rw [hn] at h ⊢
  unfold maxLen at h
  by_cases h1 : n ≤ 32
  · rw [decide_eq_true h1]
    have d : decide ((n : Int) ≤ 32) = true := decide_eq_true (by omega)
    go_enter Tryz.func58, Tryz.ntmps58
    go_wp2
    go_ret
    exact ⟨rfl, rfl⟩
  · rw [decide_eq_false h1]
    have d : decide ((n : Int) ≤ 32) = false := decide_eq_false (by omega)
    go_enter Tryz.func58, Tryz.ntmps58
    go_wp2
    go_ret
    exact ⟨rfl, rfl⟩
theorem below_grown (w : World) (k : Nat) (os : Array Obj) : Below w.heap.size w (Sort.grow (w.drewN k) os) :=
  ⟨rfl, rfl, rfl, by unfold Sort.grow; show w.heap.size ≤ (w.heap ++ os).size; simp, fun i hi => by
    unfold Sort.grow
    show (w.heap ++ os)[i]? = _
    exact Array.getElem?_append_left hi⟩
theorem key_str (n : Int) (id : ByteArray) : (⟨(Lib.itoa n).toArray⟩ : ByteArray) ++ (⟨#[47]⟩ : ByteArray) ++ id = keyO n id := by
  apply text_inj
  rw [keyO_list]
  unfold keyL
  simp
theorem rkey_any (n : Int) (id : ByteArray) (w : World) (h : -9223372036854775808 ≤ n ∧ n ≤ 9223372036854775807) (hs : id.size ≤ 140737488355328) (hp : PwIs w) : Calls Tryz.prog 52 #[.int .i64 n, .string id] w fun e w' => e = .returned (.string (keyO n id)) ∧ Below w.heap.size w w' := by
  have HI := Lib.hid (Tryz.strconv_Itoa n h.1 h.2 w hp)
  have HK := Lib.hid (key_str n id)
  obtain ⟨L, hL⟩ : ∃ L, Lib.itoa n = L := ⟨_, rfl⟩
  have hl := Lib.itoa_length_le n h.1 h.2
  rw [hL] at HI HK hl
  clear hp h hL
  go_enter Tryz.func52, Tryz.ntmps52
  go_wp2_with fail
  refine HI.out.mono ?_
  rintro e w1 ⟨rfl, k, os, rfl⟩
  have HB : Hid (Below w.heap.size w (Sort.grow (w.drewN k) os)) := Lib.hid (Go.Proofs.YtilkbfmaofmjoaaGreatDoor.below_grown w k os)
  go_wp2
  go_ret
  rw [HK.out]
  exact ⟨rfl, HB.out⟩
end Go.Proofs.YtilkbfmaofmjoaaGreatDoor
namespace Go.Proofs.YtilkbfmaofmjoaaGreatDoor
open Go.RowKit
set_option linter.unusedSimpArgs false
set_option linter.unusedVariables false
theorem below_drew {B : Nat} {a w : World} (h : Below B a w) : Below B a w.drew := ⟨h.os, h.tape, h.output, h.size, h.block⟩
theorem mid_blk (w : World) (a b c : Obj) : (((w.alloc a).alloc b).alloc c).drew.heap[w.heap.size + 1]? = some b := by
  show (((w.alloc a).alloc b).alloc c).heap[w.heap.size + 1]? = some b
  have h := heap_alloc_new (w.alloc a) b
  have e : (w.alloc a).heap.size = w.heap.size + 1 := by simp
  rw [e] at h
  exact (Below.heap_alloc _ c _ (by simp)).trans h
theorem tri_blk (w : World) (a b c : Obj) : (((w.alloc a).alloc b).alloc c).heap[w.heap.size]? = some a ∧ (((w.alloc a).alloc b).alloc c).heap[w.heap.size + 1]? = some b ∧ (((w.alloc a).alloc b).alloc c).heap[w.heap.size + 1 + 1]? = some c ∧ (((w.alloc a).alloc b).alloc c).heap.size = w.heap.size + 3 := by
  have e1 : (w.alloc a).heap.size = w.heap.size + 1 := by simp
  have e2 : ((w.alloc a).alloc b).heap.size = w.heap.size + 1 + 1 := by simp
  refine ⟨?_, mid_blk w a b c, ?_, by simp⟩
  · exact (Below.heap_alloc _ c _ (by simp; omega)).trans ((Below.heap_alloc _ b _ (by simp)).trans (heap_alloc_new w a))
  · have h := heap_alloc_new ((w.alloc a).alloc b) c
    rw [e2] at h
    exact h
def kdNode : Value := .agg #[.func (.func 88) #[] #[], .func (.func 89) #[] #[]]
theorem ofNode_any (w : World) : Calls Tryz.prog 45 #[] w fun e w' => e = .returned kdNode ∧ Below w.heap.size w w' := by
  have hk := heap_alloc_new w (.cells #[.func (.func 88) #[] #[], .func (.func 89) #[] #[]] 92)
  obtain ⟨q0, q1⟩ : _ ∧ _ := ⟨cellsN hk 0 _ rfl, cellsN hk 1 _ rfl⟩
  clear hk
  go_enter Tryz.func45, Tryz.ntmps45
  go_wp2
  refine bodyPost_ret (v := kdNode) (by simp [results, Tryz.results45, go_sem, q0, q1, kdNode]) rfl ⟨rfl, below1 _ _ _⟩
def kdService : Value := .agg #[.func (.func 92) #[] #[], .func (.func 93) #[] #[]]
theorem ofService_any (w : World) : Calls Tryz.prog 48 #[] w fun e w' => e = .returned kdService ∧ Below w.heap.size w w' := by
  have hk := heap_alloc_new w (.cells #[.func (.func 92) #[] #[], .func (.func 93) #[] #[]] 100)
  obtain ⟨q0, q1⟩ : _ ∧ _ := ⟨cellsN hk 0 _ rfl, cellsN hk 1 _ rfl⟩
  clear hk
  go_enter Tryz.func48, Tryz.ntmps48
  go_wp2
  refine bodyPost_ret (v := kdService) (by simp [results, Tryz.results48, go_sem, q0, q1, kdService]) rfl ⟨rfl, below1 _ _ _⟩
def kdCheck : Value := .agg #[.func (.func 96) #[] #[], .func (.func 97) #[] #[]]
theorem ofCheck_any (w : World) : Calls Tryz.prog 51 #[] w fun e w' => e = .returned kdCheck ∧ Below w.heap.size w w' := by
  have hk := heap_alloc_new w (.cells #[.func (.func 96) #[] #[], .func (.func 97) #[] #[]] 108)
  obtain ⟨q0, q1⟩ : _ ∧ _ := ⟨cellsN hk 0 _ rfl, cellsN hk 1 _ rfl⟩
  clear hk
  go_enter Tryz.func51, Tryz.ntmps51
  go_wp2
  refine bodyPost_ret (v := kdCheck) (by simp [results, Tryz.results51, go_sem, q0, q1, kdCheck]) rfl ⟨rfl, below1 _ _ _⟩
set_option maxHeartbeats 2000000 in
set_option maxRecDepth 100000 in
theorem tellNode_any (r : Rw NdW) (w : World) : Calls Tryz.prog 88 #[Nt.trV r] w fun e w' => e = .returned (ndV (rwMap (fun v => v.a) r)) ∧ Below w.heap.size w w' := by
  unfold Nt.trV
  go_enter Tryz.func88, Tryz.ntmps88
  have hk := mid_blk w (.cells #[.string r.key, .int .i64 r.val.a.node, .string r.val.a.addr, .int .u64 (r.val.jm : Int), .int .u64 (r.val.ji : Int), .int .u64 (r.made : Int), .int .u64 (r.ix : Int)] 130) (.cells #[.int .i64 r.val.a.node, .string r.val.a.addr, .int .u64 (r.made : Int), .int .u64 (r.ix : Int)] TNd) (.cells #[.int .i64 r.val.a.node, .string r.val.a.addr, .int .u64 (r.made : Int), .int .u64 (r.ix : Int)] TNd)
  obtain ⟨q0, q1, q2, q3⟩ := nd_blk hk
  clear hk
  go_wp2
  go_region
  go_wp2
  refine bodyPost_ret (v := ndV (rwMap (fun v => v.a) r)) (by simp [results, Tryz.results88, go_sem, q0, q1, q2, q3, ndV, rwMap]) rfl ⟨rfl, below_drew ((((Below.refl _ w).alloc (Nat.le_refl _) _).alloc (by simp) _).alloc (by simp; omega) _)⟩
set_option maxHeartbeats 2000000 in
set_option maxRecDepth 100000 in
theorem tellCheck_any (r : Rw CkW) (w : World) : Calls Tryz.prog 96 #[Ct.trV r] w fun e w' => e = .returned (ckV (rwMap (fun v => v.a) r)) ∧ Below w.heap.size w w' := by
  unfold Ct.trV
  go_enter Tryz.func96, Tryz.ntmps96
  have hk := mid_blk w (.cells #[.string r.key, .int .i64 r.val.a.node, .string r.val.a.id, .string r.val.a.svc, .string r.val.a.note, .int .i64 r.val.a.status, .int .u64 (r.val.jm : Int), .int .u64 (r.val.ji : Int), .int .u64 (r.made : Int), .int .u64 (r.ix : Int)] 120) (.cells #[.int .i64 r.val.a.node, .string r.val.a.id, .string r.val.a.svc, .string r.val.a.note, .int .i64 r.val.a.status, .int .u64 (r.made : Int), .int .u64 (r.ix : Int)] TCk) (.cells #[.int .i64 r.val.a.node, .string r.val.a.id, .string r.val.a.svc, .string r.val.a.note, .int .i64 r.val.a.status, .int .u64 (r.made : Int), .int .u64 (r.ix : Int)] TCk)
  obtain ⟨q0, q1, q2, q3, q4, q5, q6⟩ := ck_blk hk
  clear hk
  go_wp2
  go_region
  go_wp2
  refine bodyPost_ret (v := ckV (rwMap (fun v => v.a) r)) (by simp [results, Tryz.results96, go_sem, q0, q1, q2, q3, q4, q5, q6, ckV, rwMap]) rfl ⟨rfl, below_drew ((((Below.refl _ w).alloc (Nat.le_refl _) _).alloc (by simp) _).alloc (by simp; omega) _)⟩
end Go.Proofs.YtilkbfmaofmjoaaGreatDoor
namespace Go.Proofs.YtilkbfmaofmjoaaGreatDoor
open Go.RowKit
set_option linter.unusedSimpArgs false
set_option linter.unusedVariables false
theorem wpList_append_tx {w : World} {ops : Array Oper} {rest : List Oper} {o : Oper} {a : Act} {Q : Exit → Act → World → Prop} (hgd : o.guard = none) (s x : Operand)
    (ho : o.op = .call { callee := .builtin .append, args := #[s, x], argTypes := #[28, 28] })
    (hs : a.eval s = .slice none 0 0) (A : Option Addr) (n c : Nat) (l : List ByteArray) (hx : a.eval x = .slice A n c) (hc : Tx w A n c l) (hn : n * 16 ≤ 140737488355328)
    (h : Hid (∀ v' w' A' c', v' = .slice A' n c' → Tx w' A' n c' l → (∀ b off, A' = some ⟨b, off, none⟩ → w.heap.size ≤ b) → Below w.heap.size w w' → wpList Tryz.prog ops Q rest (a.put o.dst v') w')) : wpList Tryz.prog ops Q (o :: rest) a w := by
  obtain ⟨i0, hi, hz0, hz1, hz2⟩ := info_parts tx_info
  have hl := hc.len
  refine wpList_append_sk hgd s x _ ho i0 _ 16 Tryz.underlying28 hi hz0 hz1 hz2 rfl (by decide) txC_len txC_one w.heap.size (.slice none 0 0) [] hs (rowK.nil _ _) A c l (by rw [hl]; exact hx) (by rw [hl]; exact hc.row) hc.nil (by unfold maxLen; simp; omega) (by simp; omega) (Nat.le_refl _) (Lib.hid fun v' w' hr hg => ?_)
  rw [List.nil_append] at hr
  obtain ⟨A', c', rfl, h1, h2, h3, h4⟩ := SK.of_row txC_len hr
  have h5 := SK.row0 hr
  rw [hl] at h1 h2 ⊢
  exact h.out _ w' A' c' rfl ⟨h1, h2, h3, fun e => by
    rcases h5 with ⟨_, e2⟩ | ⟨g, e2⟩
    · exact e2
    · rw [e] at e2; cases e2⟩ h4 ((Below.refl _ w).grown hg (Nat.le_refl _) fun _ e => by cases e)
set_option maxHeartbeats 4000000 in
set_option maxRecDepth 100000 in
theorem tellService_any (r : Rw SvW) (w : World) (ht : Tx w r.val.A r.val.n r.val.c r.val.a.tags) (hn : r.val.n * 16 ≤ 140737488355328) : Calls Tryz.prog 92 #[Vt.trV r] w fun e w' => ∃ A c, e = .returned (svV (⟨r.key, { r.val with A := A, c := c }, r.made, r.ix⟩ : Rw SvW)) ∧ Tx w' A r.val.n c r.val.a.tags ∧ (∀ b off, A = some ⟨b, off, none⟩ → w.heap.size ≤ b) ∧ Below w.heap.size w w' := by
  have HT := Lib.hid ht
  have HN := Lib.hid hn
  unfold Vt.trV
  clear ht hn
  go_enter Tryz.func92, Tryz.ntmps92
  go_wp2_with (at_builtin; refine wpList_append_tx rfl (.const (.slice none 0 0)) (.tmp 7) rfl rfl r.val.A r.val.n r.val.c r.val.a.tags rfl ?qa HN.out ?_)
  case qa => exact HT.out.below ((((Below.refl _ w).alloc (Nat.le_refl _) _).alloc (by simp) _).alloc (by simp; omega) _)
  refine Lib.hid ?_
  rintro v' W A2 c2 rfl htx hge hb
  have h0 := (tri_blk w (.cells #[.string r.key, .int .i64 r.val.a.node, .string r.val.a.id, .string r.val.a.name, .slice r.val.A r.val.n r.val.c, .int .i64 r.val.a.port, .int .u64 (r.val.jm : Int), .int .u64 (r.val.ji : Int), .int .u64 (r.made : Int), .int .u64 (r.ix : Int)] 132) (.cells #[.int .i64 0, .string ⟨#[]⟩, .string ⟨#[]⟩, .slice none 0 0, .int .i64 0, .int .u64 0, .int .u64 0] TSv) (.cells #[.int .i64 r.val.a.node, .string r.val.a.id, .string r.val.a.name, .slice r.val.A r.val.n r.val.c, .int .i64 r.val.a.port, .int .u64 (r.val.jm : Int), .int .u64 (r.val.ji : Int)] TSv)).1
  have h1 := (tri_blk w (.cells #[.string r.key, .int .i64 r.val.a.node, .string r.val.a.id, .string r.val.a.name, .slice r.val.A r.val.n r.val.c, .int .i64 r.val.a.port, .int .u64 (r.val.jm : Int), .int .u64 (r.val.ji : Int), .int .u64 (r.made : Int), .int .u64 (r.ix : Int)] 132) (.cells #[.int .i64 0, .string ⟨#[]⟩, .string ⟨#[]⟩, .slice none 0 0, .int .i64 0, .int .u64 0, .int .u64 0] TSv) (.cells #[.int .i64 r.val.a.node, .string r.val.a.id, .string r.val.a.name, .slice r.val.A r.val.n r.val.c, .int .i64 r.val.a.port, .int .u64 (r.val.jm : Int), .int .u64 (r.val.ji : Int)] TSv)).2.1
  have h2 := (tri_blk w (.cells #[.string r.key, .int .i64 r.val.a.node, .string r.val.a.id, .string r.val.a.name, .slice r.val.A r.val.n r.val.c, .int .i64 r.val.a.port, .int .u64 (r.val.jm : Int), .int .u64 (r.val.ji : Int), .int .u64 (r.made : Int), .int .u64 (r.ix : Int)] 132) (.cells #[.int .i64 0, .string ⟨#[]⟩, .string ⟨#[]⟩, .slice none 0 0, .int .i64 0, .int .u64 0, .int .u64 0] TSv) (.cells #[.int .i64 r.val.a.node, .string r.val.a.id, .string r.val.a.name, .slice r.val.A r.val.n r.val.c, .int .i64 r.val.a.port, .int .u64 (r.val.jm : Int), .int .u64 (r.val.ji : Int)] TSv)).2.2.1
  have k1 := (hb.block _ (by omega)).trans h0
  have k2 := (hb.block _ (by omega)).trans h1
  have k3 := (hb.block _ (by omega)).trans h2
  have HB : Hid (Below w.heap.size w W) := Lib.hid ((((Below.refl _ w).alloc (Nat.le_refl _) _).alloc (by simp) _).alloc (by simp; omega) _ |>.trans (hb.mono (by omega)))
  have HTx := Lib.hid htx
  have HGe := Lib.hid hge
  obtain ⟨X, hX⟩ : ∃ X, w.heap.size = X := ⟨_, rfl⟩
  rw [hX] at k1 k2 k3 HGe HB ⊢
  have HX := Lib.hid hX
  clear h0 h1 h2 hb htx hge hX
  have f1 := Vt.blk k1
  have f3 := sv_blk k3
  have z3 := (fun i => blk_froz k3 i : ∀ i, W.frozen? ⟨X + 1 + 1, i, none⟩ = false)
  have z30 := z3 3
  have z31 := z3 5
  have z32 := z3 6
  have l1 := block_lt k1
  have l3 := block_lt k3
  go_wp2
  go_region
  have g3 := block_set (block_set (block_set k3 3 (.slice A2 r.val.n c2)) 5 (.int .u64 (r.made : Int))) 6 (.int .u64 (r.ix : Int))
  have hb3 : But (· = X + 1 + 1) W (((W.setCell ⟨X + 1 + 1, 3, none⟩ (.slice A2 r.val.n c2)).setCell ⟨X + 1 + 1, 5, none⟩ (.int .u64 (r.made : Int))).setCell ⟨X + 1 + 1, 6, none⟩ (.int .u64 (r.ix : Int))).drew := (((But.set (S := (· = X + 1 + 1)) W (p := ⟨X + 1 + 1, 3, none⟩) rfl _).trans (But.set (S := (· = X + 1 + 1)) _ (p := ⟨X + 1 + 1, 5, none⟩) rfl _)).trans (But.set (S := (· = X + 1 + 1)) _ (p := ⟨X + 1 + 1, 6, none⟩) rfl _)).drew
  have g3' : ((((W.setCell ⟨X + 1 + 1, 3, none⟩ (.slice A2 r.val.n c2)).setCell ⟨X + 1 + 1, 5, none⟩ (.int .u64 (r.made : Int))).setCell ⟨X + 1 + 1, 6, none⟩ (.int .u64 (r.ix : Int))).drew).heap[X + 1 + 1]? = some (.cells #[.int .i64 r.val.a.node, .string r.val.a.id, .string r.val.a.name, .slice A2 r.val.n c2, .int .i64 r.val.a.port, .int .u64 (r.made : Int), .int .u64 (r.ix : Int)] TSv (0, 0)) := g3
  have g2 := (hb3.block (X + 1) (by omega) (by omega)).trans k2
  obtain ⟨W2, hW2⟩ : ∃ W2, (((W.setCell ⟨X + 1 + 1, 3, none⟩ (.slice A2 r.val.n c2)).setCell ⟨X + 1 + 1, 5, none⟩ (.int .u64 (r.made : Int))).setCell ⟨X + 1 + 1, 6, none⟩ (.int .u64 (r.ix : Int))).drew = W2 := ⟨_, rfl⟩
  rw [hW2] at hb3 g3' g2 ⊢
  have HT2 : Hid (Tx W2 A2 r.val.n c2 r.val.a.tags) := Lib.hid ⟨HTx.out.row.but hb3 (fun b off e hn z => by have := HGe.out b off e; omega), HTx.out.le, HTx.out.max, HTx.out.nil⟩
  have HB2 : Hid (Below X w W2) := Lib.hid (HB.out.trans (hb3.below (by have := HB.out.size; have := HX.out; omega) fun k hk e => by omega))
  have h5 := sv_blk g3'
  have h6 := sv_blk g2
  have zz := (fun i => blk_froz g2 i : ∀ i, W2.frozen? ⟨X + 1, i, none⟩ = false)
  have z0 := zz 0
  have z1 := zz 1
  have z2 := zz 2
  have z3 := zz 3
  have z4 := zz 4
  have z5 := zz 5
  have z6 := zz 6
  have l5 := block_lt g3'
  have l6 := block_lt g2
  have HL2 := Lib.hid (setL_all g2 [.int .i64 r.val.a.node, .string r.val.a.id, .string r.val.a.name, .slice A2 r.val.n c2, .int .i64 r.val.a.port, .int .u64 (r.made : Int), .int .u64 (r.ix : Int)] rfl)
  have HL3 := Lib.hid (but_setL (X + 1) [.int .i64 r.val.a.node, .string r.val.a.id, .string r.val.a.name, .slice A2 r.val.n c2, .int .i64 r.val.a.port, .int .u64 (r.made : Int), .int .u64 (r.ix : Int)] 0 W2)
  simp only [setL] at HL2 HL3
  clear hW2 hb3 g3' g2 g3 k1 k2 k3 f1 f3 z30 z31 z32 l1 l3 zz
  go_wp2
  have q := sv_blk HL2.out
  obtain ⟨q0, q1, q2, q3, q4, q5, q6⟩ := q
  simp only [Nat.reduceAdd] at q0 q1 q2 q3 q4 q5 q6
  refine bodyPost_ret (v := .agg #[.int .i64 r.val.a.node, .string r.val.a.id, .string r.val.a.name, .slice A2 r.val.n c2, .int .i64 r.val.a.port, .int .u64 (r.made : Int), .int .u64 (r.ix : Int)]) (by simp [results, Tryz.results92, go_sem, q0, q1, q2, q3, q4, q5, q6]) rfl ⟨A2, c2, rfl, ⟨HT2.out.row.but HL3.out (fun b off e hn z => by have := HGe.out b off e; omega), HT2.out.le, HT2.out.max, HT2.out.nil⟩, (fun b off e => by have := HGe.out b off e; have := HX.out; omega), by rw [HX.out]; exact HB2.out.trans (HL3.out.below (by have := HB2.out.size; have := HX.out; omega) fun k hk e => by omega)⟩
end Go.Proofs.YtilkbfmaofmjoaaGreatDoor
