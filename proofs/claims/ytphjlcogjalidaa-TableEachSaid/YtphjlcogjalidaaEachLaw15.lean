/-
  What is gone over is what the table had when it was asked: the law sodalitylaw15.TableEach, walked (layer 15).
-/
import Derived.Test.YtphjlcogjalidaaTpEach
import Derived.Test.YtphjlcogjalidaaTpPrg
import Derived.Test.YtphjlcogjalidaaTbStep
import Derived.Test.YtphjlcogjalidaaPlaysLaw15
namespace Go.Proofs.Ytphjlcogjalidaa
open Go.RowKit Go.Shelf Go.Rel
set_option linter.unusedSimpArgs false
set_option linter.unusedVariables false
attribute [local go_sem] Oper.semAt_some

/-- The program's table t behind block B, wherever its rows lie. -/
def TabAt (w : World) (B : Nat) (t : Tb Int) : Prop := ∃ S, PtAt S w B t
theorem TabAt.below {w w' : World} {B : Nat} {t : Tb Int} (h : TabAt w B t) (hb : Below w.heap.size w w') : TabAt w' B t := by
  obtain ⟨S, h1⟩ := h
  exact ⟨S, h1.below hb⟩
theorem TabAt.put {w : World} {B : Nat} {t : Tb Int} (h : TabAt w B t) (k : ByteArray) (v : Int) (i : Nat) (hi : i < 18446744073709551616) (hk : k.size ≤ maxLen) :
    Calls Try.prog 17 #[.pointer (some ⟨B, 0, none⟩), .string k, .int .i64 v, .int .u64 (i : Int)] w fun e w' => e = .returned (putV t k v i) ∧ TabAt w' B (t.putT k v i) ∧ But (· = B) w w' := by
  obtain ⟨S, h1⟩ := h
  exact (put_any k v i h1 hi hk).mono fun e w' ⟨a, b, c⟩ => ⟨a, ⟨_, b⟩, c⟩
theorem PtAt.own {S : Nat → Prop} {w w' : World} {B : Nat} {t : Tb Int} {row : Option Nat} (h : PtAt S w B t) (hg : w.grownBy w' row) (hr : ∀ r, row = some r → ∃ o : Obj, w.heap[r]? = some o ∧ o.isCells = false) : PtAt S w' B t := by
  obtain ⟨hok, A, c, h1⟩ := h
  have hbk := (grownBy_keeps_cells hg hr h1.blk rfl).trans h1.blk
  refine ⟨hok, A, c, h1.mine, hbk, ⟨h1.row.1, fun hn => ?_⟩, h1.own, h1.le, h1.max, h1.at0⟩
  obtain ⟨b, off, e, hlt, hc⟩ := h1.row.2 hn
  obtain ⟨o, ho, hoc⟩ := cells_of_cell (hc 0 hn 0 _ rfl)
  have h2 := (grownBy_keeps_cells hg hr ho hoc)
  exact ⟨b, off, e, Nat.lt_of_lt_of_le hlt hg.size, fun j hj => (hc j hj).of_block h2⟩
/-- A table that has nothing in a block. -/
def TabNo (w : World) (B X : Nat) : Prop := ∃ t S, PtAt S w B t ∧ ¬ S X
def eaR (S : Nat → Prop) (W0 : World) (b : Nat) (off : Nat) (n : Nat) (c : Nat) (B : Nat) (P5 : Nat) (k : Nat) (s : TSt) : Nat → Value → World → Prop
  | 0, v, _ => v = .pointer (some ⟨B, 0, none⟩)
  | 1, v, _ => v = .slice (some ⟨b, off, none⟩) n c
  | 2, v, _ => v = .int .i64 (k : Int)
  | 3, v, _ => v = .pointer (some ⟨b, off + k * 4, none⟩)
  | 4, v, _ => v = .pointer (some ⟨b, off + k * 4 + 1, none⟩)
  | 5, v, _ => v = .string s.key
  | 6, v, _ => v = .slice (some ⟨b, off, none⟩) n c
  | 7, v, _ => v = .int .i64 (k : Int)
  | 8, v, _ => v = .pointer (some ⟨b, off + k * 4, none⟩)
  | 9, v, _ => v = .pointer (some ⟨b, off + k * 4 + 2, none⟩)
  | 10, v, _ => v = .int .i64 s.v
  | 11, v, _ => v = .slice (some ⟨b, off, none⟩) n c
  | 12, v, _ => v = .int .i64 (k : Int)
  | 13, v, _ => v = .pointer (some ⟨b, off + k * 4, none⟩)
  | 14, v, _ => v = .pointer (some ⟨b, off + k * 4 + 3, none⟩)
  | 15, v, _ => v = .int .u64 (s.ix : Int)
  | 16, v, w => True
  | _, _, _ => True
theorem eaR_stable (W0 : World) (b : Nat) (off : Nat) (n : Nat) (c : Nat) (B : Nat) (P5 : Nat) (k : Nat) (s : TSt) : ∀ i v w w', eaR (OldB W0) W0 b off n c B P5 k s i v w → But (OldB W0) w w' → eaR (OldB W0) W0 b off n c B P5 k s i v w'
  | 0, _, _, _, h, _ | 1, _, _, _, h, _ | 2, _, _, _, h, _ | 3, _, _, _, h, _ | 4, _, _, _, h, _ | 5, _, _, _, h, _ | 6, _, _, _, h, _ | 7, _, _, _, h, _ | 8, _, _, _, h, _ | 9, _, _, _, h, _ | 10, _, _, _, h, _ | 11, _, _, _, h, _ | 12, _, _, _, h, _ | 13, _, _, _, h, _ | 14, _, _, _, h, _ | 15, _, _, _, h, _ => h
  | 16, _, _, _, h, g => trivial
  | _ + 17, _, _, _, h, _ => h
/-- What a round lays into the law's frame. -/
def eaG (a : Act) (x : Rw Int) : Act := { tmps := (((a.tmps.setIfInBounds 55 (.string x.key)).setIfInBounds 56 (.int .i64 x.val)).setIfInBounds 10 (.string x.key)).setIfInBounds 11 (.int .i64 x.val), defers := [] }
theorem keepsFrom_but {S : Nat → Prop} {W W' : World} {B : Nat} (h : But S W W') (hS : ∀ k, S k → k < B) : KeepsFrom B W W' := ⟨h.size, fun k o hB hk _ => (h.block k (block_lt hk) (fun e => by have := hS k e; omega)).trans hk⟩
set_option maxHeartbeats 8000000 in
set_option maxRecDepth 100000 in
theorem each_walk (A : Option Addr) (n c : Nat) (ss : List TSt) (w : World) (hS : SK tsC 4 w A n ss) (hok : ∀ s ∈ ss, s.ok) (hn : n ≤ maxLen) (m : TSt) (hm : m.ok) :
    Calls Try.prog 4 #[.slice A n c, tsV m] w fun e w' => e = .returned (.bool true) ∧ Below w.heap.size w w' := by
  unfold maxLen at hn
  have hn' : (n : Int) ≤ 9223372036854775807 := by omega
  obtain ⟨g0, hg0⟩ : ∃ g0, w.heap.size = g0 := ⟨_, rfl⟩
  have b1 := below1 w #[.int .i64 m.kind, .string m.key, .int .i64 m.v, .int .u64 (m.ix : Int)] TS
  have k1 := heap_alloc_new w (.cells #[.int .i64 m.kind, .string m.key, .int .i64 m.v, .int .u64 (m.ix : Int)] TS)
  obtain ⟨W1, hW1⟩ : ∃ W1, w.alloc (.cells #[.int .i64 m.kind, .string m.key, .int .i64 m.v, .int .u64 (m.ix : Int)] TS) = W1 := ⟨_, rfl⟩
  have s1 : W1.heap.size = g0 + 1 := by rw [← hW1, ← hg0]; simp
  rw [hW1] at b1 k1
  rw [hg0] at k1
  have b2 := below1 W1 #[.bool false] 4
  have k2 := heap_alloc_new W1 (.cells #[.bool false] 4)
  obtain ⟨W2, hW2⟩ : ∃ W2, W1.alloc (.cells #[.bool false] 4) = W2 := ⟨_, rfl⟩
  have s2 : W2.heap.size = g0 + 2 := by rw [← hW2]; simp [s1]
  rw [hW2] at b2 k2
  rw [s1] at k2
  have k1' := (b2.block g0 (by omega)).trans k1
  have HB2 : Hid (Below w.heap.size w W2) := Lib.hid (b1.trans (b2.mono b1.size))
  have HK1 := Lib.hid k1'
  have HK2 := Lib.hid k2
  have HW1 := Lib.hid hW1
  have HW2 := Lib.hid hW2
  have HS1 := Lib.hid s1
  have HS2 := Lib.hid s2
  have HG0 := Lib.hid hg0
  have HSS := Lib.hid hS
  have HOk := Lib.hid hok
  have HM := Lib.hid hm
  have HSl : Hid (ss.length = n) := Lib.hid hS.1
  have HWk := Lib.hid (works_any prg W2)
  unfold tsV
  clear b1 k1 hW1 s1 b2 k2 hW2 s2 k1' hg0 hS hok hm hn
  refine (callsIn_wide (n := 6)).1 ?_
  refine callsIn_of_wp_marks Try.func4 rfl trivial ?_ rfl
  refine wpIn_wide.2 ?_
  simp only [Try.ntmps4, List.size_toArray, List.length_cons, List.length_nil, Nat.reduceAdd, Nat.reduceSub, Array.replicate_succ, Array.replicate_zero, List.push_toArray, List.append_toArray, List.nil_append, List.cons_append]
  go_wp2_with fail
  rw [HW1.out, HG0.out, HW2.out]
  refine HWk.out.mono ?_
  rintro e w3 ⟨rfl, hb3⟩
  have HB3 : Hid (Below w.heap.size w w3) := Lib.hid (HB2.out.trans (hb3.mono HB2.out.size))
  have HK13 := Lib.hid ((hb3.block g0 (block_lt HK1.out)).trans HK1.out)
  have HK23 := Lib.hid ((hb3.block (g0 + 1) (block_lt HK2.out)).trans HK2.out)
  have HS3 : Hid (g0 + 2 ≤ w3.heap.size) := Lib.hid (by have := hb3.size; have := HS2.out; omega)
  have HNw := Lib.hid (new_any 64 w3 (by omega))
  clear HWk HK1 HK2 HB2 HW1 HW2 hb3
  go_wp2_with fail
  refine HNw.out.mono ?_
  rintro e w4 ⟨B, rfl, hp4, hb4⟩
  have hB4 : w3.heap.size ≤ B := by
    obtain ⟨_, A0, c0, h0⟩ := hp4
    exact h0.mine
  have b5 := below1 w4 #[.pointer (some ⟨B, 0, none⟩)] 23
  have k5 := heap_alloc_new w4 (.cells #[.pointer (some ⟨B, 0, none⟩)] 23)
  obtain ⟨W5, hW5⟩ : ∃ W5, w4.alloc (.cells #[.pointer (some ⟨B, 0, none⟩)] 23) = W5 := ⟨_, rfl⟩
  obtain ⟨P5, hP5⟩ : ∃ P5, w4.heap.size = P5 := ⟨_, rfl⟩
  rw [hW5] at b5 k5
  rw [hP5] at k5
  have hlt4 := hp4.lt
  have HB5 : Hid (Below w.heap.size w W5) := Lib.hid ((HB3.out.trans (hb4.mono HB3.out.size)).trans (b5.mono (HB3.out.trans (hb4.mono HB3.out.size)).size))
  have hb45 : Below w3.heap.size w3 W5 := hb4.trans (b5.mono hb4.size)
  have HK15 := Lib.hid ((hb45.block g0 (block_lt HK13.out)).trans HK13.out)
  have HK25 := Lib.hid ((hb45.block (g0 + 1) (block_lt HK23.out)).trans HK23.out)
  have HT5 : Hid (TabAt W5 B ⟨mostT 64, [], 0⟩) := Lib.hid ⟨_, hp4.below b5⟩
  have HK5 := Lib.hid k5
  have HW5 := Lib.hid hW5
  have HP5 := Lib.hid hP5
  have hBg : g0 + 2 ≤ B := by have := HS3.out; omega
  have hBP : B < P5 := by omega
  clear HNw hp4 hb4 b5 k5 hW5 hP5 hlt4 hb45 HK13 HK23 hB4
  go_wp2_with fail
  rw [HW5.out, HP5.out]
  go_loopw [6] (fun s6 wr => ∃ (k : Nat) (t : Tb Int), k ≤ n ∧ k ≤ 64 ∧ s6 = .int .i64 (k : Int) ∧ Hid (TabAt wr B t) ∧ Hid (But (· = B) W5 wr)) (fun s6 _ => n - (intOf s6).toNat)
  case atStart => exact ⟨0, _, Nat.zero_le _, Nat.zero_le _, rfl, HT5, Lib.hid (But.refl _ _)⟩
  case round =>
    obtain ⟨k, t, hk, hk64, rfl, hta, hbu⟩ := hrel
    have hbw : Below w.heap.size w wr := HB5.out.trans (hbu.out.below HB5.out.size fun j hj hs => by have := HG0.out; omega)
    have HBW := Lib.hid hbw
    have k5 := (hbu.out.block P5 (block_lt HK5.out) (by omega)).trans HK5.out
    have HK5r := Lib.hid k5
    by_cases hlt : k < n ∧ k < 64
    · obtain ⟨h1, h2⟩ := hlt
      have hkl : k < ss.length := by rw [HSl.out]; exact h1
      obtain ⟨b, off, rfl, hbl, hit⟩ := (HSS.out.below hbw).at_ h1 hkl
      have hso := HOk.out ss[k] (List.getElem_mem _)
      obtain ⟨s, hs⟩ : ∃ s, ss[k] = s := ⟨_, rfl⟩
      rw [hs] at hit hso
      have q1 : (k : Int) < (n : Int) := by omega
      have q2 : (k : Int) < 64 := by omega
      have q0 : (0 : Int) ≤ (k : Int) := by omega
      obtain ⟨W0, rfl⟩ : ∃ W0, W0 = wr := ⟨wr, rfl⟩
      have HC := Lib.hid (fun W (hw : Below W0.heap.size W0 W) => (⟨by rw [cell_of_row _ _ _ _ _ _ ((hw.block P5 (block_lt HK5r.out)).trans HK5r.out)]; rfl, hit.of_block (hw.block b hbl)⟩ : W.cell? ⟨P5, 0, none⟩ = some (.pointer (some ⟨B, 0, none⟩)) ∧ ItAt tsC W b (off + k * 4) s))
      have HPu := Lib.hid (fun W (hw : Below W0.heap.size W0 W) => (hta.out.below hw).put s.key s.v s.ix hso.ix hso.key)
      have HBl : Hid (OldB W0 B) := Lib.hid (by have := hbu.out.size; have := block_lt HK5.out; unfold OldB; omega)
      clear hit hs hso k5 hbw
      go_wp2_with fail
      refine Go.Rel.wp_region_states (by kernel_rfl) (by kernel_rfl) (by kernel_rfl) (by kernel_rfl) (TI 16 W0 (fun W => TabAt W B (t.putT s.key s.v s.ix) ∧ But (· = B) W0 W)) (But (OldB W0)) (fun _ _ _ h k => h.trans k) OldB.drew TI.start (eaR (OldB W0) W0 b off n c B P5 k s) (eaR_stable W0 b off n c B P5 k s) ?hs1 ?he1
      case hs1 =>
        refine (.cons ?_ (.cons ?_ (.cons ?_ (.cons ?_ (.cons ?_ (.cons ?_ (.cons ?_ (.cons ?_ (.cons ?_ (.cons ?_ (.cons ?_ (.cons ?_ (.cons ?_ (.cons ?_ (.cons ?_ (.cons ?_ (.cons ?_ .nil)))))))))))))))))
        · intro f a w' hI hf hanc hdesc hle hs' hd K hK
          have f5 : a.tmps[5]? = some (.pointer (some ⟨P5, 0, none⟩)) := hs'.2.2 5 (by kernel_rfl)
          have zL : f 16 = false := hdesc 60 16 (by kernel_rfl)
          have cp := (HC.out w' (hI.ahead zL)).1
          unfold Go.Rel.stepOf
          go_simp
          exact hK _ _ (But.refl _ _) (hI.read (j := 0) (by decide)) rfl
        · intro f a w' hI hf hanc hdesc hle hs' hd K hK
          have f0 : a.tmps[0]? = some (.slice (some ⟨b, off, none⟩) n c) := hs'.2.2 0 (by kernel_rfl)
          unfold Go.Rel.stepOf
          go_simp
          exact hK _ _ (But.refl _ _) (hI.read (j := 1) (by decide)) rfl
        · intro f a w' hI hf hanc hdesc hle hs' hd K hK
          have f6 : a.tmps[6]? = some (.int .i64 (k : Int)) := hs'.2.2 6 (by kernel_rfl)
          unfold Go.Rel.stepOf
          go_simp
          exact hK _ _ (But.refl _ _) (hI.read (j := 2) (by decide)) rfl
        · intro f a w' hI hf hanc hdesc hle hs' hd K hK
          obtain ⟨_, t1, rfl⟩ := hd 1 26 (by kernel_rfl)
          obtain ⟨_, t2, rfl⟩ := hd 2 27 (by kernel_rfl)
          unfold Go.Rel.stepOf
          go_simp
          exact hK _ _ (But.refl _ _) (hI.read (j := 3) (by decide)) rfl
        · intro f a w' hI hf hanc hdesc hle hs' hd K hK
          obtain ⟨_, t3, rfl⟩ := hd 3 28 (by kernel_rfl)
          unfold Go.Rel.stepOf
          go_simp
          exact hK _ _ (But.refl _ _) (hI.read (j := 4) (by decide)) rfl
        · intro f a w' hI hf hanc hdesc hle hs' hd K hK
          obtain ⟨_, t4, rfl⟩ := hd 4 29 (by kernel_rfl)
          have zL : f 16 = false := hdesc 60 16 (by kernel_rfl)
          obtain ⟨d0, d1, d2, d3⟩ := ts_cells (HC.out w' (hI.ahead zL)).2
          unfold Go.Rel.stepOf
          go_simp
          exact hK _ _ (But.refl _ _) (hI.read (j := 5) (by decide)) rfl
        · intro f a w' hI hf hanc hdesc hle hs' hd K hK
          have f0 : a.tmps[0]? = some (.slice (some ⟨b, off, none⟩) n c) := hs'.2.2 0 (by kernel_rfl)
          unfold Go.Rel.stepOf
          go_simp
          exact hK _ _ (But.refl _ _) (hI.read (j := 6) (by decide)) rfl
        · intro f a w' hI hf hanc hdesc hle hs' hd K hK
          have f6 : a.tmps[6]? = some (.int .i64 (k : Int)) := hs'.2.2 6 (by kernel_rfl)
          unfold Go.Rel.stepOf
          go_simp
          exact hK _ _ (But.refl _ _) (hI.read (j := 7) (by decide)) rfl
        · intro f a w' hI hf hanc hdesc hle hs' hd K hK
          obtain ⟨_, t6, rfl⟩ := hd 6 31 (by kernel_rfl)
          obtain ⟨_, t7, rfl⟩ := hd 7 32 (by kernel_rfl)
          unfold Go.Rel.stepOf
          go_simp
          exact hK _ _ (But.refl _ _) (hI.read (j := 8) (by decide)) rfl
        · intro f a w' hI hf hanc hdesc hle hs' hd K hK
          obtain ⟨_, t8, rfl⟩ := hd 8 33 (by kernel_rfl)
          unfold Go.Rel.stepOf
          go_simp
          exact hK _ _ (But.refl _ _) (hI.read (j := 9) (by decide)) rfl
        · intro f a w' hI hf hanc hdesc hle hs' hd K hK
          obtain ⟨_, t9, rfl⟩ := hd 9 34 (by kernel_rfl)
          have zL : f 16 = false := hdesc 60 16 (by kernel_rfl)
          obtain ⟨d0, d1, d2, d3⟩ := ts_cells (HC.out w' (hI.ahead zL)).2
          unfold Go.Rel.stepOf
          go_simp
          exact hK _ _ (But.refl _ _) (hI.read (j := 10) (by decide)) rfl
        · intro f a w' hI hf hanc hdesc hle hs' hd K hK
          have f0 : a.tmps[0]? = some (.slice (some ⟨b, off, none⟩) n c) := hs'.2.2 0 (by kernel_rfl)
          unfold Go.Rel.stepOf
          go_simp
          exact hK _ _ (But.refl _ _) (hI.read (j := 11) (by decide)) rfl
        · intro f a w' hI hf hanc hdesc hle hs' hd K hK
          have f6 : a.tmps[6]? = some (.int .i64 (k : Int)) := hs'.2.2 6 (by kernel_rfl)
          unfold Go.Rel.stepOf
          go_simp
          exact hK _ _ (But.refl _ _) (hI.read (j := 12) (by decide)) rfl
        · intro f a w' hI hf hanc hdesc hle hs' hd K hK
          obtain ⟨_, t11, rfl⟩ := hd 11 36 (by kernel_rfl)
          obtain ⟨_, t12, rfl⟩ := hd 12 37 (by kernel_rfl)
          unfold Go.Rel.stepOf
          go_simp
          exact hK _ _ (But.refl _ _) (hI.read (j := 13) (by decide)) rfl
        · intro f a w' hI hf hanc hdesc hle hs' hd K hK
          obtain ⟨_, t13, rfl⟩ := hd 13 38 (by kernel_rfl)
          unfold Go.Rel.stepOf
          go_simp
          exact hK _ _ (But.refl _ _) (hI.read (j := 14) (by decide)) rfl
        · intro f a w' hI hf hanc hdesc hle hs' hd K hK
          obtain ⟨_, t14, rfl⟩ := hd 14 39 (by kernel_rfl)
          have zL : f 16 = false := hdesc 60 16 (by kernel_rfl)
          obtain ⟨d0, d1, d2, d3⟩ := ts_cells (HC.out w' (hI.ahead zL)).2
          unfold Go.Rel.stepOf
          go_simp
          exact hK _ _ (But.refl _ _) (hI.read (j := 15) (by decide)) rfl
        · intro f a w' hI hf hanc hdesc hle hs' hd K hK
          obtain ⟨_, t0, rfl⟩ := hd 0 25 (by kernel_rfl)
          obtain ⟨_, t5, rfl⟩ := hd 5 30 (by kernel_rfl)
          obtain ⟨_, t10, rfl⟩ := hd 10 35 (by kernel_rfl)
          obtain ⟨_, t15, rfl⟩ := hd 15 40 (by kernel_rfl)
          unfold Go.Rel.stepOf
          go_simp
          refine (HPu.out w' (hI.ahead hf)).mono ?_
          rintro e w2 ⟨rfl, ht2, hb2⟩
          exact hK _ _ (But.oldB hb2 (fun k e => by rw [e]; exact HBl.out)) (TI.last ⟨ht2, (But.of_below (hI.ahead hf)).trans hb2⟩) trivial
      case he1 =>
        intro f a w1 hall hJ hle hs' hR'
        have HP1 := Lib.hid (hJ.done_ (hall 16 (by decide)))
        clear hJ hall hle
        obtain ⟨v25, s25, _⟩ := hR' 0 25 (by kernel_rfl)
        obtain ⟨v26, s26, _⟩ := hR' 1 26 (by kernel_rfl)
        obtain ⟨v27, s27, _⟩ := hR' 2 27 (by kernel_rfl)
        obtain ⟨v28, s28, _⟩ := hR' 3 28 (by kernel_rfl)
        obtain ⟨v29, s29, _⟩ := hR' 4 29 (by kernel_rfl)
        obtain ⟨v30, s30, _⟩ := hR' 5 30 (by kernel_rfl)
        obtain ⟨v31, s31, _⟩ := hR' 6 31 (by kernel_rfl)
        obtain ⟨v32, s32, _⟩ := hR' 7 32 (by kernel_rfl)
        obtain ⟨v33, s33, _⟩ := hR' 8 33 (by kernel_rfl)
        obtain ⟨v34, s34, _⟩ := hR' 9 34 (by kernel_rfl)
        obtain ⟨v35, s35, _⟩ := hR' 10 35 (by kernel_rfl)
        obtain ⟨v36, s36, _⟩ := hR' 11 36 (by kernel_rfl)
        obtain ⟨v37, s37, _⟩ := hR' 12 37 (by kernel_rfl)
        obtain ⟨v38, s38, _⟩ := hR' 13 38 (by kernel_rfl)
        obtain ⟨v39, s39, _⟩ := hR' 14 39 (by kernel_rfl)
        obtain ⟨v40, s40, _⟩ := hR' 15 40 (by kernel_rfl)
        obtain ⟨v41, s41, _⟩ := hR' 16 41 (by kernel_rfl)
        have e := hs'.shape
        simp only [List.toList_toArray, List.foldl, Go.Rel.reset, Array.getD_eq_getD_getElem?, s25, s26, s27, s28, s29, s30, s31, s32, s33, s34, s35, s36, s37, s38, s39, s40, s41, Option.getD_some] at e
        simp at e
        clear hR' hs' s25 s26 s27 s28 s29 s30 s31 s32 s33 s34 s35 s36 s37 s38 s39 s40 s41
        subst e
        have HT1 := Lib.hid HP1.out.1
        have HB1 := Lib.hid (hbu.out.trans HP1.out.2)
        clear HP1 HPu HC
        go_wp2
        go_roundw
        case rel => exact ⟨k + 1, _, by omega, by omega, by go_num, HT1, HB1⟩
        case measure => simp [intOf]; omega
    · obtain ⟨W0, rfl⟩ : ∃ W0, W0 = wr := ⟨wr, rfl⟩
      have hk2 : ¬ k < n ∨ (k = 64 ∧ k < n) := by omega
      have c5 : W0.cell? ⟨P5, 0, none⟩ = some (.pointer (some ⟨B, 0, none⟩)) := by rw [cell_of_row _ _ _ _ _ _ k5]; rfl
      obtain ⟨S0, hok0, A0, c0, h0⟩ := hta.out
      have hl64 : t.l.length ≤ 64 := Nat.le_trans hok0.len hok0.most.2
      have HLi := Lib.hid (list_any (S := S0) ⟨hok0, A0, c0, h0⟩)
      obtain ⟨l, hl⟩ : ∃ l, t.l = l := ⟨_, rfl⟩
      rw [hl] at HLi hl64
      have HL := Lib.hid hl
      have HOk0 := Lib.hid hok0
      have H0 := Lib.hid h0
      obtain ⟨L, hLn⟩ : ∃ L, l.length = L := ⟨_, rfl⟩
      have HLn := Lib.hid hLn
      have hg0w : g0 + 2 ≤ W0.heap.size := by have := hbu.out.size; have := block_lt HK5.out; omega
      have HK1r := Lib.hid ((hbu.out.block g0 (block_lt HK15.out) (by omega)).trans HK15.out)
      have HK2r := Lib.hid ((hbu.out.block (g0 + 1) (block_lt HK25.out) (by omega)).trans HK25.out)
      rw [hLn] at hl64
      have hBW : B < W0.heap.size := h0.lt
      clear HB3 HB5 HT5 k5 hok0 h0 hl hLn hta hlt
      rcases hk2 with hk2 | ⟨rfl, hk2⟩
      all_goals
        go_wp2_with fail
        refine HLi.out.mono ?_
        rintro e w6 ⟨A6, c6, rfl, hs6, hl6, hm6, hn6, hb6⟩
        rw [HLn.out] at hs6 ⊢
        have h6 := H0.out.below hb6
        have b7 := below1 w6 #[.slice A6 L c6] 39
        have k7 := heap_alloc_new w6 (.cells #[.slice A6 L c6] 39)
        obtain ⟨W7, hW7⟩ : ∃ W7, w6.alloc (.cells #[.slice A6 L c6] 39) = W7 := ⟨_, rfl⟩
        obtain ⟨P7, hP7⟩ : ∃ P7, w6.heap.size = P7 := ⟨_, rfl⟩
        rw [hW7] at b7 k7
        rw [hP7] at k7
        have HB7 : Hid (Below W0.heap.size W0 W7) := Lib.hid (hb6.trans (b7.mono hb6.size))
        have h7 := h6.below b7
        have HS7 := Lib.hid (hs6.below b7)
        have HN6 : Hid (∀ j, RowsB A6 L j → B < j ∧ j < P7) := Lib.hid (fun j ⟨off, e, hn⟩ => ⟨by have := hn6 j off e; omega, by rw [← hP7]; exact hs6.rowsB j ⟨off, e, hn⟩⟩)
        have HEa := Lib.hid (each_any h7 HOk0.out.most.1)
        have HT7 := Lib.hid h7
        have HK7 := Lib.hid k7
        have HW7 := Lib.hid hW7
        have HP7 := Lib.hid hP7
        have hBP7 : B < P7 := by have := hb6.size; omega
        have c57 : w6.cell? ⟨P5, 0, none⟩ = some (.pointer (some ⟨B, 0, none⟩)) := by rw [cell_of_row _ _ _ _ _ _ ((hb6.block P5 (block_lt HK5r.out)).trans HK5r.out)]; rfl
        have hP56 : P5 < w6.heap.size := Nat.lt_of_lt_of_le (block_lt HK5r.out) hb6.size
        clear hs6 hl6 hm6 hn6 hb6 h6 b7 k7 hW7 hP7 h7 HLi c5
        go_wp2_with fail
        rw [HW7.out, HP7.out]
        refine HEa.out.mono ?_
        rintro e w8 ⟨u, Bb, Bx, rfl, he⟩
        rw [HL.out] at he
        have hv := he.val
        subst hv
        have h8 := HT7.out.below he.below
        have k18 := (he.below.block g0 (by have := HB7.out.size; omega)).trans ((HB7.out.block g0 (by omega)).trans HK1r.out)
        have k28 := (he.below.block (g0 + 1) (by have := HB7.out.size; omega)).trans ((HB7.out.block (g0 + 1) (by omega)).trans HK2r.out)
        have k58 := (he.below.block P5 (by have := HB7.out.size; have := block_lt HK5r.out; omega)).trans ((HB7.out.block P5 (block_lt HK5r.out)).trans HK5r.out)
        have k78 := (he.below.block P7 (block_lt HK7.out)).trans HK7.out
        have s68 := HS7.out.below he.below
        have HPm := Lib.hid (put_any m.key m.v m.ix (S := S0) ⟨HOk0.out, A0, c0, h8⟩ HM.out.ix HM.out.key)
        have hown := h8.own
        have HRB : Hid (∀ j, RowsB A0 l.length j → j ≠ B) := Lib.hid (fun j ⟨off, e, hn⟩ => (hown j off e (by rw [HL.out]; exact hn)).2)
        have HE := Lib.hid he
        have HK18 := Lib.hid k18
        have HK28 := Lib.hid k28
        have HK58 := Lib.hid k58
        have HK78 := Lib.hid k78
        have HS68 := Lib.hid s68
        obtain ⟨d0, d1, d2, d3⟩ := blk4 k18
        have c58 : w8.cell? ⟨P5, 0, none⟩ = some (.pointer (some ⟨B, 0, none⟩)) := by rw [cell_of_row _ _ _ _ _ _ k58]; rfl
        clear he h8 k18 k28 k58 k78 s68 hown HEa HT7 HS7 HK7 c57 hP56
        go_wp2_with fail
        refine HPm.out.mono ?_
        rintro e w9 ⟨rfl, hp9, hb9⟩
        have b10 := below1 w9 #[.int .i64 0] 3
        have k10 := heap_alloc_new w9 (.cells #[.int .i64 0] 3)
        obtain ⟨W10, hW10⟩ : ∃ W10, w9.alloc (.cells #[.int .i64 0] 3) = W10 := ⟨_, rfl⟩
        obtain ⟨P9, hP9⟩ : ∃ P9, w9.heap.size = P9 := ⟨_, rfl⟩
        rw [hW10] at b10 k10
        rw [hP9] at k10
        have hbu10 : But (· = B) w8 W10 := hb9.trans (But.of_below b10)
        have h78 : P7 < w8.heap.size := block_lt HK78.out
        have h89 : w8.heap.size ≤ P9 := by rw [← hP9]; exact hb9.size
        have hP9l := block_lt k10
        have HK1x := Lib.hid ((hbu10.block g0 (block_lt HK18.out) (by omega)).trans HK18.out)
        have HK2x := Lib.hid ((hbu10.block (g0 + 1) (block_lt HK28.out) (by omega)).trans HK28.out)
        have HK5x := Lib.hid ((hbu10.block P5 (block_lt HK58.out) (by omega)).trans HK58.out)
        have HK7x := Lib.hid ((hbu10.block P7 h78 (by omega)).trans HK78.out)
        have HS6x := Lib.hid (HS68.out.but hbu10 (fun b off e hn e2 => by have := HN6.out b ⟨off, e, hn⟩; omega))
        have hbb := (hbu10.block Bb (block_lt HE.out.fn) (by have := HE.out.new.2; have := HB7.out.size; omega)).trans HE.out.fn
        have hbx := (hbu10.block Bx (block_lt HE.out.box) (by have := HE.out.new.1; have := HB7.out.size; omega)).trans HE.out.box
        have hrw := HE.out.row.but hbu10 (fun b off e hn e2 => HRB.out b ⟨off, e, hn⟩ e2)
        obtain ⟨D, hD⟩ : ∃ D : Nat → Prop, D = fun k => k = B ∨ k = P9 := ⟨_, rfl⟩
        have hseq := each_tells D 5 (by omega) Bb Bx c0 A0 l W10 (by rw [HLn.out]; omega) (fun j hj => by rw [hD] at hj; rcases hj with e | e <;> omega)
          (fun j hj hd => by
            rw [hD] at hd
            rcases hd with e | e
            · exact HRB.out j hj e
            · have := HE.out.old j hj; have := HE.out.below.size; omega) hbb hbx hrw
        have HSeq := Lib.hid hseq
        have HD := Lib.hid hD
        have HT10 : Hid (TabNo W10 B P9) := Lib.hid ⟨_, fun k => k ≠ P9, (hp9.narrow fun k hk _ => by omega).below b10, fun e => e rfl⟩
        have HK10 := Lib.hid k10
        have HW10 := Lib.hid hW10
        have HP9 := Lib.hid hP9
        have HB10 : Hid (Below w.heap.size w W10) := Lib.hid (by
          have h1 : Below w.heap.size w w8 := (HBW.out.trans (HB7.out.mono HBW.out.size)).trans (HE.out.below.mono (HBW.out.trans (HB7.out.mono HBW.out.size)).size)
          exact h1.trans (hbu10.below h1.size fun j hj hs => by have := HG0.out; omega))
        clear hp9 hb9 b10 k10 hW10 hP9 hbu10 hbb hbx hrw hseq hD HPm d0 d1 d2 d3 c58 HK18 HK28 HK58 HK78 HS68
        go_wp2_with fail
        rw [HW10.out, HP9.out]
        refine (wpIn_wide (n := 6)).1 ?_
        refine wpIn_range_pf rfl (by omega) (gf := eachIt) (lb := #[.pointer (some ⟨Bb, 0, none⟩)]) (by simp [go_sem]) trivial (enters_of Try.func32 (by kernel_rfl) rfl) (fun _ _ _ _ h => h) (fun W => ⟨Nat.le_refl _, fun _ _ _ h _ => h⟩) HSeq.out kpD_t (fun W o' o h => kpD_b W o' o h) (Below.refl _ _) (fun _ => rfl)
          (fun pre Wc => (TabNo Wc B P9 ∧ Wc.heap[P9]? = some (.cells #[.int .i64 (pre.length : Int)] 3 (0, 0)) ∧ KpD D W10 Wc) ∧ Below w.heap.size w Wc)
          (OwnFrom.and (fun s A C row hs hg hr => by
            obtain ⟨⟨t2, S2, h2, h2n⟩, h3, h4⟩ := hs
            have hr2 := fun r e => (hr r e).2
            exact ⟨⟨t2, S2, h2.own hg hr2, h2n⟩, (grownBy_keeps_cells hg hr2 h3 rfl).trans h3, kpD_grown h4 hg hr2⟩) (ownFrom_below (Nat.le_refl _) HB10.out.size))
          ⟨⟨HT10.out, HK10.out, ⟨Nat.le_refl _, fun _ _ _ h _ => h⟩⟩, HB10.out⟩ eaG ?_ ?_ ?_
        · intro lp x Wc K hK
          simp only [eaG, List.setIfInBounds_toArray, List.set_cons_succ, List.set_cons_zero] at hK
          have HK := Lib.hid hK
          clear hK
          unfold kvEncs
          gi_wp2
          exact HK.out
        · rintro lp pre x Wc hlp ⟨r0, hr0⟩ ⟨⟨⟨t2, S2, hp2, hn2⟩, h9, hkp⟩, hbW⟩ hnx hlt
          obtain ⟨j, hjl, hpre, hx⟩ := hnx
          have hpl : pre.length = j := by rw [hpre, List.length_take]; omega
          rw [hpl] at h9
          have hjL : j < L := by rw [← HLn.out]; exact hjl
          have hnD : ∀ i, i ≠ B → i ≠ P9 → ¬ D i := fun i h1 h2 e => by
            rw [HD.out] at e
            rcases e with e | e
            · exact h1 e
            · exact h2 e
          have k7 := hkp.2 P7 _ (hnD P7 (by omega) (by omega)) HK7x.out rfl
          have k5 := hkp.2 P5 _ (hnD P5 (by omega) (by have := block_lt HK5r.out; have := HB7.out.size; have := HE.out.below.size; omega)) HK5x.out rfl
          have hs6 := HS6x.out
          rw [← HLn.out] at hs6
          have hs := hs6.kpD (fun i hi => hnD i (by have := HN6.out i (by rw [← HLn.out]; exact hi); omega) (by have := HN6.out i (by rw [← HLn.out]; exact hi); omega)) hkp
          obtain ⟨b6, off6, hA6, hbl6, hit⟩ := hs.at_ hjl hjl
          rw [hx] at hit
          obtain ⟨e0, e1, e2, e3⟩ := tr_cells hit
          have c7 : Wc.cell? ⟨P7, 0, none⟩ = some (.slice A6 L c6) := by rw [cell_of_row _ _ _ _ _ _ k7]; rfl
          rw [hA6] at c7
          have c5 : Wc.cell? ⟨P5, 0, none⟩ = some (.pointer (some ⟨B, 0, none⟩)) := by rw [cell_of_row _ _ _ _ _ _ k5]; rfl
          have c9 : Wc.cell? ⟨P9, 0, none⟩ = some (.int .i64 (j : Int)) := by rw [cell_of_row _ _ _ _ _ _ h9]; rfl
          have q1 : decide ((L : Int) ≤ (j : Int)) = false := decide_eq_false (by omega)
          have q2 : decide (L ≤ j) = false := decide_eq_false (by omega)
          have q3 : (j : Int) < (L : Int) := by omega
          have q0 : (0 : Int) ≤ (j : Int) := by omega
          have zz : (x.key.toList == x.key.toList) = true := text_same.2 rfl
          have hkx : x.key.size ≤ maxLen := HOk0.out.key x (by rw [HL.out, ← hx]; exact List.getElem_mem _)
          have HDr := Lib.hid (drop_any x.key 1 hp2 (by decide))
          have HK9 := Lib.hid h9
          have HKP := Lib.hid hkp
          have HBW2 := Lib.hid hbW
          have HPl := Lib.hid hpl
          have HN2 := Lib.hid hn2
          clear hp2 hn2 hpre hx hpl hnD k7 k5 hs6 hs hA6 hit hr0 h9 hkp hbW hkx e2 e3
          simp only [eaG, List.setIfInBounds_toArray, List.set_cons_succ, List.set_cons_zero]
          gi_wp2_with fail
          refine ⟨trivial, (CallsIn.inRound lp (callsIn_wide.2 HDr.out)).mono ?_⟩
          rintro e w2 ⟨rfl, hp3, hb3⟩
          have k9 := (hb3.block P9 (block_lt HK9.out) (by omega)).trans HK9.out
          have c92 : w2.cell? ⟨P9, 0, none⟩ = some (.int .i64 (j : Int)) := by rw [cell_of_row _ _ _ _ _ _ k9]; rfl
          have z92 := blk_froz k9 0
          obtain ⟨j1, hj1⟩ : ∃ j1, j + 1 = j1 := ⟨_, rfl⟩
          have hji : (j : Int) + 1 = (j1 : Int) := by omega
          have hDB : ∀ i, i = B → D i := fun i e => by rw [HD.out]; exact .inl e
          have hD9 : D P9 := by rw [HD.out]; exact .inr rfl
          have hbu : But D Wc (w2.setCell ⟨P9, 0, none⟩ (.int .i64 (j1 : Int))) := (hb3.mono hDB).trans (But.set w2 (p := ⟨P9, 0, none⟩) hD9 _)
          have hset : But (· = P9) w2 (w2.setCell ⟨P9, 0, none⟩ (.int .i64 (j1 : Int))) := But.set (S := (· = P9)) w2 (p := ⟨P9, 0, none⟩) rfl _
          have hk9 : (w2.setCell ⟨P9, 0, none⟩ (.int .i64 (j1 : Int))).heap[P9]? = some (.cells #[.int .i64 (j1 : Int)] 3 (0, 0)) := block_set k9 0 _
          have hn3 : ¬ (S2 P9 ∨ Wc.heap.size ≤ P9) := fun e => by
            rcases e with e | e
            · exact HN2.out e
            · have := block_lt HK9.out; omega
          have ht3 : TabNo (w2.setCell ⟨P9, 0, none⟩ (.int .i64 (j1 : Int))) B P9 := ⟨_, _, hp3.but hset (fun k hk hs => hn3 (hk ▸ hs)), hn3⟩
          have HF := Lib.hid (And.intro hbu (And.intro hk9 ht3))
          have HJ1 := Lib.hid hj1
          clear hp3 hb3 k9 hDB hD9 hbu hset hk9 hn3 ht3 HDr hj1
          gi_wp2
          have hg1 : w.heap.size ≤ B := by have := HG0.out; omega
          have hP9g : w.heap.size ≤ P9 := by have := HG0.out; omega
          refine ⟨keepsFrom_but HF.out.1 (fun i hi => by rw [HD.out] at hi; rcases hi with e | e <;> omega), kpD_but HF.out.1, ⟨HF.out.2.2, ?_, kpD_t HKP.out (kpD_but HF.out.1)⟩, HBW2.out.trans (HF.out.1.below HBW2.out.size fun i hi hs => by rw [HD.out] at hs; rcases hs with e | e <;> omega)⟩
          rw [show (pre ++ [x]).length = j1 by rw [List.length_append, HPl.out]; exact HJ1.out]
          exact HF.out.2.1
        · rintro Dd xs Wc hDd hS ⟨⟨hno, h9, hkp⟩, hbW⟩ hK
          have hS' : xs = l := hS
          subst hS'
          rw [HLn.out] at h9
          have hnD : ∀ i, i ≠ B → i ≠ P9 → ¬ D i := fun i h1 h2 e => by
            rw [HD.out] at e
            rcases e with e | e
            · exact h1 e
            · exact h2 e
          have k7 := hkp.2 P7 _ (hnD P7 (by omega) (by omega)) HK7x.out rfl
          have k2 := hkp.2 (g0 + 1) _ (hnD (g0 + 1) (by omega) (by omega)) HK2x.out rfl
          have c7 : Wc.cell? ⟨P7, 0, none⟩ = some (.slice A6 L c6) := by rw [cell_of_row _ _ _ _ _ _ k7]; rfl
          have c9 : Wc.cell? ⟨P9, 0, none⟩ = some (.int .i64 (L : Int)) := by rw [cell_of_row _ _ _ _ _ _ h9]; rfl
          have c2 : Wc.cell? ⟨g0 + 1, 0, none⟩ = some (.bool false) := by rw [cell_of_row _ _ _ _ _ _ k2]; rfl
          have z2 := blk_froz k2 0
          have q1 : ((L : Int) == (L : Int)) = true := by simp
          have hDl : Dd < Wc.heap.size := (Array.getElem?_eq_some_iff.1 hK).1
          have hq := block_set (cur := #[.bool false]) k2 0 (.bool true)
          have hb9 : Below w.heap.size w (Wc.setCell ⟨g0 + 1, 0, none⟩ (.bool true)) := hbW.setCell (by show w.heap.size ≤ g0 + 1; have := HG0.out; omega) _
          have HQ := Lib.hid (And.intro hq hb9)
          have HKd := Lib.hid hK
          clear hno h9 hkp hbW hnD k7 k2 hq hb9 hS
          go_wp2
          obtain ⟨W9, hW9⟩ : ∃ W9, Wc.setCell ⟨g0 + 1, 0, none⟩ (.bool true) = W9 := ⟨_, rfl⟩
          have hg1 : g0 + 1 < Dd := by
            have h1 := HS2.out
            have h2 := HB10.out.size
            have h3 := block_lt HK2x.out
            omega
          have hK2 : W9.heap[Dd]? = some (.deferred (some [])) := by rw [← hW9]; exact ((But.set (S := (· = g0 + 1)) Wc (p := ⟨g0 + 1, 0, none⟩) rfl _).block Dd hDl (by omega)).trans HKd.out
          have hqq := HQ.out
          rw [hW9] at hqq ⊢
          have hq2 := (show (W9.putObj Dd (.deferred none)).heap[g0 + 1]? = W9.heap[g0 + 1]? from World.putObj_heap_other (by omega)).trans hqq.1
          have q0 : (W9.putObj Dd (.deferred none)).cell? ⟨g0 + 1, 0, none⟩ = some (.bool true) := by rw [cell_of_row _ _ _ _ _ _ hq2]; rfl
          refine ⟨by simp, .inl ⟨_, _, rfl, run_takeDeferred hK2, ?_⟩⟩
          exact ⟨.bool true, by simp [results, Try.results4, go_sem, q0], rfl, hqq.2.trans (belowK_b (w := w) (Nat.le_refl _) W9 Dd _ _ (by have := HG0.out; omega) hK2 rfl rfl)⟩
end Go.Proofs.Ytphjlcogjalidaa
