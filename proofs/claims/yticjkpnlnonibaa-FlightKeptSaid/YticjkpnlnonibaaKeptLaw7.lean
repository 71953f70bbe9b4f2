/-
  What is in flight shares nothing with what was sent, nor with what is told: the law sodalitylaw07.FlightKept over the contracts (layer 7).
-/
import Derived.Test.YticjkpnlnonibaaHList
namespace Go.Proofs.Yticjkpnlnonibaa
open Go.RowKit
set_option linter.unusedSimpArgs false
set_option linter.unusedVariables false

/-- The packet's bytes may be written. -/
def Writable (w : World) (p : Pk) : Prop := ∀ k, k < p.body.length → ∃ b off cur, p.A = some ⟨b, off, none⟩ ∧ w.heap[b]? = some (.cells cur 5 (0, 0)) ∧ off + k < cur.size
theorem Writable.of {w : World} {p : Pk} (hb : BodyAt w p) (ht : Typed w p) : Writable w p := fun k hk => by
  obtain ⟨b, off, cur, e, hh⟩ := ht (by omega)
  obtain ⟨b', off', e', _, hc⟩ := hb.1.2 (by omega)
  rw [e] at e'
  simp only [Option.some.injEq, Addr.mk.injEq] at e'
  obtain ⟨rfl, rfl, _⟩ := e'
  refine ⟨b, off, cur, e, hh, ?_⟩
  have h1 := hc k (by simpa using hk)
  rw [cell_of_row w b (off + k) cur _ (0, 0) hh] at h1
  exact (Array.getElem?_eq_some_iff.1 h1).1
theorem Writable.set {w : World} {p : Pk} (h : Writable w p) (b' i : Nat) (v : Value) : Writable (w.setCell ⟨b', i, none⟩ v) p := fun k hk => by
  obtain ⟨b, off, cur, e, hh, hlt⟩ := h k hk
  by_cases hbb : b' = b
  · subst hbb
    exact ⟨b', off, _, e, block_set hh i v, by rw [Array.size_setIfInBounds]; exact hlt⟩
  · exact ⟨b, off, cur, e, ((But.set (S := (· = b')) w (p := ⟨b', i, none⟩) rfl v).block b (block_lt hh) (fun e => hbb e.symm)).trans hh, hlt⟩
/-- The block in which they lie. -/
def Blk (p : Pk) : Nat → Prop := fun k => 0 < p.body.length ∧ ∃ off, p.A = some ⟨k, off, none⟩
theorem Blk.typed {w : World} {p : Pk} (ht : Typed w p) {k : Nat} (hk : Blk p k) : ∃ cur, w.heap[k]? = some (.cells cur 5 (0, 0)) := by
  obtain ⟨h0, off, e⟩ := hk
  obtain ⟨b, off', cur, e', hh⟩ := ht h0
  rw [e] at e'
  simp only [Option.some.injEq, Addr.mk.injEq] at e'
  obtain ⟨rfl, _⟩ := e'
  exact ⟨cur, hh⟩
/-- A block of bytes is none of the flight's. -/
theorem FlAt.notBytes {w : World} {B : Nat} {v : Value} {s : Fl} (h : FlAt w B v s) {k : Nat} {cur : Array Value} (hk : w.heap[k]? = some (.cells cur 5 (0, 0))) : ¬ Sof B v k := fun e => by
  rcases e with rfl | e
  · have := h.blk.symm.trans hk
    simp at this
  · obtain ⟨c, hc⟩ := h.row.cells e
    have := hc.symm.trans hk
    simp at this
/-- Bytes elsewhere may be written. -/
theorem FlAt.write {w w' : World} {B : Nat} {v : Value} {s : Fl} (h : FlAt w B v s) {p : Pk} (ht : Typed w p) (hb : But (Blk p) w w') (hap : ∀ x ∈ s.L, ∀ b off, x.p.A = some ⟨b, off, none⟩ → 0 < x.p.body.length → ¬ Blk p b) : FlAt w' B v s := by
  refine h.but hb (fun e => ?_) (fun b e e2 => ?_) hap
  · obtain ⟨cur, hc⟩ := Blk.typed ht e
    exact h.notBytes hc (.inl rfl)
  · obtain ⟨cur, hc⟩ := Blk.typed ht e2
    exact h.notBytes hc (.inr e)
theorem FlAt.typedOut {w : World} {B : Nat} {v : Value} {s : Fl} (h : FlAt w B v s) {p : Pk} (ht : Typed w p) : Outs (Sof B v) p := fun b off e hn hs => by
  obtain ⟨cur, hc⟩ := Blk.typed ht (k := b) ⟨hn, off, e⟩
  exact h.notBytes hc hs
set_option maxHeartbeats 16000000 in
set_option maxRecDepth 100000 in
theorem kept_walk (p : Pk) (z : Int) (w : World) (hp : BodyAt w p) (hz : 0 ≤ z ∧ z ≤ 255) :
    Calls Try.prog 5 #[.agg #[.int .i64 p.fr, .int .i64 p.to, .slice p.A p.body.length p.c], .int .u8 z] w fun e w' => e = .returned (.bool true) ∧ Below w.heap.size w w' := by
  have HWk := Lib.hid (fun w => works_any w)
  obtain ⟨i0, hi, hz0, hz1, hz2⟩ := info_parts u8_info
  obtain ⟨W0, hW0⟩ : ∃ W0, w.alloc (.cells #[.int .i64 p.fr, .int .i64 p.to, .slice p.A p.body.length p.c] 30) = W0 := ⟨_, rfl⟩
  have b0 : Below w.heap.size w W0 := by rw [← hW0]; exact (Below.refl _ w).alloc (Nat.le_refl _) _
  have s0 : W0.heap.size = w.heap.size + 1 := by rw [← hW0]; simp
  have hx0 : W0.heap[w.heap.size]? = some (.cells #[.int .i64 p.fr, .int .i64 p.to, .slice p.A p.body.length p.c] 30 (0, 0)) := by rw [← hW0]; exact heap_alloc_new w _
  have HN1 := Lib.hid (new_any 9 W0)
  obtain ⟨W1, hW1⟩ : ∃ W1, W0.alloc (.cells #[.slice none 0 0, .int .i64 (capOf 9 : Int), .int .i64 0] 58) = W1 := ⟨_, rfl⟩
  have b1 : Below W0.heap.size W0 W1 := by rw [← hW1]; exact (Below.refl _ W0).alloc (Nat.le_refl _) _
  have s1 : W1.heap.size = w.heap.size + 2 := by rw [← hW1]; simp; omega
  have hf := FlAt.new W0 9
  rw [hW1] at hf HN1
  obtain ⟨X0, hX0⟩ : ∃ X0, w.heap.size = X0 := ⟨_, rfl⟩
  obtain ⟨B, hB⟩ : ∃ B, W0.heap.size = B := ⟨_, rfl⟩
  have hbB : w.heap.size ≤ B := by omega
  rw [hB] at HN1 hf
  have hx1 := (b1.block w.heap.size (by omega)).trans hx0
  rw [hX0] at hx1
  obtain ⟨x0, x1, x2⟩ := blk3 hx1
  have hXl := block_lt hx1
  have HX1 := Lib.hid hx1
  have HX0 := Lib.hid hX0
  have HF1 := Lib.hid hf
  have HW0 := Lib.hid hW0
  have HBel1 : Hid (Below w.heap.size w W1) := Lib.hid (b0.trans (b1.mono (by omega)))
  have HBody1 := Lib.hid (hp.below (b0.trans (b1.mono (by omega))))
  have HbB := Lib.hid hbB
  have HS1 := Lib.hid s1
  obtain ⟨hR0, _, hnil0, hbig0⟩ := hp
  obtain ⟨n, hn⟩ : ∃ n, p.body.length = n := ⟨_, rfl⟩
  have HN := Lib.hid hn
  rw [hn] at x2 hbig0
  obtain ⟨A0, hA0⟩ : ∃ A0, p.A = A0 := ⟨_, rfl⟩
  obtain ⟨c0, hc0⟩ : ∃ c0, p.c = c0 := ⟨_, rfl⟩
  have hRV : RV W1 A0 n (p.body.map byteV) := by rw [← hA0, ← hn]; exact HBody1.out.1
  have hnilA : A0 = none → c0 = 0 := by rw [← hA0, ← hc0]; exact hnil0
  have HRV := Lib.hid hRV
  have HNilA := Lib.hid hnilA
  rw [hA0, hc0] at x2
  have HW0' : Hid (w.alloc (.cells #[.int .i64 p.fr, .int .i64 p.to, .slice A0 n c0] 30) = W0) := Lib.hid (by rw [← hA0, ← hn, ← hc0]; exact HW0.out)
  rw [hn, hA0, hc0]
  clear hW0 hW1 b0 b1 s0 s1 hf hB hx0 hx1 hbB hR0 hnil0 hn hA0 hc0 hRV hnilA hX0 HW0
  go_enter Try.func5, Try.ntmps5
  go_wp2_with fail
  rw [HW0'.out, HX0.out]
  refine HN1.out.mono ?_
  rintro e w' ⟨rfl, hw'⟩
  rw [hw']
  clear hw' HN1
  go_wp2_with (at_builtin; refine wpList_append_rv rfl _ _ 28 rfl W1.heap.size 5 i0 (.int .u8 0) 1 Try.underlying28 hi hz0 hz1 hz2 rfl _ 0 [] rfl ?qa A0 n c0 (p.body.map byteV) rfl HNilA.out ?qc (byteV_one _) ?qd ?qe ?qf ?_)
  case qa => exact World.ownsRow_made W1 #[] 0 (Nat.le_refl _) (Nat.zero_le _) (by simp)
  case qc => exact HRV.out.below ((Below.refl _ _).alloc (Nat.le_refl _) _)
  case qd => unfold maxLen; omega
  case qe => omega
  case qf => simp
  refine Lib.hid ?_
  intro v6 w3 hown hg
  obtain ⟨A6, c6, rfl⟩ := own_lens hown
  obtain ⟨t1, t2, t3⟩ := row_typed HN.out hown (by rw [HN.out]; exact hbig0)
  have hb3 : Below W1.heap.size W1 w3 := ((Below.refl _ W1).alloc (Nat.le_refl _) _).grown hg (by simp) (by intro k hk; simp [Value.ownBlock] at hk; omega)
  have HT1 := Lib.hid t1
  have HT2 := Lib.hid t2
  have HT3 := Lib.hid t3
  have HB3 := Lib.hid hb3
  have hX3 := (hb3.block X0 (block_lt HX1.out)).trans HX1.out
  have HX3 := Lib.hid hX3
  have hle6 : n ≤ c6 := by have := t1.2.1; rw [HN.out] at this; exact this
  clear x0 x1 x2 hown hg t1 t2 t3 hb3
  obtain ⟨x0, x1, x2⟩ := blk3 hX3
  have hXl3 := block_lt hX3
  clear hX3
  have q1 : (n : Int) ≤ 140737488351232 := by omega
  by_cases hlong : 1400 < n
  · have q2 : (1400 : Int) < (n : Int) := by omega
    have q3 : (1400 : Int) ≤ (c6 : Int) := by omega
    have zz : decide (1400 < n) = true := decide_eq_true hlong
    obtain ⟨bs, hbs⟩ : ∃ bs, p.body.take 1400 = bs := ⟨_, rfl⟩
    have hbl : bs.length = 1400 := by rw [← hbs, List.length_take, HN.out]; omega
    have hbody : BodyAt w3 ⟨p.fr, p.to, bs, A6, c6⟩ := by
      obtain ⟨h1, h2, h3, h4⟩ := HT1.out
      refine ⟨?_, by show bs.length ≤ c6; omega, h3, by show bs.length ≤ _; omega⟩
      show RV w3 A6 bs.length (bs.map byteV)
      have := h1.take (k := 1400) (by show 1400 ≤ p.body.length; rw [HN.out]; omega)
      rw [← List.map_take, hbs] at this
      rw [hbl]
      exact this
    have htyp : Typed w3 ⟨p.fr, p.to, bs, A6, c6⟩ := fun _ => HT2.out (by show 0 < p.body.length; rw [HN.out]; omega)
    have hbm : bs.length = 1400 := hbl
    have hm14 : (1400 : Nat) ≤ 1400 := Nat.le_refl _
    obtain ⟨g6, o6, cur6, e6, _⟩ := htyp (by show 0 < bs.length; omega)
    have e6 : A6 = some ⟨g6, o6, none⟩ := e6
    subst e6
    clear hbs hbl
    have HBd3 := Lib.hid hbody
    have HTy3 := Lib.hid htyp
    have HBm := Lib.hid hbm
    have HR3 : Hid (RV w3 (some (⟨g6, o6, none⟩ : Addr)) 1400 (bs.map byteV)) := Lib.hid (by
      have := hbody.1
      rw [show (Pk.mk p.fr p.to bs (some (⟨g6, o6, none⟩ : Addr)) c6).body.length = 1400 by show bs.length = 1400; omega] at this
      exact this)
    have HNil6 : Hid ((some (⟨g6, o6, none⟩ : Addr)) = none → c6 = 0) := Lib.hid hbody.2.2.1
    clear hbody htyp hbm
    go_wp2_with (at_builtin; refine wpList_append_rv rfl _ _ 28 rfl w3.heap.size 5 i0 (.int .u8 0) 1 Try.underlying28 hi hz0 hz1 hz2 rfl _ 0 [] rfl ?ra (some (⟨g6, o6, none⟩ : Addr)) 1400 c6 (bs.map byteV) rfl HNil6.out ?rc (byteV_one _) ?rd ?re ?rf ?_)
    try (case ra => exact World.ownsRow_made w3 #[] 0 (Nat.le_refl _) (Nat.zero_le _) (by simp))
    try (case rc => exact HR3.out.below ((Below.refl _ _).alloc (Nat.le_refl _) _))
    try (case rd => unfold maxLen; omega)
    try (case re => omega)
    try (case rf => simp)
    refine Lib.hid ?_
    intro v7 w4 hown hg
    obtain ⟨A7, c7, rfl⟩ := own_lens hown
    obtain ⟨u1, u2, u3⟩ := row_typed (p := ⟨p.fr, p.to, bs, (some (⟨g6, o6, none⟩ : Addr)), c6⟩) HBm.out hown (by show bs.length ≤ _; rw [HBm.out]; omega)
    have b4 : Below w3.heap.size w3 w4 := ((Below.refl _ w3).alloc (Nat.le_refl _) _).grown hg (by simp) (by intro k hk; simp [Value.ownBlock] at hk; omega)
    have hf4 := (HF1.out.below HB3.out).below b4
    have y1 := HBd3.out.below b4
    have y2 := HTy3.out.below b4
    have hsend := send_any w4 B (.slice none 0 0) (Fl.new 9) ⟨p.fr, p.to, bs, (some (⟨g6, o6, none⟩ : Addr)), c6⟩ hf4 y1 (hf4.typedOut y2) (by decide) true (by
      simp only [Fl.may, Fl.full, Fl.new, capOf]
      have := HBm.out
      simp
      omega)
    have hX4 := (b4.block X0 hXl3).trans (show w3.heap[X0]? = _ from HX3.out)
    have HSend := Lib.hid hsend
    have HF4 := Lib.hid hf4
    have HY1 := Lib.hid y1
    have HY2 := Lib.hid y2
    have HU1 := Lib.hid u1
    have HU2 := Lib.hid u2
    have HU3 := Lib.hid u3
    have HB4 := Lib.hid b4
    have HX4 := Lib.hid hX4
    rw [show (Pk.mk p.fr p.to bs (some (⟨g6, o6, none⟩ : Addr)) c6).body.length = 1400 from HBm.out] at HSend
    clear x0 x1 x2 hown hg u1 u2 u3 b4 hf4 y1 y2 hsend
    obtain ⟨x0, x1, x2⟩ := blk3 hX4
    clear hX4
    go_wp2_with fail
    refine HSend.out.mono ?_
    clear HSend
    rintro e w5 ⟨hyes, _⟩
    obtain ⟨rfl, A, c, v', hf5, hfr5, hb5, hloc5⟩ := hyes trivial
    have y1 := HY1.out.but hb5 (HF4.out.typedOut HY2.out)
    have y2 := HY2.out.but hb5 (HF4.out.typedOut HY2.out)
    have u1 := HU1.out.but hb5 (HF4.out.typedOut HU2.out)
    have u2 := HU2.out.but hb5 (HF4.out.typedOut HU2.out)
    have HWr := Lib.hid (Writable.of y1 y2)
    have HU1' := Lib.hid u1
    have HU2' := Lib.hid u2
    have HTy5 := Lib.hid y2
    have HF5 := Lib.hid hf5
    have HFr5 := Lib.hid hfr5
    have hXn : ¬ Sof B (.slice none 0 0) X0 := fun e => by
      rcases e with rfl | e
      · have := HF4.out.blk.symm.trans HX4.out
        simp at this
      · cases e
    have HX5 := Lib.hid ((hb5.block X0 (block_lt HX4.out) hXn).trans HX4.out)
    have HBt5 : Hid (But (fun k => w.heap.size ≤ k) w w5) := Lib.hid (((((But.of_below HBel1.out).trans (But.of_below HB3.out)).trans (But.of_below HB4.out))).trans (hb5.mono (fun k hk => by
      rcases hk with rfl | hk
      · exact HbB.out
      · cases hk)))
    have HLoc5 : Hid (∀ b, v'.ownBlock = some b → w.heap.size ≤ b) := Lib.hid (fun b e => by
      have h1 := HBel1.out.size
      have h2 := HB3.out.size
      have h3 := HB4.out.size
      rcases hloc5 b e with h | h
      · cases h
      · omega)
    have HSz5 : Hid (w4.heap.size ≤ w5.heap.size) := Lib.hid hb5.size
    clear x0 x1 x2 hyes hf5 hfr5 hb5 hloc5 y1 y2 u1 u2 hXn
    go_wp2
    go_loopw [10] (fun kv wr => ∃ k : Nat, kv = .int .i64 (k : Int) ∧ k ≤ 1400 ∧ Hid (Writable wr ⟨p.fr, p.to, bs, (some (⟨g6, o6, none⟩ : Addr)), c6⟩) ∧ Hid (But (Blk ⟨p.fr, p.to, bs, (some (⟨g6, o6, none⟩ : Addr)), c6⟩) w5 wr)) (fun kv _ => 1400 - (RowKit.intOf kv).toNat)
    case atStart => exact ⟨0, rfl, Nat.zero_le _, HWr, Lib.hid (But.refl _ _)⟩
    case round =>
      obtain ⟨k, rfl, hk, HW, HBu⟩ := hrel
      by_cases hlt : k < 1400
      · obtain ⟨b, off, cur, eA, hh, hlc⟩ := HW.out k (by show k < bs.length; rw [HBm.out]; exact hlt)
        have eA : (some (⟨g6, o6, none⟩ : Addr)) = some ⟨b, off, none⟩ := eA
        obtain ⟨hce, hfz⟩ := cell_in hh hlc
        obtain ⟨ov, hov⟩ := Option.isSome_iff_exists.1 hce
        have HW' := Lib.hid (HW.out.set b (off + k) (.int .u8 z))
        have HBu' : Hid (But (Blk ⟨p.fr, p.to, bs, (some (⟨g6, o6, none⟩ : Addr)), c6⟩) w5 (wr.setCell ⟨b, off + k, none⟩ (.int .u8 z))) := Lib.hid (HBu.out.trans (But.set (S := Blk ⟨p.fr, p.to, bs, (some (⟨g6, o6, none⟩ : Addr)), c6⟩) wr (p := ⟨b, off + k, none⟩) ⟨by show 0 < bs.length; rw [HBm.out]; omega, off, eA⟩ _))
        have qk : (k : Int) < (1400 : Int) := by omega
        clear hh hce
        cases eA
        go_wp2
        go_roundw
        case rel => exact ⟨k + 1, by go_num, by omega, HW', HBu'⟩
        case measure => simp [RowKit.intOf]; omega
      · obtain rfl : 1400 = k := by omega
        have hblk6 : ∀ b, Blk ⟨p.fr, p.to, bs, (some (⟨g6, o6, none⟩ : Addr)), c6⟩ b → b < w3.heap.size := fun b hb => by
          obtain ⟨cur, hc⟩ := Blk.typed HTy3.out hb
          exact block_lt hc
        have hbl4 := HB4.out.size
        have hf6 := HF5.out.write HTy5.out HBu.out (fun x hx b off e hn hs => by
          obtain rfl := List.mem_singleton.1 hx
          have h1 := HFr5.out b off e
          have h2 := hblk6 b hs
          omega)
        have u1 := HU1'.out.but HBu.out (fun b off e hn hs => by
          have h1 := HU3.out b off e
          have h2 := hblk6 b hs
          omega)
        have u2 := HU2'.out.but HBu.out (fun b off e hn hs => by
          have h1 := HU3.out b off e
          have h2 := hblk6 b hs
          omega)
        have hX6 := (HBu.out.block X0 (block_lt HX5.out) (fun hs => by
          obtain ⟨cur, hc⟩ := Blk.typed HTy5.out hs
          have := hc.symm.trans HX5.out
          simp at this)).trans HX5.out
        have hbt6 : But (fun k => w.heap.size ≤ k) w wr := HBt5.out.trans (HBu.out.mono (fun b hb => by
          obtain ⟨_, off, e⟩ := hb
          have h1 := HT3.out b off e
          have h2 := HBel1.out.size
          show w.heap.size ≤ b
          omega))
        have HL := Lib.hid (list_any wr B v' _ hf6)
        have HF6 := Lib.hid hf6
        have HU16 := Lib.hid u1
        have HU26 := Lib.hid u2
        have HX6 := Lib.hid hX6
        have HBt6 := Lib.hid hbt6
        clear hblk6 hbl4 hf6 u1 u2 hX6 hbt6
        go_wp2_with fail
        refine HL.out.mono ?_
        clear HL
        rintro e w6 ⟨v11, m5, rfl, hC, hb6⟩
        obtain ⟨y, rfl⟩ : ∃ y, m5 = [y] := List.length_eq_one_iff.1 hC.len
        obtain ⟨q1', q2', q3'⟩ := hC.body y (List.mem_singleton.2 rfl)
        obtain ⟨g11, c11, e11, _⟩ := hC.row.some_ (Nat.lt_succ_self 0)
        have hrow := hC.row
        rw [e11] at hrow
        have e11 : v11 = .slice (some ⟨g11, 0, none⟩) 1 c11 := e11
        subst e11
        obtain ⟨yid, q⟩ := y
        have hr3 : w6.cell? ⟨g11, 3, none⟩ = some (.slice q.A q.body.length q.c) := by
          have := (hrow.at_ (k := 0) (Nat.lt_succ_self 0)).2.2.2
          simpa using this
        obtain ⟨cur11, hcur11⟩ := hrow.cells (b := g11) rfl
        have HQ2 : Hid (Typed w6 q) := Lib.hid q2'
        have qb : (q.body.length : Int) ≤ 140737488351232 := by have := q1'.2.2.2; simp only at this; omega
        have HQ3 : Hid (Fresh wr.heap.size q) := Lib.hid q3'
        have HWq := Lib.hid (Writable.of q1' q2')
        have HR3' := Lib.hid hr3
        have HC11 := Lib.hid hcur11
        have HF7 := Lib.hid (HF6.out.below hb6)
        have HU17 := Lib.hid (HU16.out.below hb6)
        have HU27 := Lib.hid (HU26.out.below hb6)
        have HX7 := Lib.hid ((hb6.block X0 (block_lt HX6.out)).trans HX6.out)
        have HBt7 := Lib.hid (HBt6.out.trans (But.of_below hb6))
        obtain ⟨sz, hsz⟩ : ∃ sz, wr.heap.size = sz := ⟨_, rfl⟩
        have HSz6 : Hid (w.heap.size ≤ sz) := Lib.hid (by rw [← hsz]; exact HBt6.out.size)
        have HQ4 : Hid (Fresh sz q) := Lib.hid (by rw [← hsz]; exact HQ3.out)
        have HBlA : Hid (∀ b off, A = some ⟨b, off, none⟩ → 0 < bs.length → b < sz) := Lib.hid (fun b off e hn => by rw [← hsz]; exact (HF6.out.body _ (List.mem_singleton.2 rfl)).1.lt e hn)
        have HBl7 : Hid (∀ b off, A7 = some ⟨b, off, none⟩ → 0 < bs.length → b < sz) := Lib.hid (fun b off e hn => by rw [← hsz]; exact HU16.out.lt e hn)
        have HXsz : Hid (X0 < sz) := Lib.hid (by rw [← hsz]; exact block_lt HX6.out)
        clear hsz
        have HRow : Hid (∀ w', But (Blk q) w6 w' → w'.cell? ⟨g11, 3, none⟩ = some (.slice q.A q.body.length q.c)) := Lib.hid (fun w' hb => by
          refine (hb.cell (p := ⟨g11, 3, none⟩) (bcell_lt hr3) (fun hs => ?_)).trans hr3
          obtain ⟨cur, hc⟩ := Blk.typed q2' hs
          have := hc.symm.trans hcur11
          simp at this)
        clear hC hb6 q1' q2' q3' hrow hr3 hcur11
        go_wp2
        go_loopw [12] (fun kv wq => ∃ k : Nat, kv = .int .i64 (k : Int) ∧ k ≤ 1 ∧ Hid (Writable wq q) ∧ Hid (But (Blk q) w6 wq)) (fun kv _ => 1 - (RowKit.intOf kv).toNat)
        case atStart => exact ⟨0, rfl, Nat.zero_le _, HWq, Lib.hid (But.refl _ _)⟩
        case round =>
          obtain ⟨k, rfl, hk, HW2, HBq⟩ := hrel
          by_cases hlt2 : k = 0
          · subst hlt2
            go_wp2
            go_loopw [13] (fun jv wq2 => ∃ j : Nat, jv = .int .i64 (j : Int) ∧ j ≤ q.body.length ∧ Hid (Writable wq2 q) ∧ Hid (But (Blk q) w6 wq2)) (fun jv _ => q.body.length - (RowKit.intOf jv).toNat)
            case atStart => exact ⟨0, rfl, Nat.zero_le _, HW2, HBq⟩
            case round =>
              obtain ⟨j, rfl, hj, HW3, HBq2⟩ := hrel
              have c11 := HRow.out _ HBq2.out
              by_cases hjl : j < q.body.length
              · obtain ⟨b, off, cur, eA, hh, hlc⟩ := HW3.out j hjl
                obtain ⟨hce, hfz⟩ := cell_in hh hlc
                obtain ⟨ov, hov⟩ := Option.isSome_iff_exists.1 hce
                have HW4 := Lib.hid (HW3.out.set b (off + j) (.int .u8 z))
                have HBq3 := Lib.hid (HBq2.out.trans (But.set (S := Blk q) _ (p := ⟨b, off + j, none⟩) ⟨by omega, off, eA⟩ (.int .u8 z)))
                have qj : (j : Int) < (q.body.length : Int) := by omega
                rw [eA] at c11
                clear hh hce eA
                go_wp2
                go_roundw
                case rel => exact ⟨j + 1, by go_num, by omega, HW4, HBq3⟩
                case measure => simp [RowKit.intOf]; omega
              · obtain ⟨ql, hql⟩ : ∃ ql, q.body.length = ql := ⟨_, rfl⟩
                rw [hql] at c11 hj hjl ⊢
                obtain rfl : j = ql := by omega
                go_wp2
                go_roundw
                case rel => exact ⟨1, by go_num, Nat.le_refl _, HW3, HBq2⟩
                case measure => simp [RowKit.intOf]
          · obtain rfl : k = 1 := by omega
            have hblkq : ∀ b, Blk q b → sz ≤ b := fun b hb => by
              obtain ⟨_, off, e⟩ := hb
              exact HQ4.out b off e
            have hf8 := HF7.out.write HQ2.out HBq.out (fun x hx b off e hn hs => by
              obtain rfl := List.mem_singleton.1 hx
              have h1 := hblkq b hs
              have h2 := HBlA.out b off e hn
              omega)
            have hU1 := HU17.out.but HBq.out (fun b off e hn hs => by
              have h1 := hblkq b hs
              have h2 := HBl7.out b off e hn
              omega)
            have hU2 := HU27.out.but HBq.out (fun b off e hn hs => by
              have h1 := hblkq b hs
              have h2 := HBl7.out b off e hn
              omega)
            have hX8 := (HBq.out.block X0 (block_lt HX7.out) (fun hs => by
              have h1 := hblkq X0 hs
              have h2 := HXsz.out
              omega)).trans HX7.out
            have hbt8 : But (fun k => w.heap.size ≤ k) w wr := HBt7.out.trans (HBq.out.mono (fun b hb => by
              have h1 := hblkq b hb
              have h2 := HSz6.out
              show w.heap.size ≤ b
              omega))
            have hbody := (hf8.body _ (List.mem_singleton.2 rfl)).1
            have hout := hf8.outs (List.mem_singleton.2 rfl)
            have HD : Hid (Calls Try.prog 14 #[.pointer (some ⟨B, 0, none⟩), .int .i64 0] wr fun e w' => e = .returned (.tuple #[.agg #[.int .i64 p.fr, .int .i64 p.to, .slice A 1400 c], .bool true]) ∧ But (Sof B v') wr w' ∧ BodyAt w' ⟨p.fr, p.to, bs, A, c⟩) :=
              Lib.hid ((deliver_some wr B v' _ hf8 0 (by show 0 < 1; decide) (by show pickOf 1 0 < 1; decide)).mono (fun e w' ⟨he, hg⟩ => ⟨by
                have h1 := he.trans (congrArg (fun y : It => Ending.returned (.tuple #[pkV y.p, .bool true])) (List.getElem_singleton (a := (⟨1, ⟨p.fr, p.to, bs, A, c⟩⟩ : It)) _))
                simp only [pkV, HBm.out] at h1
                exact h1, hg.2, hbody.but hg.2 hout⟩))
            have HF8 := Lib.hid hf8
            have HU18 := Lib.hid hU1
            have HU28 := Lib.hid hU2
            have HX8 := Lib.hid hX8
            have HBt8 := Lib.hid hbt8
            clear hblkq hf8 hU1 hU2 hX8 hbt8 hbody hout
            go_wp2_with fail
            refine HD.out.mono ?_
            clear HD
            rintro e w9 ⟨rfl, hb9, hbody9⟩
            have hX9n : ¬ Sof B v' X0 := fun e => by
              rcases e with rfl | e
              · have := HF8.out.blk.symm.trans HX8.out
                simp at this
              · obtain ⟨cur, hc⟩ := HF8.out.row.cells e
                have := hc.symm.trans HX8.out
                simp at this
            have hX9 := (hb9.block X0 (block_lt HX8.out) hX9n).trans HX8.out
            have hU9 := HU18.out.but hb9 (HF8.out.typedOut HU28.out)
            obtain ⟨W10, hW10⟩ : ∃ W10, w9.alloc (.cells #[.int .i64 p.fr, .int .i64 p.to, .slice A 1400 c] 30) = W10 := ⟨_, rfl⟩
            have b10 : Below w9.heap.size w9 W10 := by rw [← hW10]; exact (Below.refl _ w9).alloc (Nat.le_refl _) _
            have hx10 : W10.heap[w9.heap.size]? = some (.cells #[.int .i64 p.fr, .int .i64 p.to, .slice A 1400 c] 30 (0, 0)) := by rw [← hW10]; exact heap_alloc_new w9 _
            have hX10 := (b10.block X0 (block_lt hX9)).trans hX9
            have hsame := same_any W10 ⟨p.fr, p.to, bs, A, c⟩ ⟨p.fr, p.to, bs, A7, c7⟩ (hbody9.below b10) (hU9.below b10) true (by simp [sameB, Pk.strip])
            simp only [HBm.out] at hsame
            have hbt10 : But (fun k => w.heap.size ≤ k) w W10 := (HBt8.out.trans (hb9.mono (fun b hb => by
              rcases hb with rfl | hb
              · exact HbB.out
              · exact HLoc5.out b hb))).trans (But.of_below b10)
            have HSame := Lib.hid hsame
            have HBt10 := Lib.hid hbt10
            have HW10 := Lib.hid hW10
            obtain ⟨Y, hY⟩ : ∃ Y, w9.heap.size = Y := ⟨_, rfl⟩
            rw [hY] at hx10
            have HY := Lib.hid hY
            obtain ⟨y0, y1, y2⟩ := blk3 hx10
            obtain ⟨x0, x1, x2⟩ := blk3 hX9
            have hXl9 := block_lt hX9
            clear hb9 hbody9 hX9n hX9 hU9 hW10 b10 hx10 hX10 hsame hbt10 hY
            go_wp2_with fail
            rw [HW10.out, HY.out]
            refine HSame.out.mono ?_
            clear HSame
            rintro e w11 ⟨rfl, hb11⟩
            have HK := Lib.hid (HWk.out w11)
            have HBt11 := Lib.hid (HBt10.out.trans (But.of_below hb11))
            clear hb11 y0 y1 y2 x0 x1 x2
            go_wp2_with fail
            refine HK.out.mono ?_
            rintro e w12 ⟨rfl, hb12⟩
            have HBt12 := Lib.hid (HBt11.out.trans (But.of_below hb12))
            clear hb12
            go_wp2
            go_ret
            exact ⟨rfl, HBt12.out.below (Nat.le_refl _) (fun k hk e => absurd hk (Nat.not_lt.2 e))⟩
  · have q2 : (n : Int) ≤ 1400 := by omega
    have zz : decide (1400 < n) = false := decide_eq_false hlong
    obtain ⟨bs, hbs⟩ : ∃ bs, p.body = bs := ⟨_, rfl⟩
    have hbody : BodyAt w3 ⟨p.fr, p.to, bs, A6, c6⟩ := by rw [← hbs]; exact HT1.out
    have htyp : Typed w3 ⟨p.fr, p.to, bs, A6, c6⟩ := by rw [← hbs]; exact HT2.out
    have hbm : bs.length = n := by rw [← hbs]; exact HN.out
    have hm14 : n ≤ 1400 := by omega
    clear hbs
    have HBd3 := Lib.hid hbody
    have HTy3 := Lib.hid htyp
    have HBm := Lib.hid hbm
    have HR3 : Hid (RV w3 A6 n (bs.map byteV)) := Lib.hid (by
      have := hbody.1
      rw [show (Pk.mk p.fr p.to bs A6 c6).body.length = n by show bs.length = n; omega] at this
      exact this)
    have HNil6 : Hid (A6 = none → c6 = 0) := Lib.hid hbody.2.2.1
    clear hbody htyp hbm
    go_wp2_with (at_builtin; refine wpList_append_rv rfl _ _ 28 rfl w3.heap.size 5 i0 (.int .u8 0) 1 Try.underlying28 hi hz0 hz1 hz2 rfl _ 0 [] rfl ?sa A6 n c6 (bs.map byteV) rfl HNil6.out ?sc (byteV_one _) ?sd ?se ?sf ?_)
    try (case sa => exact World.ownsRow_made w3 #[] 0 (Nat.le_refl _) (Nat.zero_le _) (by simp))
    try (case sc => exact HR3.out.below ((Below.refl _ _).alloc (Nat.le_refl _) _))
    try (case sd => unfold maxLen; omega)
    try (case se => omega)
    try (case sf => simp)
    refine Lib.hid ?_
    intro v7 w4 hown hg
    obtain ⟨A7, c7, rfl⟩ := own_lens hown
    obtain ⟨u1, u2, u3⟩ := row_typed (p := ⟨p.fr, p.to, bs, A6, c6⟩) HBm.out hown (by show bs.length ≤ _; rw [HBm.out]; omega)
    have b4 : Below w3.heap.size w3 w4 := ((Below.refl _ w3).alloc (Nat.le_refl _) _).grown hg (by simp) (by intro k hk; simp [Value.ownBlock] at hk; omega)
    have hf4 := (HF1.out.below HB3.out).below b4
    have y1 := HBd3.out.below b4
    have y2 := HTy3.out.below b4
    have hsend := send_any w4 B (.slice none 0 0) (Fl.new 9) ⟨p.fr, p.to, bs, A6, c6⟩ hf4 y1 (hf4.typedOut y2) (by decide) true (by
      simp only [Fl.may, Fl.full, Fl.new, capOf]
      have := HBm.out
      simp
      omega)
    have hX4 := (b4.block X0 hXl3).trans (show w3.heap[X0]? = _ from HX3.out)
    have HSend := Lib.hid hsend
    have HF4 := Lib.hid hf4
    have HY1 := Lib.hid y1
    have HY2 := Lib.hid y2
    have HU1 := Lib.hid u1
    have HU2 := Lib.hid u2
    have HU3 := Lib.hid u3
    have HB4 := Lib.hid b4
    have HX4 := Lib.hid hX4
    rw [show (Pk.mk p.fr p.to bs A6 c6).body.length = n from HBm.out] at HSend
    clear x0 x1 x2 hown hg u1 u2 u3 b4 hf4 y1 y2 hsend
    obtain ⟨x0, x1, x2⟩ := blk3 hX4
    clear hX4
    go_wp2_with fail
    refine HSend.out.mono ?_
    clear HSend
    rintro e w5 ⟨hyes, _⟩
    obtain ⟨rfl, A, c, v', hf5, hfr5, hb5, hloc5⟩ := hyes trivial
    have y1 := HY1.out.but hb5 (HF4.out.typedOut HY2.out)
    have y2 := HY2.out.but hb5 (HF4.out.typedOut HY2.out)
    have u1 := HU1.out.but hb5 (HF4.out.typedOut HU2.out)
    have u2 := HU2.out.but hb5 (HF4.out.typedOut HU2.out)
    have HWr := Lib.hid (Writable.of y1 y2)
    have HU1' := Lib.hid u1
    have HU2' := Lib.hid u2
    have HTy5 := Lib.hid y2
    have HF5 := Lib.hid hf5
    have HFr5 := Lib.hid hfr5
    have hXn : ¬ Sof B (.slice none 0 0) X0 := fun e => by
      rcases e with rfl | e
      · have := HF4.out.blk.symm.trans HX4.out
        simp at this
      · cases e
    have HX5 := Lib.hid ((hb5.block X0 (block_lt HX4.out) hXn).trans HX4.out)
    have HBt5 : Hid (But (fun k => w.heap.size ≤ k) w w5) := Lib.hid (((((But.of_below HBel1.out).trans (But.of_below HB3.out)).trans (But.of_below HB4.out))).trans (hb5.mono (fun k hk => by
      rcases hk with rfl | hk
      · exact HbB.out
      · cases hk)))
    have HLoc5 : Hid (∀ b, v'.ownBlock = some b → w.heap.size ≤ b) := Lib.hid (fun b e => by
      have h1 := HBel1.out.size
      have h2 := HB3.out.size
      have h3 := HB4.out.size
      rcases hloc5 b e with h | h
      · cases h
      · omega)
    have HSz5 : Hid (w4.heap.size ≤ w5.heap.size) := Lib.hid hb5.size
    clear x0 x1 x2 hyes hf5 hfr5 hb5 hloc5 y1 y2 u1 u2 hXn
    go_wp2
    go_loopw [10] (fun kv wr => ∃ k : Nat, kv = .int .i64 (k : Int) ∧ k ≤ n ∧ Hid (Writable wr ⟨p.fr, p.to, bs, A6, c6⟩) ∧ Hid (But (Blk ⟨p.fr, p.to, bs, A6, c6⟩) w5 wr)) (fun kv _ => n - (RowKit.intOf kv).toNat)
    case atStart => exact ⟨0, rfl, Nat.zero_le _, HWr, Lib.hid (But.refl _ _)⟩
    case round =>
      obtain ⟨k, rfl, hk, HW, HBu⟩ := hrel
      by_cases hlt : k < n
      · obtain ⟨b, off, cur, eA, hh, hlc⟩ := HW.out k (by show k < bs.length; rw [HBm.out]; exact hlt)
        have eA : A6 = some ⟨b, off, none⟩ := eA
        obtain ⟨hce, hfz⟩ := cell_in hh hlc
        obtain ⟨ov, hov⟩ := Option.isSome_iff_exists.1 hce
        have HW' := Lib.hid (HW.out.set b (off + k) (.int .u8 z))
        have HBu' : Hid (But (Blk ⟨p.fr, p.to, bs, A6, c6⟩) w5 (wr.setCell ⟨b, off + k, none⟩ (.int .u8 z))) := Lib.hid (HBu.out.trans (But.set (S := Blk ⟨p.fr, p.to, bs, A6, c6⟩) wr (p := ⟨b, off + k, none⟩) ⟨by show 0 < bs.length; rw [HBm.out]; omega, off, eA⟩ _))
        have qk : (k : Int) < (n : Int) := by omega
        clear hh hce
        cases eA
        go_wp2
        go_roundw
        case rel => exact ⟨k + 1, by go_num, by omega, HW', HBu'⟩
        case measure => simp [RowKit.intOf]; omega
      · obtain rfl : n = k := by omega
        have hblk6 : ∀ b, Blk ⟨p.fr, p.to, bs, A6, c6⟩ b → b < w3.heap.size := fun b hb => by
          obtain ⟨cur, hc⟩ := Blk.typed HTy3.out hb
          exact block_lt hc
        have hbl4 := HB4.out.size
        have hf6 := HF5.out.write HTy5.out HBu.out (fun x hx b off e hn hs => by
          obtain rfl := List.mem_singleton.1 hx
          have h1 := HFr5.out b off e
          have h2 := hblk6 b hs
          omega)
        have u1 := HU1'.out.but HBu.out (fun b off e hn hs => by
          have h1 := HU3.out b off e
          have h2 := hblk6 b hs
          omega)
        have u2 := HU2'.out.but HBu.out (fun b off e hn hs => by
          have h1 := HU3.out b off e
          have h2 := hblk6 b hs
          omega)
        have hX6 := (HBu.out.block X0 (block_lt HX5.out) (fun hs => by
          obtain ⟨cur, hc⟩ := Blk.typed HTy5.out hs
          have := hc.symm.trans HX5.out
          simp at this)).trans HX5.out
        have hbt6 : But (fun k => w.heap.size ≤ k) w wr := HBt5.out.trans (HBu.out.mono (fun b hb => by
          obtain ⟨_, off, e⟩ := hb
          have h1 := HT3.out b off e
          have h2 := HBel1.out.size
          show w.heap.size ≤ b
          omega))
        have HL := Lib.hid (list_any wr B v' _ hf6)
        have HF6 := Lib.hid hf6
        have HU16 := Lib.hid u1
        have HU26 := Lib.hid u2
        have HX6 := Lib.hid hX6
        have HBt6 := Lib.hid hbt6
        clear hblk6 hbl4 hf6 u1 u2 hX6 hbt6
        go_wp2_with fail
        refine HL.out.mono ?_
        clear HL
        rintro e w6 ⟨v11, m5, rfl, hC, hb6⟩
        obtain ⟨y, rfl⟩ : ∃ y, m5 = [y] := List.length_eq_one_iff.1 hC.len
        obtain ⟨q1', q2', q3'⟩ := hC.body y (List.mem_singleton.2 rfl)
        obtain ⟨g11, c11, e11, _⟩ := hC.row.some_ (Nat.lt_succ_self 0)
        have hrow := hC.row
        rw [e11] at hrow
        have e11 : v11 = .slice (some ⟨g11, 0, none⟩) 1 c11 := e11
        subst e11
        obtain ⟨yid, q⟩ := y
        have hr3 : w6.cell? ⟨g11, 3, none⟩ = some (.slice q.A q.body.length q.c) := by
          have := (hrow.at_ (k := 0) (Nat.lt_succ_self 0)).2.2.2
          simpa using this
        obtain ⟨cur11, hcur11⟩ := hrow.cells (b := g11) rfl
        have HQ2 : Hid (Typed w6 q) := Lib.hid q2'
        have qb : (q.body.length : Int) ≤ 140737488351232 := by have := q1'.2.2.2; simp only at this; omega
        have HQ3 : Hid (Fresh wr.heap.size q) := Lib.hid q3'
        have HWq := Lib.hid (Writable.of q1' q2')
        have HR3' := Lib.hid hr3
        have HC11 := Lib.hid hcur11
        have HF7 := Lib.hid (HF6.out.below hb6)
        have HU17 := Lib.hid (HU16.out.below hb6)
        have HU27 := Lib.hid (HU26.out.below hb6)
        have HX7 := Lib.hid ((hb6.block X0 (block_lt HX6.out)).trans HX6.out)
        have HBt7 := Lib.hid (HBt6.out.trans (But.of_below hb6))
        obtain ⟨sz, hsz⟩ : ∃ sz, wr.heap.size = sz := ⟨_, rfl⟩
        have HSz6 : Hid (w.heap.size ≤ sz) := Lib.hid (by rw [← hsz]; exact HBt6.out.size)
        have HQ4 : Hid (Fresh sz q) := Lib.hid (by rw [← hsz]; exact HQ3.out)
        have HBlA : Hid (∀ b off, A = some ⟨b, off, none⟩ → 0 < bs.length → b < sz) := Lib.hid (fun b off e hn => by rw [← hsz]; exact (HF6.out.body _ (List.mem_singleton.2 rfl)).1.lt e hn)
        have HBl7 : Hid (∀ b off, A7 = some ⟨b, off, none⟩ → 0 < bs.length → b < sz) := Lib.hid (fun b off e hn => by rw [← hsz]; exact HU16.out.lt e hn)
        have HXsz : Hid (X0 < sz) := Lib.hid (by rw [← hsz]; exact block_lt HX6.out)
        clear hsz
        have HRow : Hid (∀ w', But (Blk q) w6 w' → w'.cell? ⟨g11, 3, none⟩ = some (.slice q.A q.body.length q.c)) := Lib.hid (fun w' hb => by
          refine (hb.cell (p := ⟨g11, 3, none⟩) (bcell_lt hr3) (fun hs => ?_)).trans hr3
          obtain ⟨cur, hc⟩ := Blk.typed q2' hs
          have := hc.symm.trans hcur11
          simp at this)
        clear hC hb6 q1' q2' q3' hrow hr3 hcur11
        go_wp2
        go_loopw [12] (fun kv wq => ∃ k : Nat, kv = .int .i64 (k : Int) ∧ k ≤ 1 ∧ Hid (Writable wq q) ∧ Hid (But (Blk q) w6 wq)) (fun kv _ => 1 - (RowKit.intOf kv).toNat)
        case atStart => exact ⟨0, rfl, Nat.zero_le _, HWq, Lib.hid (But.refl _ _)⟩
        case round =>
          obtain ⟨k, rfl, hk, HW2, HBq⟩ := hrel
          by_cases hlt2 : k = 0
          · subst hlt2
            go_wp2
            go_loopw [13] (fun jv wq2 => ∃ j : Nat, jv = .int .i64 (j : Int) ∧ j ≤ q.body.length ∧ Hid (Writable wq2 q) ∧ Hid (But (Blk q) w6 wq2)) (fun jv _ => q.body.length - (RowKit.intOf jv).toNat)
            case atStart => exact ⟨0, rfl, Nat.zero_le _, HW2, HBq⟩
            case round =>
              obtain ⟨j, rfl, hj, HW3, HBq2⟩ := hrel
              have c11 := HRow.out _ HBq2.out
              by_cases hjl : j < q.body.length
              · obtain ⟨b, off, cur, eA, hh, hlc⟩ := HW3.out j hjl
                obtain ⟨hce, hfz⟩ := cell_in hh hlc
                obtain ⟨ov, hov⟩ := Option.isSome_iff_exists.1 hce
                have HW4 := Lib.hid (HW3.out.set b (off + j) (.int .u8 z))
                have HBq3 := Lib.hid (HBq2.out.trans (But.set (S := Blk q) _ (p := ⟨b, off + j, none⟩) ⟨by omega, off, eA⟩ (.int .u8 z)))
                have qj : (j : Int) < (q.body.length : Int) := by omega
                rw [eA] at c11
                clear hh hce eA
                go_wp2
                go_roundw
                case rel => exact ⟨j + 1, by go_num, by omega, HW4, HBq3⟩
                case measure => simp [RowKit.intOf]; omega
              · obtain ⟨ql, hql⟩ : ∃ ql, q.body.length = ql := ⟨_, rfl⟩
                rw [hql] at c11 hj hjl ⊢
                obtain rfl : j = ql := by omega
                go_wp2
                go_roundw
                case rel => exact ⟨1, by go_num, Nat.le_refl _, HW3, HBq2⟩
                case measure => simp [RowKit.intOf]
          · obtain rfl : k = 1 := by omega
            have hblkq : ∀ b, Blk q b → sz ≤ b := fun b hb => by
              obtain ⟨_, off, e⟩ := hb
              exact HQ4.out b off e
            have hf8 := HF7.out.write HQ2.out HBq.out (fun x hx b off e hn hs => by
              obtain rfl := List.mem_singleton.1 hx
              have h1 := hblkq b hs
              have h2 := HBlA.out b off e hn
              omega)
            have hU1 := HU17.out.but HBq.out (fun b off e hn hs => by
              have h1 := hblkq b hs
              have h2 := HBl7.out b off e hn
              omega)
            have hU2 := HU27.out.but HBq.out (fun b off e hn hs => by
              have h1 := hblkq b hs
              have h2 := HBl7.out b off e hn
              omega)
            have hX8 := (HBq.out.block X0 (block_lt HX7.out) (fun hs => by
              have h1 := hblkq X0 hs
              have h2 := HXsz.out
              omega)).trans HX7.out
            have hbt8 : But (fun k => w.heap.size ≤ k) w wr := HBt7.out.trans (HBq.out.mono (fun b hb => by
              have h1 := hblkq b hb
              have h2 := HSz6.out
              show w.heap.size ≤ b
              omega))
            have hbody := (hf8.body _ (List.mem_singleton.2 rfl)).1
            have hout := hf8.outs (List.mem_singleton.2 rfl)
            have HD : Hid (Calls Try.prog 14 #[.pointer (some ⟨B, 0, none⟩), .int .i64 0] wr fun e w' => e = .returned (.tuple #[.agg #[.int .i64 p.fr, .int .i64 p.to, .slice A n c], .bool true]) ∧ But (Sof B v') wr w' ∧ BodyAt w' ⟨p.fr, p.to, bs, A, c⟩) :=
              Lib.hid ((deliver_some wr B v' _ hf8 0 (by show 0 < 1; decide) (by show pickOf 1 0 < 1; decide)).mono (fun e w' ⟨he, hg⟩ => ⟨by
                have h1 := he.trans (congrArg (fun y : It => Ending.returned (.tuple #[pkV y.p, .bool true])) (List.getElem_singleton (a := (⟨1, ⟨p.fr, p.to, bs, A, c⟩⟩ : It)) _))
                simp only [pkV, HBm.out] at h1
                exact h1, hg.2, hbody.but hg.2 hout⟩))
            have HF8 := Lib.hid hf8
            have HU18 := Lib.hid hU1
            have HU28 := Lib.hid hU2
            have HX8 := Lib.hid hX8
            have HBt8 := Lib.hid hbt8
            clear hblkq hf8 hU1 hU2 hX8 hbt8 hbody hout
            go_wp2_with fail
            refine HD.out.mono ?_
            clear HD
            rintro e w9 ⟨rfl, hb9, hbody9⟩
            have hX9n : ¬ Sof B v' X0 := fun e => by
              rcases e with rfl | e
              · have := HF8.out.blk.symm.trans HX8.out
                simp at this
              · obtain ⟨cur, hc⟩ := HF8.out.row.cells e
                have := hc.symm.trans HX8.out
                simp at this
            have hX9 := (hb9.block X0 (block_lt HX8.out) hX9n).trans HX8.out
            have hU9 := HU18.out.but hb9 (HF8.out.typedOut HU28.out)
            obtain ⟨W10, hW10⟩ : ∃ W10, w9.alloc (.cells #[.int .i64 p.fr, .int .i64 p.to, .slice A n c] 30) = W10 := ⟨_, rfl⟩
            have b10 : Below w9.heap.size w9 W10 := by rw [← hW10]; exact (Below.refl _ w9).alloc (Nat.le_refl _) _
            have hx10 : W10.heap[w9.heap.size]? = some (.cells #[.int .i64 p.fr, .int .i64 p.to, .slice A n c] 30 (0, 0)) := by rw [← hW10]; exact heap_alloc_new w9 _
            have hX10 := (b10.block X0 (block_lt hX9)).trans hX9
            have hsame := same_any W10 ⟨p.fr, p.to, bs, A, c⟩ ⟨p.fr, p.to, bs, A7, c7⟩ (hbody9.below b10) (hU9.below b10) true (by simp [sameB, Pk.strip])
            simp only [HBm.out] at hsame
            have hbt10 : But (fun k => w.heap.size ≤ k) w W10 := (HBt8.out.trans (hb9.mono (fun b hb => by
              rcases hb with rfl | hb
              · exact HbB.out
              · exact HLoc5.out b hb))).trans (But.of_below b10)
            have HSame := Lib.hid hsame
            have HBt10 := Lib.hid hbt10
            have HW10 := Lib.hid hW10
            obtain ⟨Y, hY⟩ : ∃ Y, w9.heap.size = Y := ⟨_, rfl⟩
            rw [hY] at hx10
            have HY := Lib.hid hY
            obtain ⟨y0, y1, y2⟩ := blk3 hx10
            obtain ⟨x0, x1, x2⟩ := blk3 hX9
            have hXl9 := block_lt hX9
            clear hb9 hbody9 hX9n hX9 hU9 hW10 b10 hx10 hX10 hsame hbt10 hY
            go_wp2_with fail
            rw [HW10.out, HY.out]
            refine HSame.out.mono ?_
            clear HSame
            rintro e w11 ⟨rfl, hb11⟩
            have HK := Lib.hid (HWk.out w11)
            have HBt11 := Lib.hid (HBt10.out.trans (But.of_below hb11))
            clear hb11 y0 y1 y2 x0 x1 x2
            go_wp2_with fail
            refine HK.out.mono ?_
            rintro e w12 ⟨rfl, hb12⟩
            have HBt12 := Lib.hid (HBt11.out.trans (But.of_below hb12))
            clear hb12
            go_wp2
            go_ret
            exact ⟨rfl, HBt12.out.below (Nat.le_refl _) (fun k hk e => absurd hk (Nat.not_lt.2 e))⟩
end Go.Proofs.Yticjkpnlnonibaa
