/-
  Whatever is added, removed and asked for, with any draws, a ring answers as the document says: the law sodalitylaw12.ProbePlays, walked.
-/
import Derived.Test.YtckeknhoimgccaaPrBits
namespace Go.Proofs.Ytckeknhoimgccaa
open Go.RowKit
set_option linter.unusedSimpArgs false
set_option linter.unusedVariables false

theorem both_drew {S : Nat → Prop} {Bp bd Bw bw : Nat} {w : World} {g g2 : Rg} {d d2 : Dr} (h : PrIs S Bp bd w g d ∧ DoIs S Bw bw w g2 d2) : PrIs S Bp bd w.drew g d ∧ DoIs S Bw bw w.drew g2 d2 :=
  have hb : Below w.heap.size w w.drew := (Below.refl _ _).drew
  ⟨h.1.below hb, h.2.below hb⟩
def plA (_ : Nat → Prop) (Bp : Nat) (bd : Nat) (Bw : Nat) (bw : Nat) (X : Nat) (kd : Int) (nd : Int) (my : Int) (sA : Option Addr) (sn : Nat) (sc : Nat) (t : Bool) : Nat → Value → World → Prop
  | 0, v, _ => v = .pointer (some ⟨Bp, 0, none⟩)
  | 1, v, _ => v = .pointer (some ⟨X, 1, none⟩)
  | 2, v, _ => v = .int .i64 nd
  | 3, v, _ => v = .pointer (some ⟨bd, 0, none⟩)
  | 4, v, _ => v = .bool t
  | 5, v, _ => v = .pointer (some ⟨Bw, 0, none⟩)
  | 6, v, _ => v = .pointer (some ⟨X, 1, none⟩)
  | 7, v, _ => v = .int .i64 nd
  | 8, v, _ => v = .pointer (some ⟨bw, 0, none⟩)
  | 9, v, _ => v = .bool t
  | 10, v, _ => v = .bool true
  | 11, v, _ => v = .bool true
  | _, _, _ => True
theorem plA_stable (S : Nat → Prop) (Bp : Nat) (bd : Nat) (Bw : Nat) (bw : Nat) (X : Nat) (kd : Int) (nd : Int) (my : Int) (sA : Option Addr) (sn : Nat) (sc : Nat) (t : Bool) : ∀ i v w w', plA S Bp bd Bw bw X kd nd my sA sn sc t i v w → But S w w' → plA S Bp bd Bw bw X kd nd my sA sn sc t i v w'
  | 0, _, _, _, h, _ | 1, _, _, _, h, _ | 2, _, _, _, h, _ | 3, _, _, _, h, _ | 4, _, _, _, h, _ | 5, _, _, _, h, _ | 6, _, _, _, h, _ | 7, _, _, _, h, _ | 8, _, _, _, h, _ | 9, _, _, _, h, _ | 10, _, _, _, h, _ | 11, _, _, _, h, _ => h
  | _ + 12, _, _, _, h, _ => h
def plR (_ : Nat → Prop) (Bp : Nat) (bd : Nat) (Bw : Nat) (bw : Nat) (X : Nat) (kd : Int) (nd : Int) (my : Int) (sA : Option Addr) (sn : Nat) (sc : Nat) (t : Bool) : Nat → Value → World → Prop
  | 0, v, _ => v = .pointer (some ⟨Bp, 0, none⟩)
  | 1, v, _ => v = .pointer (some ⟨X, 1, none⟩)
  | 2, v, _ => v = .int .i64 nd
  | 3, v, _ => v = .bool t
  | 4, v, _ => v = .pointer (some ⟨Bw, 0, none⟩)
  | 5, v, _ => v = .pointer (some ⟨X, 1, none⟩)
  | 6, v, _ => v = .int .i64 nd
  | 7, v, _ => v = .bool t
  | 8, v, _ => v = .bool true
  | 9, v, _ => v = .bool true
  | _, _, _ => True
theorem plR_stable (S : Nat → Prop) (Bp : Nat) (bd : Nat) (Bw : Nat) (bw : Nat) (X : Nat) (kd : Int) (nd : Int) (my : Int) (sA : Option Addr) (sn : Nat) (sc : Nat) (t : Bool) : ∀ i v w w', plR S Bp bd Bw bw X kd nd my sA sn sc t i v w → But S w w' → plR S Bp bd Bw bw X kd nd my sA sn sc t i v w'
  | 0, _, _, _, h, _ | 1, _, _, _, h, _ | 2, _, _, _, h, _ | 3, _, _, _, h, _ | 4, _, _, _, h, _ | 5, _, _, _, h, _ | 6, _, _, _, h, _ | 7, _, _, _, h, _ | 8, _, _, _, h, _ | 9, _, _, _, h, _ => h
  | _ + 10, _, _, _, h, _ => h
def plO (S : Nat → Prop) (Bp : Nat) (bd : Nat) (Bw : Nat) (bw : Nat) (X : Nat) (kd : Int) (nd : Int) (my : Int) (sA : Option Addr) (sn : Nat) (sc : Nat) (os : List Int) : Nat → Value → World → Prop
  | 0, v, _ => v = .pointer (some ⟨Bp, 0, none⟩)
  | 1, v, _ => v = .pointer (some ⟨X, 3, none⟩)
  | 2, v, _ => v = .slice sA sn sc
  | 3, v, _ => v = .pointer (some ⟨X, 1, none⟩)
  | 4, v, _ => v = .int .i64 nd
  | 5, v, _ => v = .pointer (some ⟨X, 2, none⟩)
  | 6, v, _ => v = .int .i64 my
  | 7, v, _ => v = .pointer (some ⟨bd, 0, none⟩)
  | 8, v, w => ∃ A c, v = .slice A os.length c ∧ RVn S w A os.length (os.map nV)
  | 9, v, _ => v = .pointer (some ⟨X, 3, none⟩)
  | 10, v, _ => v = .slice sA sn sc
  | 11, v, _ => v = .pointer (some ⟨X, 1, none⟩)
  | 12, v, _ => v = .int .i64 nd
  | 13, v, _ => v = .pointer (some ⟨X, 2, none⟩)
  | 14, v, _ => v = .int .i64 my
  | 15, v, _ => v = .pointer (some ⟨bw, 0, none⟩)
  | 16, v, w => ∃ A c, v = .slice A os.length c ∧ RVn S w A os.length (os.map nV)
  | 17, v, _ => v = .bool true
  | 18, v, _ => v = .bool true
  | _, _, _ => True
theorem plO_stable (S : Nat → Prop) (Bp : Nat) (bd : Nat) (Bw : Nat) (bw : Nat) (X : Nat) (kd : Int) (nd : Int) (my : Int) (sA : Option Addr) (sn : Nat) (sc : Nat) (os : List Int) : ∀ i v w w', plO S Bp bd Bw bw X kd nd my sA sn sc os i v w → But S w w' → plO S Bp bd Bw bw X kd nd my sA sn sc os i v w'
  | 0, _, _, _, h, _ | 1, _, _, _, h, _ | 2, _, _, _, h, _ | 3, _, _, _, h, _ | 4, _, _, _, h, _ | 5, _, _, _, h, _ | 6, _, _, _, h, _ | 7, _, _, _, h, _ | 9, _, _, _, h, _ | 10, _, _, _, h, _ | 11, _, _, _, h, _ | 12, _, _, _, h, _ | 13, _, _, _, h, _ | 14, _, _, _, h, _ | 15, _, _, _, h, _ | 17, _, _, _, h, _ | 18, _, _, _, h, _ => h
  | 8, _, _, _, ⟨A, c, e, h⟩, g | 16, _, _, _, ⟨A, c, e, h⟩, g => ⟨A, c, e, h.but g⟩
  | _ + 19, _, _, _, h, _ => h
def plL (S : Nat → Prop) (Bp : Nat) (bd : Nat) (Bw : Nat) (bw : Nat) (row : List Int) (T2 : Nat) (T : Nat) : Nat → Value → World → Prop
  | 0, v, _ => v = .bool true
  | 1, v, _ => v = .bool false
  | 2, v, _ => v = .bool false
  | 3, v, _ => v = .pointer (some ⟨Bp, 0, none⟩)
  | 4, v, w => ∃ A c, v = .slice A row.length c ∧ RVn S w A row.length (row.map nV)
  | 5, v, _ => v = .pointer (some ⟨Bw, 0, none⟩)
  | 6, v, _ => v = .pointer (some ⟨Bw, 0, none⟩)
  | 7, v, _ => v = .pointer (some ⟨Bw, 0, none⟩)
  | 8, v, w => ∃ A c, v = .slice A row.length c ∧ RVn S w A row.length (row.map nV)
  | 9, v, _ => v = .bool true
  | 10, v, _ => v = .bool false
  | 11, v, _ => v = .bool false
  | 12, v, _ => v = .bool false
  | 13, v, _ => v = .pointer (some ⟨Bp, 0, none⟩)
  | 14, v, _ => v = .int .i64 (T2 : Int)
  | 15, v, _ => v = .pointer (some ⟨Bw, 0, none⟩)
  | 16, v, _ => v = .pointer (some ⟨Bw, 0, none⟩)
  | 17, v, _ => v = .pointer (some ⟨Bw, 1, none⟩)
  | 18, v, _ => v = .int .i64 (T2 : Int)
  | 19, v, _ => v = .bool false
  | 20, v, _ => v = .bool false
  | 21, v, _ => v = .bool false
  | 22, v, _ => v = .pointer (some ⟨bd, 0, none⟩)
  | 23, v, _ => v = .int .i64 (T : Int)
  | 24, v, _ => v = .pointer (some ⟨bw, 0, none⟩)
  | 25, v, _ => v = .pointer (some ⟨bw, 0, none⟩)
  | 26, v, _ => v = .pointer (some ⟨bw, 1, none⟩)
  | 27, v, _ => v = .int .i64 (T : Int)
  | 28, v, _ => v = .bool false
  | 29, v, _ => v = .bool false
  | _, _, _ => True
theorem plL_stable (S : Nat → Prop) (Bp : Nat) (bd : Nat) (Bw : Nat) (bw : Nat) (row : List Int) (T2 : Nat) (T : Nat) : ∀ i v w w', plL S Bp bd Bw bw row T2 T i v w → But S w w' → plL S Bp bd Bw bw row T2 T i v w'
  | 0, _, _, _, h, _ | 1, _, _, _, h, _ | 2, _, _, _, h, _ | 3, _, _, _, h, _ | 5, _, _, _, h, _ | 6, _, _, _, h, _ | 7, _, _, _, h, _ | 9, _, _, _, h, _ | 10, _, _, _, h, _ | 11, _, _, _, h, _ | 12, _, _, _, h, _ | 13, _, _, _, h, _ | 14, _, _, _, h, _ | 15, _, _, _, h, _ | 16, _, _, _, h, _ | 17, _, _, _, h, _ | 18, _, _, _, h, _ | 19, _, _, _, h, _ | 20, _, _, _, h, _ | 21, _, _, _, h, _ | 22, _, _, _, h, _ | 23, _, _, _, h, _ | 24, _, _, _, h, _ | 25, _, _, _, h, _ | 26, _, _, _, h, _ | 27, _, _, _, h, _ | 28, _, _, _, h, _ | 29, _, _, _, h, _ => h
  | 4, _, _, _, ⟨A, c, e, h⟩, g | 8, _, _, _, ⟨A, c, e, h⟩, g => ⟨A, c, e, h.but g⟩
  | _ + 30, _, _, _, h, _ => h
def plE (S : Nat → Prop) (Bp : Nat) (bd : Nat) (Bw : Nat) (bw : Nat) (row : List Int) : Nat → Value → World → Prop
  | 0, v, _ => v = .pointer (some ⟨Bp, 0, none⟩)
  | 1, v, w => ∃ A c, v = .slice A row.length c ∧ RVn S w A row.length (row.map nV)
  | 2, v, _ => v = .pointer (some ⟨Bw, 0, none⟩)
  | 3, v, _ => v = .pointer (some ⟨Bw, 0, none⟩)
  | 4, v, _ => v = .pointer (some ⟨Bw, 0, none⟩)
  | 5, v, w => ∃ A c, v = .slice A row.length c ∧ RVn S w A row.length (row.map nV)
  | 6, v, _ => v = .bool true
  | 7, v, _ => v = .bool true
  | 8, v, _ => v = .bool true
  | 9, v, _ => v = .bool true
  | 10, v, _ => v = .bool true
  | _, _, _ => True
theorem plE_stable (S : Nat → Prop) (Bp : Nat) (bd : Nat) (Bw : Nat) (bw : Nat) (row : List Int) : ∀ i v w w', plE S Bp bd Bw bw row i v w → But S w w' → plE S Bp bd Bw bw row i v w'
  | 0, _, _, _, h, _ | 2, _, _, _, h, _ | 3, _, _, _, h, _ | 4, _, _, _, h, _ | 6, _, _, _, h, _ | 7, _, _, _, h, _ | 8, _, _, _, h, _ | 9, _, _, _, h, _ | 10, _, _, _, h, _ => h
  | 1, _, _, _, ⟨A, c, e, h⟩, g | 5, _, _, _, ⟨A, c, e, h⟩, g => ⟨A, c, e, h.but g⟩
  | _ + 11, _, _, _, h, _ => h

set_option maxHeartbeats 32000000 in
set_option maxRecDepth 100000 in
theorem plays_walk (A : Option Addr) (n c : Nat) (xs : List Nat) (A1 : Option Addr) (n1 c1 : Nat) (ss : List St) (w : World) (hR : RV w A n (xs.map u32V)) (hnil : A = none → c = 0) (hnc : n ≤ c) (hn : n ≤ 35184372088832) (hcm : c ≤ maxLen) (hx : ∀ x ∈ xs, x < 4294967296) (hS : SK stC 4 w A1 n1 ss) (hL : ∀ x ∈ ss, Liv w x.live) (hn1 : n1 ≤ maxLen) :
    Calls Try.prog 3 #[.slice A n c, .slice A1 n1 c1] w fun e w' => e = .returned (.bool true) ∧ Below w.heap.size w w' := by
  unfold maxLen at hn1
  have HN := Lib.hid (rgnew_any w)
  obtain ⟨Bp, hBp⟩ : ∃ Bp, w.heap.size = Bp := ⟨_, rfl⟩
  rw [hBp] at HN
  obtain ⟨W1, hW1⟩ : ∃ W1, w.alloc (.cells #[.bool true, .slice none 0 0, .int .i64 0] TG) = W1 := ⟨_, rfl⟩
  obtain ⟨W2, hW2⟩ : ∃ W2, W1.alloc (.cells #[.slice none 0 0, .int .i64 0] TW) = W2 := ⟨_, rfl⟩
  obtain ⟨Bw, hBw⟩ : ∃ Bw, W1.heap.size = Bw := ⟨_, rfl⟩
  have hs1 : Bw = Bp + 1 := by rw [← hBw, ← hW1, ← hBp]; simp
  have hs2 : W2.heap.size = Bw + 1 := by rw [← hW2, ← hBw]; simp
  have hb1 : Below w.heap.size w W1 := by rw [← hW1]; exact (Below.refl _ _).alloc (Nat.le_refl _) _
  have hb2 : Below W1.heap.size W1 W2 := by rw [← hW2]; exact (Below.refl _ _).alloc (Nat.le_refl _) _
  have hb12 : Below w.heap.size w W2 := hb1.trans (hb2.mono hb1.size)
  have hr1 : RgAt true (Two Bp Bw) W2 Bp Rg.new := by
    have := rg_new true (Two Bp Bw) w (by rw [hBp]; exact .inl rfl) (o := .cells #[.bool true, .slice none 0 0, .int .i64 0] TG) rfl
    rw [hW1, hBp] at this
    exact this.below hb2
  have hr2 : RgAt false (Two Bp Bw) W2 Bw Rg.new := by
    have := rg_new false (Two Bp Bw) W1 (by rw [hBw]; exact .inr rfl) (o := .cells #[.slice none 0 0, .int .i64 0] TW) rfl
    rw [hW2, hBw] at this
    exact this
  have HD := Lib.hid (new_any A n c xs W2 (hR.below hb12) hnil hnc hn hx)
  have HRD := Lib.hid (fun w' (hb : Below w.heap.size w w') => rnew_any (fun k => w.heap.size ≤ k) A n c xs w' ⟨hR.below hb, fun b off e h0 => by
      obtain ⟨b', off', e', hlt, _⟩ := hR.2 h0
      rw [e] at e'
      simp only [Option.some.injEq, Addr.mk.injEq] at e'
      omega⟩ hnc hcm hx)
  obtain ⟨d0, hd0⟩ : ∃ d0 : Dr, ⟨xs.take 4096, 0⟩ = d0 := ⟨_, rfl⟩
  rw [hd0] at HD HRD
  have HSS := Lib.hid hS
  have HSl := Lib.hid hS.1
  have HLv := Lib.hid hL
  have HWk := Lib.hid (fun w => works_any w)
  have HBp := Lib.hid hBp
  have HW1 := Lib.hid hW1
  have HW2 := Lib.hid hW2
  have HBw := Lib.hid hBw
  have HS12 : Hid (Bw = Bp + 1 ∧ W2.heap.size = Bw + 1) := Lib.hid ⟨hs1, hs2⟩
  have HB12 := Lib.hid hb12
  have HR1 := Lib.hid hr1
  have HR2 := Lib.hid hr2
  clear hR hnil hx hS hL hBp hW1 hW2 hBw hs1 hs2 hb1 hb2 hb12 hr1 hr2 hd0 hcm
  go_enter Try.func3, Try.ntmps3
  go_wp2_with fail
  refine HN.out.mono ?_
  rintro e w1 ⟨rfl, hw1⟩
  rw [HW1.out] at hw1
  obtain rfl : W1 = w1 := hw1.symm
  go_wp2_with fail
  rw [HW2.out, HBw.out]
  refine HD.out.mono ?_
  rintro e w3 ⟨bd, rfl, hbd, hbd2, hd3, hb3⟩
  have HRD3 := Lib.hid (HRD.out w3 (HB12.out.trans (hb3.mono HB12.out.size)))
  go_wp2_with fail
  refine HRD3.out.mono ?_
  rintro e W4 ⟨bw, rfl, hbw, hbw2, hd4, hb4⟩
  obtain ⟨S, hSS⟩ : ∃ S : Nat → Prop, (fun k => Two Bp bd k ∨ Two Bw bw k) = S := ⟨_, rfl⟩
  have hs12 := HS12.out
  have hb3s := hb3.size
  have hb4s := hb4.size
  have HT : Hid ((∀ k, Two Bp bd k → S k) ∧ (∀ k, Two Bw bw k → S k)) := Lib.hid (by rw [← hSS]; exact ⟨fun k h => .inl h, fun k h => .inr h⟩)
  have HNe : Hid ((¬ Two Bw bw Bp ∧ ¬ Two Bw bw bd) ∧ (¬ Two Bp bd Bw ∧ ¬ Two Bp bd bw)) := Lib.hid (by
    refine ⟨⟨?_, ?_⟩, ⟨?_, ?_⟩⟩ <;> (rintro (e | e) <;> omega))
  have hSlt : ∀ k, S k → k < W4.heap.size := by rw [← hSS]; rintro k ((rfl | rfl) | (rfl | rfl)) <;> omega
  have hSge : ∀ k, S k → w.heap.size ≤ k := by
    have := HBp.out
    rw [← hSS]
    rintro k ((rfl | rfl) | (rfl | rfl)) <;> omega
  have hn2 : ∀ k, k < W2.heap.size → S k → Two Bp Bw k := by
    rw [← hSS]
    rintro k hk ((rfl | rfl) | (rfl | rfl))
    · exact .inl rfl
    · omega
    · exact .inr rfl
    · omega
  have hb34 : Below W2.heap.size W2 W4 := hb3.trans (hb4.mono hb3s)
  have HPD : Hid (PrIs S Bp bd W4 Rg.new d0 ∧ DoIs S Bw bw W4 Rg.new d0) := Lib.hid (by
    refine ⟨⟨((HR1.out).narrow hn2 (HT.out.1 _ (.inl rfl))).below hb34, (hd3.narrow (S' := S) (fun k hk h => ?_) (fun k hk => HT.out.1 k (.inr (tgt_is.1 hk)))).below hb4, by omega, hSlt⟩, ⟨((HR2.out).narrow hn2 (HT.out.2 _ (.inl rfl))).below hb34, hd4.narrow (fun k hk h => .inl (hSge k h)) (HT.out.2 _ (.inr rfl)), by omega, hSlt⟩⟩
    rw [← hSS] at h
    rcases h with (e | e) | (e | e)
    · exact .inl (by omega)
    · exact .inr e
    · exact .inl (by omega)
    · omega)
  have HB4 : Hid (Below w.heap.size w W4) := Lib.hid (HB12.out.trans (hb34.mono HB12.out.size))
  have HSge : Hid (∀ k, S k → w.heap.size ≤ k) := Lib.hid hSge
  clear hbd hbd2 hd3 hb3 hbw hbw2 hd4 hb4 hSS hs12 hb3s hb4s hSlt hSge hn2 hb34
  go_wp2
  go_loopw [9] (fun kv wr => ∃ (k : Nat) (g : Rg) (d : Dr), k ≤ n1 ∧ k ≤ 60 ∧ kv = .int .i64 (k : Int) ∧ Hid (PrIs S Bp bd wr g d ∧ DoIs S Bw bw wr g d) ∧ Hid (But S W4 wr)) (fun kv _ => 60 - (intOf kv).toNat)
  case atStart => exact ⟨0, Rg.new, d0, Nat.zero_le _, by omega, rfl, HPD, Lib.hid (But.refl _ _)⟩
  case round =>
    clear HPD
    obtain ⟨k, g, d, hk, hk60, rfl, hst, hbut⟩ := hrel
    by_cases hlt : k < n1 ∧ k < 60
    · obtain ⟨hlt1, hlt2⟩ := hlt
      have hk' : k < ss.length := by rw [HSl.out]; exact hlt1
      obtain ⟨b, off, rfl, hbl, hat⟩ := HSS.out.2 (by omega)
      have hx := hat k hk'
      obtain ⟨x, hxx⟩ : ∃ x, ss[k] = x := ⟨_, rfl⟩
      have hliv : Liv w x.live := by rw [← hxx]; exact HLv.out _ (List.getElem_mem hk')
      rw [hxx] at hx
      have hbr : wr.heap[b]? = w.heap[b]? := (hbut.out.block b (Nat.lt_of_lt_of_le hbl HB4.out.size) (fun e => by have := HSge.out b e; omega)).trans (HB4.out.block b hbl)
      obtain ⟨c0, c1', c2, c3⟩ := (hx.of_block hbr).st
      have HLW : Hid (Lst S wr x.live.A x.live.l.length x.live.c x.live.l) := Lib.hid ((hliv.lst (S := S) (fun i hi e => by have := HSge.out i e; omega)).below HB4.out |>.but hbut.out (fun _ h => h))
      obtain ⟨kd, nd, my, sA, sn, sc, sl, hse⟩ : ∃ kd nd my sA sn sc sl, x.kind = kd ∧ x.node = nd ∧ x.many = my ∧ x.live.A = sA ∧ x.live.l.length = sn ∧ x.live.c = sc ∧ x.live.l = sl := ⟨_, _, _, _, _, _, _, rfl, rfl, rfl, rfl, rfl, rfl, rfl⟩
      obtain ⟨e1, e2, e3, e4, e5, e6, e7⟩ := hse
      rw [e1] at c0
      rw [e2] at c1'
      rw [e3] at c2
      rw [e4, e5, e6] at c3 HLW
      rw [e7] at HLW
      obtain ⟨X, hX⟩ : ∃ X, wr.heap.size = X := ⟨_, rfl⟩
      obtain ⟨V, hV⟩ : ∃ V, wr.alloc (.cells #[.int .i64 kd, .int .i64 nd, .int .i64 my, .slice sA sn sc] TS) = V := ⟨_, rfl⟩
      have hbV : Below wr.heap.size wr V := by rw [← hV]; exact (Below.refl _ _).alloc (Nat.le_refl _) _
      have hkX : V.heap[X]? = some (.cells #[.int .i64 kd, .int .i64 nd, .int .i64 my, .slice sA sn sc] TS (0, 0)) := by rw [← hV, ← hX]; exact heap_alloc_new wr _
      have hXS : ¬ S X := fun e => by have := hst.out.1.lt X e; omega
      have HXc : Hid (∀ w', But S V w' → w'.cell? ⟨X, 0, none⟩ = some (.int .i64 kd) ∧ w'.cell? ⟨X, 1, none⟩ = some (.int .i64 nd) ∧ w'.cell? ⟨X, 2, none⟩ = some (.int .i64 my) ∧ w'.cell? ⟨X, 3, none⟩ = some (.slice sA sn sc)) := Lib.hid (fun w' h => blk4 ((h.block X (block_lt hkX) hXS).trans hkX))
      have HVB : Hid (PrIs S Bp bd V g d ∧ DoIs S Bw bw V g d) := Lib.hid ⟨hst.out.1.below hbV, hst.out.2.below hbV⟩
      have HVS : Hid (But S W4 V) := Lib.hid (hbut.out.trans (But.of_below hbV))
      have HLV := Lib.hid (HLW.out.below hbV)
      have HSlt : Hid (∀ k, S k → k < V.heap.size) := Lib.hid (fun k hk => Nat.lt_of_lt_of_le (hst.out.1.lt k hk) hbV.size)
      obtain ⟨v0, v1, v2, v3⟩ := HXc.out V (But.refl _ _)
      have q1 : (0 : Int) ≤ (k : Int) := by omega
      have q2 : (k : Int) < (n1 : Int) := by omega
      have q3 : (k : Int) < 60 := by omega
      have HX := Lib.hid hX
      have HV := Lib.hid hV
      clear hk' hat hx hxx hliv hbr e1 e2 e3 e4 e5 e6 e7 hX hV hbV hkX hXS hbl
      have hk5 : kd = 0 ∨ kd = 1 ∨ kd = 2 ∨ kd = 3 ∨ (kd ≠ 0 ∧ kd ≠ 1 ∧ kd ≠ 2 ∧ kd ≠ 3) := by omega
      rcases hk5 with hkd | hkd | hkd | hkd | ⟨hkd, hkd1, hkd2, hkd3⟩
      · subst hkd
        obtain ⟨t, ht⟩ : ∃ t, g.takes nd = t := ⟨_, rfl⟩
        obtain ⟨g2, hg2⟩ : ∃ g2, g.added nd d = g2 := ⟨_, rfl⟩
        obtain ⟨d2, hd2⟩ : ∃ d2, d.added g nd = d2 := ⟨_, rfl⟩
        have HC1 : Hid (∀ w', PrIs S Bp bd w' g d → Calls Try.prog 11 #[.pointer (some ⟨Bp, 0, none⟩), .int .i64 nd, .pointer (some ⟨bd, 0, none⟩)] w' fun e w2 => e = .returned (.bool t) ∧ PrIs S Bp bd w2 g2 d2 ∧ But (Two Bp bd) w' w2) := Lib.hid (fun w' h => by rw [← ht, ← hg2, ← hd2]; exact h.add nd)
        have HC2 : Hid (∀ w', DoIs S Bw bw w' g d → Calls Try.prog 12 #[.pointer (some ⟨Bw, 0, none⟩), .int .i64 nd, .pointer (some ⟨bw, 0, none⟩)] w' fun e w2 => e = .returned (.bool t) ∧ DoIs S Bw bw w2 g2 d2 ∧ But (Two Bw bw) w' w2) := Lib.hid (fun w' h => by rw [← ht, ← hg2, ← hd2]; exact h.add nd)
        clear ht hg2 hd2
        go_wp2_with fail
        rw [HX.out, HV.out]
        go_wp2
        refine Go.Rel.wp_region_states (by kernel_rfl) (by kernel_rfl) (by kernel_rfl) (by kernel_rfl) (fun f w => PrIs S Bp bd w (bif f 4 then g2 else g) (bif f 4 then d2 else d) ∧ DoIs S Bw bw w (bif f 9 then g2 else g) (bif f 9 then d2 else d)) (But S) (fun _ _ _ h k => h.trans k) ((But.refl _ _).drew) (both_drew HVB.out) (plA S Bp bd Bw bw X 0 nd my sA sn sc t) (plA_stable S Bp bd Bw bw X 0 nd my sA sn sc t) ?hs0 ?he0
        case hs0 =>
          refine (.cons ?_ (.cons ?_ (.cons ?_ (.cons ?_ (.cons ?_ (.cons ?_ (.cons ?_ (.cons ?_ (.cons ?_ (.cons ?_ (.cons ?_ (.cons ?_ .nil))))))))))))
          · intro f a w' hI hf hanc hdesc hle hs' hd K hK
            have f5 : a.tmps[5]? = some (.pointer (some ⟨Bp, 0, none⟩)) := hs'.2.2 5 (by kernel_rfl)
            unfold Go.Rel.stepOf
            go_simp
            exact hK _ _ (But.refl _ _) (hI) rfl
          · intro f a w' hI hf hanc hdesc hle hs' hd K hK
            have f10 : a.tmps[10]? = some (.pointer (some ⟨X, 0, none⟩)) := hs'.2.2 10 (by kernel_rfl)
            unfold Go.Rel.stepOf
            go_simp
            exact hK _ _ (But.refl _ _) (hI) rfl
          · intro f a w' hI hf hanc hdesc hle hs' hd K hK
            obtain ⟨_, t1, rfl⟩ := hd 1 42 (by kernel_rfl)
            obtain ⟨x0, x1, x2, x3⟩ := HXc.out w' hle
            unfold Go.Rel.stepOf
            go_simp
            exact hK _ _ (But.refl _ _) (hI) rfl
          · intro f a w' hI hf hanc hdesc hle hs' hd K hK
            have f7 : a.tmps[7]? = some (.pointer (some ⟨bd, 0, none⟩)) := hs'.2.2 7 (by kernel_rfl)
            unfold Go.Rel.stepOf
            go_simp
            exact hK _ _ (But.refl _ _) (hI) rfl
          · intro f a w' hI hf hanc hdesc hle hs' hd K hK
            obtain ⟨_, t0, rfl⟩ := hd 0 41 (by kernel_rfl)
            obtain ⟨_, t2, rfl⟩ := hd 2 43 (by kernel_rfl)
            obtain ⟨_, t3, rfl⟩ := hd 3 44 (by kernel_rfl)
            have hst := hI.1
            rw [hf] at hst
            unfold Go.Rel.stepOf
            go_simp
            refine (HC1.out w' hst).mono ?_
            rintro e w2 ⟨rfl, hr5, hb5⟩
            have hbS : But S w' w2 := hb5.mono HT.out.1
            exact hK _ _ hbS ⟨hr5, hI.2.but hb5 HT.out.1 HNe.out.2.1 HNe.out.2.2⟩ rfl
          · intro f a w' hI hf hanc hdesc hle hs' hd K hK
            have f6 : a.tmps[6]? = some (.pointer (some ⟨Bw, 0, none⟩)) := hs'.2.2 6 (by kernel_rfl)
            unfold Go.Rel.stepOf
            go_simp
            exact hK _ _ (But.refl _ _) (hI) rfl
          · intro f a w' hI hf hanc hdesc hle hs' hd K hK
            have f10 : a.tmps[10]? = some (.pointer (some ⟨X, 0, none⟩)) := hs'.2.2 10 (by kernel_rfl)
            unfold Go.Rel.stepOf
            go_simp
            exact hK _ _ (But.refl _ _) (hI) rfl
          · intro f a w' hI hf hanc hdesc hle hs' hd K hK
            obtain ⟨_, t6, rfl⟩ := hd 6 47 (by kernel_rfl)
            obtain ⟨x0, x1, x2, x3⟩ := HXc.out w' hle
            unfold Go.Rel.stepOf
            go_simp
            exact hK _ _ (But.refl _ _) (hI) rfl
          · intro f a w' hI hf hanc hdesc hle hs' hd K hK
            have f8 : a.tmps[8]? = some (.pointer (some ⟨bw, 0, none⟩)) := hs'.2.2 8 (by kernel_rfl)
            unfold Go.Rel.stepOf
            go_simp
            exact hK _ _ (But.refl _ _) (hI) rfl
          · intro f a w' hI hf hanc hdesc hle hs' hd K hK
            obtain ⟨_, t5, rfl⟩ := hd 5 46 (by kernel_rfl)
            obtain ⟨_, t7, rfl⟩ := hd 7 48 (by kernel_rfl)
            obtain ⟨_, t8, rfl⟩ := hd 8 49 (by kernel_rfl)
            have hst := hI.2
            rw [hf] at hst
            unfold Go.Rel.stepOf
            go_simp
            refine (HC2.out w' hst).mono ?_
            rintro e w2 ⟨rfl, hr5, hb5⟩
            have hbS : But S w' w2 := hb5.mono HT.out.2
            exact hK _ _ hbS ⟨hI.1.but hb5 HT.out.2 HNe.out.1.1 HNe.out.1.2, hr5⟩ rfl
          · intro f a w' hI hf hanc hdesc hle hs' hd K hK
            obtain ⟨_, t4, rfl⟩ := hd 4 45 (by kernel_rfl)
            obtain ⟨_, t9, rfl⟩ := hd 9 50 (by kernel_rfl)
            unfold Go.Rel.stepOf
            go_simp
            exact hK _ _ (But.refl _ _) (hI) rfl
          · intro f a w' hI hf hanc hdesc hle hs' hd K hK
            obtain ⟨_, t10, rfl⟩ := hd 10 51 (by kernel_rfl)
            unfold Go.Rel.stepOf
            go_simp
            exact hK _ _ (But.refl _ _) (hI) rfl
        case he0 =>
          intro f a w5 hall hI hle hs' hR'
          have hf1 := hall 4 (by decide)
          have hf2 := hall 9 (by decide)
          simp only [hf1, hf2, cond_true] at hI
          have HI5 := Lib.hid hI
          have HB5 : Hid (But S W4 w5) := Lib.hid (HVS.out.trans hle)
          clear hI hall hf1 hf2 hle
          obtain ⟨v41, s41, _⟩ := hR' 0 41 (by kernel_rfl)
          obtain ⟨v42, s42, _⟩ := hR' 1 42 (by kernel_rfl)
          obtain ⟨v43, s43, _⟩ := hR' 2 43 (by kernel_rfl)
          obtain ⟨v44, s44, _⟩ := hR' 3 44 (by kernel_rfl)
          obtain ⟨v45, s45, _⟩ := hR' 4 45 (by kernel_rfl)
          obtain ⟨v46, s46, _⟩ := hR' 5 46 (by kernel_rfl)
          obtain ⟨v47, s47, _⟩ := hR' 6 47 (by kernel_rfl)
          obtain ⟨v48, s48, _⟩ := hR' 7 48 (by kernel_rfl)
          obtain ⟨v49, s49, _⟩ := hR' 8 49 (by kernel_rfl)
          obtain ⟨v50, s50, _⟩ := hR' 9 50 (by kernel_rfl)
          obtain ⟨v51, s51, _⟩ := hR' 10 51 (by kernel_rfl)
          obtain ⟨_, s11, rfl⟩ := hR' 11 11 (by kernel_rfl)
          have e := hs'.shape
          simp only [List.toList_toArray, List.foldl, Go.Rel.reset, Array.getD_eq_getD_getElem?, s41, s42, s43, s44, s45, s46, s47, s48, s49, s50, s51, s11, Option.getD_some] at e
          simp at e
          clear hR' hs' s41 s42 s43 s44 s45 s46 s47 s48 s49 s50 s51 s11
          subst e
          obtain ⟨row, hrow⟩ : ∃ row, g2.row = row := ⟨_, rfl⟩
          obtain ⟨T2, hT2⟩ : ∃ T2, g2.at_ = T2 := ⟨_, rfl⟩
          obtain ⟨T, hT⟩ : ∃ T, d2.at_ = T := ⟨_, rfl⟩
          have HLi : Hid (∀ w', PrIs S Bp bd w' (g2) (d2) → Calls Try.prog 20 #[.pointer (some ⟨Bp, 0, none⟩)] w' (IRow w' row)) := Lib.hid (fun w' h => by rw [← hrow]; exact h.list)
          have HAt : Hid (∀ w', PrIs S Bp bd w' (g2) (d2) → Calls Try.prog 21 #[.pointer (some ⟨Bp, 0, none⟩)] w' fun e w2 => e = .returned (.int .i64 (T2 : Int)) ∧ w' = w2) := Lib.hid (fun w' h => by rw [← hT2]; exact h.at_)
          have HTk : Hid (∀ w', PrIs S Bp bd w' (g2) (d2) → Calls Try.prog 22 #[.pointer (some ⟨bd, 0, none⟩)] w' fun e w2 => e = .returned (.int .i64 (T : Int)) ∧ w' = w2) := Lib.hid (fun w' h => by rw [← hT]; exact h.taken)
          have HRw : Hid (∀ w', DoIs S Bw bw w' (g2) (d2) → ∃ A c, w'.cell? ⟨Bw, 0, none⟩ = some (.slice A row.length c) ∧ RVn S w' A row.length (row.map nV)) := Lib.hid (fun w' h => by rw [← hrow]; obtain ⟨_, A, c, hr⟩ := h.ring; exact ⟨A, c, hr.cl, hr.row⟩)
          have HRa : Hid (∀ w', DoIs S Bw bw w' (g2) (d2) → w'.cell? ⟨Bw, 1, none⟩ = some (.int .i64 (T2 : Int))) := Lib.hid (fun w' h => by rw [← hT2]; obtain ⟨_, A, c, hr⟩ := h.ring; exact hr.co)
          have HRd : Hid (∀ w', DoIs S Bw bw w' (g2) (d2) → w'.cell? ⟨bw, 1, none⟩ = some (.int .i64 (T : Int))) := Lib.hid (fun w' h => by rw [← hT]; obtain ⟨_, _, A, n, c, hh, _⟩ := h.dw; rw [cell_of_row _ _ _ _ _ _ hh]; rfl)
          have HSame : Hid (∀ A A2 c c2 w', RV w' A row.length (row.map nV) → RV w' A2 row.length (row.map nV) → Calls Try.prog 17 #[.slice A row.length c, .slice A2 row.length c2] w' fun e w2 => e = .returned (.bool true) ∧ Below w'.heap.size w' w2) := Lib.hid (fun A A2 c c2 w' h h' => same_any A A2 _ c c2 row w' h h' (by rw [← hrow]; have := Rg.few HI5.out.1.ok; omega))
          have HSlt : Hid (∀ k, S k → k < w5.heap.size) := Lib.hid (fun k hk => HI5.out.1.lt k hk)
          clear hrow hT2 hT
          go_wp2
          refine Go.Rel.wp_region_states (by kernel_rfl) (by kernel_rfl) (by kernel_rfl) (by kernel_rfl) (fun _ w => PrIs S Bp bd w (g2) (d2) ∧ DoIs S Bw bw w (g2) (d2)) (But S) (fun _ _ _ h k => h.trans k) ((But.refl _ _).drew) (both_drew HI5.out) (plL S Bp bd Bw bw row T2 T) (plL_stable S Bp bd Bw bw row T2 T) ?hsL0 ?heL0
          case hsL0 =>
            refine (.cons ?_ (.cons ?_ (.cons ?_ (.cons ?_ (.cons ?_ (.cons ?_ (.cons ?_ (.cons ?_ (.cons ?_ (.cons ?_ (.cons ?_ (.cons ?_ (.cons ?_ (.cons ?_ (.cons ?_ (.cons ?_ (.cons ?_ (.cons ?_ (.cons ?_ (.cons ?_ (.cons ?_ (.cons ?_ (.cons ?_ (.cons ?_ (.cons ?_ (.cons ?_ (.cons ?_ (.cons ?_ (.cons ?_ (.cons ?_ .nil))))))))))))))))))))))))))))))
            · intro f a w' hI hf hanc hdesc hle hs' hd K hK
              have f11 : a.tmps[11]? = some (.bool true) := hs'.2.2 11 (by kernel_rfl)
              unfold Go.Rel.stepOf
              go_simp
              exact hK _ _ (But.refl _ _) (hI) rfl
            · intro f a w' hI hf hanc hdesc hle hs' hd K hK
              obtain ⟨_, t0, rfl⟩ := hd 0 113 (by kernel_rfl)
              unfold Go.Rel.stepOf
              go_simp
              exact hK _ _ (But.refl _ _) (hI) rfl
            · intro f a w' hI hf hanc hdesc hle hs' hd K hK
              obtain ⟨_, t1, rfl⟩ := hd 1 114 (by kernel_rfl)
              unfold Go.Rel.stepOf
              go_simp
              exact hK _ _ (But.refl _ _) (hI) rfl
            · intro f a w' hI hf hanc hdesc hle hs' hd K hK
              obtain ⟨_, tg, rfl⟩ := hd 2 115 (by kernel_rfl)
              have f5 : a.tmps[5]? = some (.pointer (some ⟨Bp, 0, none⟩)) := hs'.2.2 5 (by kernel_rfl)
              unfold Go.Rel.stepOf
              go_simp
              exact hK _ _ (But.refl _ _) (hI) rfl
            · intro f a w' hI hf hanc hdesc hle hs' hd K hK
              obtain ⟨_, tg, rfl⟩ := hd 2 115 (by kernel_rfl)
              obtain ⟨_, t3, rfl⟩ := hd 3 116 (by kernel_rfl)
              unfold Go.Rel.stepOf
              go_simp
              refine (HLi.out w' hI.1).mono ?_
              rintro e w2 ⟨A5, c5, rfl, hv5, _, _, _, hblk5, hb5⟩
              exact hK _ _ (But.of_below hb5) ⟨hI.1.below hb5, hI.2.below hb5⟩ ⟨_, _, rfl, hv5, fun b off e _ hs => by have := hblk5 b off e; have := HSlt.out b hs; have := hle.size; omega⟩
            · intro f a w' hI hf hanc hdesc hle hs' hd K hK
              obtain ⟨_, tg, rfl⟩ := hd 2 115 (by kernel_rfl)
              have f6 : a.tmps[6]? = some (.pointer (some ⟨Bw, 0, none⟩)) := hs'.2.2 6 (by kernel_rfl)
              unfold Go.Rel.stepOf
              go_simp
              exact hK _ _ (But.refl _ _) (hI) rfl
            · intro f a w' hI hf hanc hdesc hle hs' hd K hK
              obtain ⟨_, tg, rfl⟩ := hd 2 115 (by kernel_rfl)
              obtain ⟨_, t5, rfl⟩ := hd 5 118 (by kernel_rfl)
              unfold Go.Rel.stepOf
              go_simp
              exact hK _ _ (But.refl _ _) (hI) rfl
            · intro f a w' hI hf hanc hdesc hle hs' hd K hK
              obtain ⟨_, tg, rfl⟩ := hd 2 115 (by kernel_rfl)
              obtain ⟨_, t6, rfl⟩ := hd 6 119 (by kernel_rfl)
              unfold Go.Rel.stepOf
              go_simp
              exact hK _ _ (But.refl _ _) (hI) rfl
            · intro f a w' hI hf hanc hdesc hle hs' hd K hK
              obtain ⟨_, tg, rfl⟩ := hd 2 115 (by kernel_rfl)
              obtain ⟨_, t7, rfl⟩ := hd 7 120 (by kernel_rfl)
              obtain ⟨A9, c9, cl, hv9⟩ := HRw.out w' hI.2
              unfold Go.Rel.stepOf
              go_simp
              exact hK _ _ (But.refl _ _) hI ⟨_, _, rfl, hv9⟩
            · intro f a w' hI hf hanc hdesc hle hs' hd K hK
              obtain ⟨_, tg, rfl⟩ := hd 2 115 (by kernel_rfl)
              obtain ⟨_, t4, A4, c4, rfl, h4⟩ := hd 4 117 (by kernel_rfl)
              obtain ⟨_, t8, A8, c8, rfl, h8⟩ := hd 8 121 (by kernel_rfl)
              unfold Go.Rel.stepOf
              go_simp
              refine (HSame.out _ _ _ _ w' h4.1 h8.1).mono ?_
              rintro e w2 ⟨rfl, hb5⟩
              exact hK _ _ (But.of_below hb5) ⟨hI.1.below hb5, hI.2.below hb5⟩ rfl
            · intro f a w' hI hf hanc hdesc hle hs' hd K hK
              obtain ⟨_, tg, rfl⟩ := hd 2 115 (by kernel_rfl)
              obtain ⟨_, t9, rfl⟩ := hd 9 122 (by kernel_rfl)
              unfold Go.Rel.stepOf
              go_simp
              exact hK _ _ (But.refl _ _) (hI) rfl
            · intro f a w' hI hf hanc hdesc hle hs' hd K hK
              obtain ⟨_, t2, rfl⟩ := hd 2 115 (by kernel_rfl)
              obtain ⟨_, t10, rfl⟩ := hd 10 123 (by kernel_rfl)
              unfold Go.Rel.stepOf
              go_simp
              exact hK _ _ (But.refl _ _) (hI) rfl
            · intro f a w' hI hf hanc hdesc hle hs' hd K hK
              obtain ⟨_, t11, rfl⟩ := hd 11 124 (by kernel_rfl)
              unfold Go.Rel.stepOf
              go_simp
              exact hK _ _ (But.refl _ _) (hI) rfl
            · intro f a w' hI hf hanc hdesc hle hs' hd K hK
              obtain ⟨_, tg, rfl⟩ := hd 12 125 (by kernel_rfl)
              have f5 : a.tmps[5]? = some (.pointer (some ⟨Bp, 0, none⟩)) := hs'.2.2 5 (by kernel_rfl)
              unfold Go.Rel.stepOf
              go_simp
              exact hK _ _ (But.refl _ _) (hI) rfl
            · intro f a w' hI hf hanc hdesc hle hs' hd K hK
              obtain ⟨_, tg, rfl⟩ := hd 12 125 (by kernel_rfl)
              obtain ⟨_, t13, rfl⟩ := hd 13 126 (by kernel_rfl)
              unfold Go.Rel.stepOf
              go_simp
              refine (HAt.out w' hI.1).mono ?_
              rintro e w2 ⟨rfl, rfl⟩
              exact hK _ _ (But.refl _ _) hI rfl
            · intro f a w' hI hf hanc hdesc hle hs' hd K hK
              obtain ⟨_, tg, rfl⟩ := hd 12 125 (by kernel_rfl)
              have f6 : a.tmps[6]? = some (.pointer (some ⟨Bw, 0, none⟩)) := hs'.2.2 6 (by kernel_rfl)
              unfold Go.Rel.stepOf
              go_simp
              exact hK _ _ (But.refl _ _) (hI) rfl
            · intro f a w' hI hf hanc hdesc hle hs' hd K hK
              obtain ⟨_, tg, rfl⟩ := hd 12 125 (by kernel_rfl)
              obtain ⟨_, t15, rfl⟩ := hd 15 128 (by kernel_rfl)
              unfold Go.Rel.stepOf
              go_simp
              exact hK _ _ (But.refl _ _) (hI) rfl
            · intro f a w' hI hf hanc hdesc hle hs' hd K hK
              obtain ⟨_, tg, rfl⟩ := hd 12 125 (by kernel_rfl)
              obtain ⟨_, t16, rfl⟩ := hd 16 129 (by kernel_rfl)
              unfold Go.Rel.stepOf
              go_simp
              exact hK _ _ (But.refl _ _) (hI) rfl
            · intro f a w' hI hf hanc hdesc hle hs' hd K hK
              obtain ⟨_, tg, rfl⟩ := hd 12 125 (by kernel_rfl)
              obtain ⟨_, t17, rfl⟩ := hd 17 130 (by kernel_rfl)
              have co := HRa.out w' hI.2
              unfold Go.Rel.stepOf
              go_simp
              exact hK _ _ (But.refl _ _) (hI) rfl
            · intro f a w' hI hf hanc hdesc hle hs' hd K hK
              obtain ⟨_, tg, rfl⟩ := hd 12 125 (by kernel_rfl)
              obtain ⟨_, t14, rfl⟩ := hd 14 127 (by kernel_rfl)
              obtain ⟨_, t18, rfl⟩ := hd 18 131 (by kernel_rfl)
              unfold Go.Rel.stepOf
              go_simp
              exact hK _ _ (But.refl _ _) (hI) rfl
            · intro f a w' hI hf hanc hdesc hle hs' hd K hK
              obtain ⟨_, t12, rfl⟩ := hd 12 125 (by kernel_rfl)
              obtain ⟨_, t19, rfl⟩ := hd 19 132 (by kernel_rfl)
              unfold Go.Rel.stepOf
              go_simp
              exact hK _ _ (But.refl _ _) (hI) rfl
            · intro f a w' hI hf hanc hdesc hle hs' hd K hK
              obtain ⟨_, t20, rfl⟩ := hd 20 133 (by kernel_rfl)
              unfold Go.Rel.stepOf
              go_simp
              exact hK _ _ (But.refl _ _) (hI) rfl
            · intro f a w' hI hf hanc hdesc hle hs' hd K hK
              obtain ⟨_, tg, rfl⟩ := hd 21 134 (by kernel_rfl)
              have f7 : a.tmps[7]? = some (.pointer (some ⟨bd, 0, none⟩)) := hs'.2.2 7 (by kernel_rfl)
              unfold Go.Rel.stepOf
              go_simp
              exact hK _ _ (But.refl _ _) (hI) rfl
            · intro f a w' hI hf hanc hdesc hle hs' hd K hK
              obtain ⟨_, tg, rfl⟩ := hd 21 134 (by kernel_rfl)
              obtain ⟨_, t22, rfl⟩ := hd 22 135 (by kernel_rfl)
              unfold Go.Rel.stepOf
              go_simp
              refine (HTk.out w' hI.1).mono ?_
              rintro e w2 ⟨rfl, rfl⟩
              exact hK _ _ (But.refl _ _) hI rfl
            · intro f a w' hI hf hanc hdesc hle hs' hd K hK
              obtain ⟨_, tg, rfl⟩ := hd 21 134 (by kernel_rfl)
              have f8 : a.tmps[8]? = some (.pointer (some ⟨bw, 0, none⟩)) := hs'.2.2 8 (by kernel_rfl)
              unfold Go.Rel.stepOf
              go_simp
              exact hK _ _ (But.refl _ _) (hI) rfl
            · intro f a w' hI hf hanc hdesc hle hs' hd K hK
              obtain ⟨_, tg, rfl⟩ := hd 21 134 (by kernel_rfl)
              obtain ⟨_, t24, rfl⟩ := hd 24 137 (by kernel_rfl)
              unfold Go.Rel.stepOf
              go_simp
              exact hK _ _ (But.refl _ _) (hI) rfl
            · intro f a w' hI hf hanc hdesc hle hs' hd K hK
              obtain ⟨_, tg, rfl⟩ := hd 21 134 (by kernel_rfl)
              obtain ⟨_, t25, rfl⟩ := hd 25 138 (by kernel_rfl)
              unfold Go.Rel.stepOf
              go_simp
              exact hK _ _ (But.refl _ _) (hI) rfl
            · intro f a w' hI hf hanc hdesc hle hs' hd K hK
              obtain ⟨_, tg, rfl⟩ := hd 21 134 (by kernel_rfl)
              obtain ⟨_, t26, rfl⟩ := hd 26 139 (by kernel_rfl)
              have cd := HRd.out w' hI.2
              unfold Go.Rel.stepOf
              go_simp
              exact hK _ _ (But.refl _ _) (hI) rfl
            · intro f a w' hI hf hanc hdesc hle hs' hd K hK
              obtain ⟨_, tg, rfl⟩ := hd 21 134 (by kernel_rfl)
              obtain ⟨_, t23, rfl⟩ := hd 23 136 (by kernel_rfl)
              obtain ⟨_, t27, rfl⟩ := hd 27 140 (by kernel_rfl)
              unfold Go.Rel.stepOf
              go_simp
              exact hK _ _ (But.refl _ _) (hI) rfl
            · intro f a w' hI hf hanc hdesc hle hs' hd K hK
              obtain ⟨_, t21, rfl⟩ := hd 21 134 (by kernel_rfl)
              obtain ⟨_, t28, rfl⟩ := hd 28 141 (by kernel_rfl)
              unfold Go.Rel.stepOf
              go_simp
              exact hK _ _ (But.refl _ _) (hI) rfl
          case heL0 =>
            intro f a w9 hall hI hle hs' hR'
            have HI9 := Lib.hid hI
            have HB9 : Hid (But S W4 w9) := Lib.hid (HB5.out.trans hle)
            clear hI hall hle
            obtain ⟨v113, s113, _⟩ := hR' 0 113 (by kernel_rfl)
            obtain ⟨v114, s114, _⟩ := hR' 1 114 (by kernel_rfl)
            obtain ⟨v115, s115, _⟩ := hR' 2 115 (by kernel_rfl)
            obtain ⟨v116, s116, _⟩ := hR' 3 116 (by kernel_rfl)
            obtain ⟨v117, s117, _⟩ := hR' 4 117 (by kernel_rfl)
            obtain ⟨v118, s118, _⟩ := hR' 5 118 (by kernel_rfl)
            obtain ⟨v119, s119, _⟩ := hR' 6 119 (by kernel_rfl)
            obtain ⟨v120, s120, _⟩ := hR' 7 120 (by kernel_rfl)
            obtain ⟨v121, s121, _⟩ := hR' 8 121 (by kernel_rfl)
            obtain ⟨v122, s122, _⟩ := hR' 9 122 (by kernel_rfl)
            obtain ⟨v123, s123, _⟩ := hR' 10 123 (by kernel_rfl)
            obtain ⟨v124, s124, _⟩ := hR' 11 124 (by kernel_rfl)
            obtain ⟨v125, s125, _⟩ := hR' 12 125 (by kernel_rfl)
            obtain ⟨v126, s126, _⟩ := hR' 13 126 (by kernel_rfl)
            obtain ⟨v127, s127, _⟩ := hR' 14 127 (by kernel_rfl)
            obtain ⟨v128, s128, _⟩ := hR' 15 128 (by kernel_rfl)
            obtain ⟨v129, s129, _⟩ := hR' 16 129 (by kernel_rfl)
            obtain ⟨v130, s130, _⟩ := hR' 17 130 (by kernel_rfl)
            obtain ⟨v131, s131, _⟩ := hR' 18 131 (by kernel_rfl)
            obtain ⟨v132, s132, _⟩ := hR' 19 132 (by kernel_rfl)
            obtain ⟨v133, s133, _⟩ := hR' 20 133 (by kernel_rfl)
            obtain ⟨v134, s134, _⟩ := hR' 21 134 (by kernel_rfl)
            obtain ⟨v135, s135, _⟩ := hR' 22 135 (by kernel_rfl)
            obtain ⟨v136, s136, _⟩ := hR' 23 136 (by kernel_rfl)
            obtain ⟨v137, s137, _⟩ := hR' 24 137 (by kernel_rfl)
            obtain ⟨v138, s138, _⟩ := hR' 25 138 (by kernel_rfl)
            obtain ⟨v139, s139, _⟩ := hR' 26 139 (by kernel_rfl)
            obtain ⟨v140, s140, _⟩ := hR' 27 140 (by kernel_rfl)
            obtain ⟨v141, s141, _⟩ := hR' 28 141 (by kernel_rfl)
            obtain ⟨_, s142, rfl⟩ := hR' 29 142 (by kernel_rfl)
            have e := hs'.shape
            simp only [List.toList_toArray, List.foldl, Go.Rel.reset, Array.getD_eq_getD_getElem?, s113, s114, s115, s116, s117, s118, s119, s120, s121, s122, s123, s124, s125, s126, s127, s128, s129, s130, s131, s132, s133, s134, s135, s136, s137, s138, s139, s140, s141, s142, Option.getD_some] at e
            simp at e
            clear hR' hs' s113 s114 s115 s116 s117 s118 s119 s120 s121 s122 s123 s124 s125 s126 s127 s128 s129 s130 s131 s132 s133 s134 s135 s136 s137 s138 s139 s140 s141 s142
            subst e
            go_wp2
            go_roundw
            case rel => exact ⟨k + 1, _, _, by omega, by omega, by go_num, HI9, HB9⟩
            case measure => simp [intOf]; omega
      · subst hkd
        obtain ⟨t, ht⟩ : ∃ t, g.row.contains nd = t := ⟨_, rfl⟩
        obtain ⟨g2, hg2⟩ : ∃ g2, g.remove nd = g2 := ⟨_, rfl⟩
        obtain ⟨d2, hd2⟩ : ∃ d2, d2 = d := ⟨_, rfl⟩
        have HC1 : Hid (∀ w', PrIs S Bp bd w' g d → Calls Try.prog 13 #[.pointer (some ⟨Bp, 0, none⟩), .int .i64 nd] w' fun e w2 => e = .returned (.bool t) ∧ PrIs S Bp bd w2 g2 d2 ∧ But (Two Bp bd) w' w2) := Lib.hid (fun w' h => by rw [← ht, ← hg2, hd2]; exact h.remove nd)
        have HC2 : Hid (∀ w', DoIs S Bw bw w' g d → Calls Try.prog 14 #[.pointer (some ⟨Bw, 0, none⟩), .int .i64 nd] w' fun e w2 => e = .returned (.bool t) ∧ DoIs S Bw bw w2 g2 d2 ∧ But (Two Bw bw) w' w2) := Lib.hid (fun w' h => by rw [← ht, ← hg2, hd2]; exact h.remove nd)
        clear ht hg2 hd2
        go_wp2_with fail
        rw [HX.out, HV.out]
        go_wp2
        refine Go.Rel.wp_region_states (by kernel_rfl) (by kernel_rfl) (by kernel_rfl) (by kernel_rfl) (fun f w => PrIs S Bp bd w (bif f 3 then g2 else g) (bif f 3 then d2 else d) ∧ DoIs S Bw bw w (bif f 7 then g2 else g) (bif f 7 then d2 else d)) (But S) (fun _ _ _ h k => h.trans k) ((But.refl _ _).drew) (both_drew HVB.out) (plR S Bp bd Bw bw X 1 nd my sA sn sc t) (plR_stable S Bp bd Bw bw X 1 nd my sA sn sc t) ?hs1 ?he1
        case hs1 =>
          refine (.cons ?_ (.cons ?_ (.cons ?_ (.cons ?_ (.cons ?_ (.cons ?_ (.cons ?_ (.cons ?_ (.cons ?_ (.cons ?_ .nil))))))))))
          · intro f a w' hI hf hanc hdesc hle hs' hd K hK
            have f5 : a.tmps[5]? = some (.pointer (some ⟨Bp, 0, none⟩)) := hs'.2.2 5 (by kernel_rfl)
            unfold Go.Rel.stepOf
            go_simp
            exact hK _ _ (But.refl _ _) (hI) rfl
          · intro f a w' hI hf hanc hdesc hle hs' hd K hK
            have f10 : a.tmps[10]? = some (.pointer (some ⟨X, 0, none⟩)) := hs'.2.2 10 (by kernel_rfl)
            unfold Go.Rel.stepOf
            go_simp
            exact hK _ _ (But.refl _ _) (hI) rfl
          · intro f a w' hI hf hanc hdesc hle hs' hd K hK
            obtain ⟨_, t1, rfl⟩ := hd 1 55 (by kernel_rfl)
            obtain ⟨x0, x1, x2, x3⟩ := HXc.out w' hle
            unfold Go.Rel.stepOf
            go_simp
            exact hK _ _ (But.refl _ _) (hI) rfl
          · intro f a w' hI hf hanc hdesc hle hs' hd K hK
            obtain ⟨_, t0, rfl⟩ := hd 0 54 (by kernel_rfl)
            obtain ⟨_, t2, rfl⟩ := hd 2 56 (by kernel_rfl)
            have hst := hI.1
            rw [hf] at hst
            unfold Go.Rel.stepOf
            go_simp
            refine (HC1.out w' hst).mono ?_
            rintro e w2 ⟨rfl, hr5, hb5⟩
            have hbS : But S w' w2 := hb5.mono HT.out.1
            exact hK _ _ hbS ⟨hr5, hI.2.but hb5 HT.out.1 HNe.out.2.1 HNe.out.2.2⟩ rfl
          · intro f a w' hI hf hanc hdesc hle hs' hd K hK
            have f6 : a.tmps[6]? = some (.pointer (some ⟨Bw, 0, none⟩)) := hs'.2.2 6 (by kernel_rfl)
            unfold Go.Rel.stepOf
            go_simp
            exact hK _ _ (But.refl _ _) (hI) rfl
          · intro f a w' hI hf hanc hdesc hle hs' hd K hK
            have f10 : a.tmps[10]? = some (.pointer (some ⟨X, 0, none⟩)) := hs'.2.2 10 (by kernel_rfl)
            unfold Go.Rel.stepOf
            go_simp
            exact hK _ _ (But.refl _ _) (hI) rfl
          · intro f a w' hI hf hanc hdesc hle hs' hd K hK
            obtain ⟨_, t5, rfl⟩ := hd 5 59 (by kernel_rfl)
            obtain ⟨x0, x1, x2, x3⟩ := HXc.out w' hle
            unfold Go.Rel.stepOf
            go_simp
            exact hK _ _ (But.refl _ _) (hI) rfl
          · intro f a w' hI hf hanc hdesc hle hs' hd K hK
            obtain ⟨_, t4, rfl⟩ := hd 4 58 (by kernel_rfl)
            obtain ⟨_, t6, rfl⟩ := hd 6 60 (by kernel_rfl)
            have hst := hI.2
            rw [hf] at hst
            unfold Go.Rel.stepOf
            go_simp
            refine (HC2.out w' hst).mono ?_
            rintro e w2 ⟨rfl, hr5, hb5⟩
            have hbS : But S w' w2 := hb5.mono HT.out.2
            exact hK _ _ hbS ⟨hI.1.but hb5 HT.out.2 HNe.out.1.1 HNe.out.1.2, hr5⟩ rfl
          · intro f a w' hI hf hanc hdesc hle hs' hd K hK
            obtain ⟨_, t3, rfl⟩ := hd 3 57 (by kernel_rfl)
            obtain ⟨_, t7, rfl⟩ := hd 7 61 (by kernel_rfl)
            unfold Go.Rel.stepOf
            go_simp
            exact hK _ _ (But.refl _ _) (hI) rfl
          · intro f a w' hI hf hanc hdesc hle hs' hd K hK
            obtain ⟨_, t8, rfl⟩ := hd 8 62 (by kernel_rfl)
            unfold Go.Rel.stepOf
            go_simp
            exact hK _ _ (But.refl _ _) (hI) rfl
        case he1 =>
          intro f a w5 hall hI hle hs' hR'
          have hf1 := hall 3 (by decide)
          have hf2 := hall 7 (by decide)
          simp only [hf1, hf2, cond_true] at hI
          have HI5 := Lib.hid hI
          have HB5 : Hid (But S W4 w5) := Lib.hid (HVS.out.trans hle)
          clear hI hall hf1 hf2 hle
          obtain ⟨v54, s54, _⟩ := hR' 0 54 (by kernel_rfl)
          obtain ⟨v55, s55, _⟩ := hR' 1 55 (by kernel_rfl)
          obtain ⟨v56, s56, _⟩ := hR' 2 56 (by kernel_rfl)
          obtain ⟨v57, s57, _⟩ := hR' 3 57 (by kernel_rfl)
          obtain ⟨v58, s58, _⟩ := hR' 4 58 (by kernel_rfl)
          obtain ⟨v59, s59, _⟩ := hR' 5 59 (by kernel_rfl)
          obtain ⟨v60, s60, _⟩ := hR' 6 60 (by kernel_rfl)
          obtain ⟨v61, s61, _⟩ := hR' 7 61 (by kernel_rfl)
          obtain ⟨v62, s62, _⟩ := hR' 8 62 (by kernel_rfl)
          obtain ⟨_, s11, rfl⟩ := hR' 9 11 (by kernel_rfl)
          have e := hs'.shape
          simp only [List.toList_toArray, List.foldl, Go.Rel.reset, Array.getD_eq_getD_getElem?, s54, s55, s56, s57, s58, s59, s60, s61, s62, s11, Option.getD_some] at e
          simp at e
          clear hR' hs' s54 s55 s56 s57 s58 s59 s60 s61 s62 s11
          subst e
          obtain ⟨row, hrow⟩ : ∃ row, g2.row = row := ⟨_, rfl⟩
          obtain ⟨T2, hT2⟩ : ∃ T2, g2.at_ = T2 := ⟨_, rfl⟩
          obtain ⟨T, hT⟩ : ∃ T, d2.at_ = T := ⟨_, rfl⟩
          have HLi : Hid (∀ w', PrIs S Bp bd w' (g2) (d2) → Calls Try.prog 20 #[.pointer (some ⟨Bp, 0, none⟩)] w' (IRow w' row)) := Lib.hid (fun w' h => by rw [← hrow]; exact h.list)
          have HAt : Hid (∀ w', PrIs S Bp bd w' (g2) (d2) → Calls Try.prog 21 #[.pointer (some ⟨Bp, 0, none⟩)] w' fun e w2 => e = .returned (.int .i64 (T2 : Int)) ∧ w' = w2) := Lib.hid (fun w' h => by rw [← hT2]; exact h.at_)
          have HTk : Hid (∀ w', PrIs S Bp bd w' (g2) (d2) → Calls Try.prog 22 #[.pointer (some ⟨bd, 0, none⟩)] w' fun e w2 => e = .returned (.int .i64 (T : Int)) ∧ w' = w2) := Lib.hid (fun w' h => by rw [← hT]; exact h.taken)
          have HRw : Hid (∀ w', DoIs S Bw bw w' (g2) (d2) → ∃ A c, w'.cell? ⟨Bw, 0, none⟩ = some (.slice A row.length c) ∧ RVn S w' A row.length (row.map nV)) := Lib.hid (fun w' h => by rw [← hrow]; obtain ⟨_, A, c, hr⟩ := h.ring; exact ⟨A, c, hr.cl, hr.row⟩)
          have HRa : Hid (∀ w', DoIs S Bw bw w' (g2) (d2) → w'.cell? ⟨Bw, 1, none⟩ = some (.int .i64 (T2 : Int))) := Lib.hid (fun w' h => by rw [← hT2]; obtain ⟨_, A, c, hr⟩ := h.ring; exact hr.co)
          have HRd : Hid (∀ w', DoIs S Bw bw w' (g2) (d2) → w'.cell? ⟨bw, 1, none⟩ = some (.int .i64 (T : Int))) := Lib.hid (fun w' h => by rw [← hT]; obtain ⟨_, _, A, n, c, hh, _⟩ := h.dw; rw [cell_of_row _ _ _ _ _ _ hh]; rfl)
          have HSame : Hid (∀ A A2 c c2 w', RV w' A row.length (row.map nV) → RV w' A2 row.length (row.map nV) → Calls Try.prog 17 #[.slice A row.length c, .slice A2 row.length c2] w' fun e w2 => e = .returned (.bool true) ∧ Below w'.heap.size w' w2) := Lib.hid (fun A A2 c c2 w' h h' => same_any A A2 _ c c2 row w' h h' (by rw [← hrow]; have := Rg.few HI5.out.1.ok; omega))
          have HSlt : Hid (∀ k, S k → k < w5.heap.size) := Lib.hid (fun k hk => HI5.out.1.lt k hk)
          clear hrow hT2 hT
          go_wp2
          refine Go.Rel.wp_region_states (by kernel_rfl) (by kernel_rfl) (by kernel_rfl) (by kernel_rfl) (fun _ w => PrIs S Bp bd w (g2) (d2) ∧ DoIs S Bw bw w (g2) (d2)) (But S) (fun _ _ _ h k => h.trans k) ((But.refl _ _).drew) (both_drew HI5.out) (plL S Bp bd Bw bw row T2 T) (plL_stable S Bp bd Bw bw row T2 T) ?hsL1 ?heL1
          case hsL1 =>
            refine (.cons ?_ (.cons ?_ (.cons ?_ (.cons ?_ (.cons ?_ (.cons ?_ (.cons ?_ (.cons ?_ (.cons ?_ (.cons ?_ (.cons ?_ (.cons ?_ (.cons ?_ (.cons ?_ (.cons ?_ (.cons ?_ (.cons ?_ (.cons ?_ (.cons ?_ (.cons ?_ (.cons ?_ (.cons ?_ (.cons ?_ (.cons ?_ (.cons ?_ (.cons ?_ (.cons ?_ (.cons ?_ (.cons ?_ (.cons ?_ .nil))))))))))))))))))))))))))))))
            · intro f a w' hI hf hanc hdesc hle hs' hd K hK
              have f11 : a.tmps[11]? = some (.bool true) := hs'.2.2 11 (by kernel_rfl)
              unfold Go.Rel.stepOf
              go_simp
              exact hK _ _ (But.refl _ _) (hI) rfl
            · intro f a w' hI hf hanc hdesc hle hs' hd K hK
              obtain ⟨_, t0, rfl⟩ := hd 0 113 (by kernel_rfl)
              unfold Go.Rel.stepOf
              go_simp
              exact hK _ _ (But.refl _ _) (hI) rfl
            · intro f a w' hI hf hanc hdesc hle hs' hd K hK
              obtain ⟨_, t1, rfl⟩ := hd 1 114 (by kernel_rfl)
              unfold Go.Rel.stepOf
              go_simp
              exact hK _ _ (But.refl _ _) (hI) rfl
            · intro f a w' hI hf hanc hdesc hle hs' hd K hK
              obtain ⟨_, tg, rfl⟩ := hd 2 115 (by kernel_rfl)
              have f5 : a.tmps[5]? = some (.pointer (some ⟨Bp, 0, none⟩)) := hs'.2.2 5 (by kernel_rfl)
              unfold Go.Rel.stepOf
              go_simp
              exact hK _ _ (But.refl _ _) (hI) rfl
            · intro f a w' hI hf hanc hdesc hle hs' hd K hK
              obtain ⟨_, tg, rfl⟩ := hd 2 115 (by kernel_rfl)
              obtain ⟨_, t3, rfl⟩ := hd 3 116 (by kernel_rfl)
              unfold Go.Rel.stepOf
              go_simp
              refine (HLi.out w' hI.1).mono ?_
              rintro e w2 ⟨A5, c5, rfl, hv5, _, _, _, hblk5, hb5⟩
              exact hK _ _ (But.of_below hb5) ⟨hI.1.below hb5, hI.2.below hb5⟩ ⟨_, _, rfl, hv5, fun b off e _ hs => by have := hblk5 b off e; have := HSlt.out b hs; have := hle.size; omega⟩
            · intro f a w' hI hf hanc hdesc hle hs' hd K hK
              obtain ⟨_, tg, rfl⟩ := hd 2 115 (by kernel_rfl)
              have f6 : a.tmps[6]? = some (.pointer (some ⟨Bw, 0, none⟩)) := hs'.2.2 6 (by kernel_rfl)
              unfold Go.Rel.stepOf
              go_simp
              exact hK _ _ (But.refl _ _) (hI) rfl
            · intro f a w' hI hf hanc hdesc hle hs' hd K hK
              obtain ⟨_, tg, rfl⟩ := hd 2 115 (by kernel_rfl)
              obtain ⟨_, t5, rfl⟩ := hd 5 118 (by kernel_rfl)
              unfold Go.Rel.stepOf
              go_simp
              exact hK _ _ (But.refl _ _) (hI) rfl
            · intro f a w' hI hf hanc hdesc hle hs' hd K hK
              obtain ⟨_, tg, rfl⟩ := hd 2 115 (by kernel_rfl)
              obtain ⟨_, t6, rfl⟩ := hd 6 119 (by kernel_rfl)
              unfold Go.Rel.stepOf
              go_simp
              exact hK _ _ (But.refl _ _) (hI) rfl
            · intro f a w' hI hf hanc hdesc hle hs' hd K hK
              obtain ⟨_, tg, rfl⟩ := hd 2 115 (by kernel_rfl)
              obtain ⟨_, t7, rfl⟩ := hd 7 120 (by kernel_rfl)
              obtain ⟨A9, c9, cl, hv9⟩ := HRw.out w' hI.2
              unfold Go.Rel.stepOf
              go_simp
              exact hK _ _ (But.refl _ _) hI ⟨_, _, rfl, hv9⟩
            · intro f a w' hI hf hanc hdesc hle hs' hd K hK
              obtain ⟨_, tg, rfl⟩ := hd 2 115 (by kernel_rfl)
              obtain ⟨_, t4, A4, c4, rfl, h4⟩ := hd 4 117 (by kernel_rfl)
              obtain ⟨_, t8, A8, c8, rfl, h8⟩ := hd 8 121 (by kernel_rfl)
              unfold Go.Rel.stepOf
              go_simp
              refine (HSame.out _ _ _ _ w' h4.1 h8.1).mono ?_
              rintro e w2 ⟨rfl, hb5⟩
              exact hK _ _ (But.of_below hb5) ⟨hI.1.below hb5, hI.2.below hb5⟩ rfl
            · intro f a w' hI hf hanc hdesc hle hs' hd K hK
              obtain ⟨_, tg, rfl⟩ := hd 2 115 (by kernel_rfl)
              obtain ⟨_, t9, rfl⟩ := hd 9 122 (by kernel_rfl)
              unfold Go.Rel.stepOf
              go_simp
              exact hK _ _ (But.refl _ _) (hI) rfl
            · intro f a w' hI hf hanc hdesc hle hs' hd K hK
              obtain ⟨_, t2, rfl⟩ := hd 2 115 (by kernel_rfl)
              obtain ⟨_, t10, rfl⟩ := hd 10 123 (by kernel_rfl)
              unfold Go.Rel.stepOf
              go_simp
              exact hK _ _ (But.refl _ _) (hI) rfl
            · intro f a w' hI hf hanc hdesc hle hs' hd K hK
              obtain ⟨_, t11, rfl⟩ := hd 11 124 (by kernel_rfl)
              unfold Go.Rel.stepOf
              go_simp
              exact hK _ _ (But.refl _ _) (hI) rfl
            · intro f a w' hI hf hanc hdesc hle hs' hd K hK
              obtain ⟨_, tg, rfl⟩ := hd 12 125 (by kernel_rfl)
              have f5 : a.tmps[5]? = some (.pointer (some ⟨Bp, 0, none⟩)) := hs'.2.2 5 (by kernel_rfl)
              unfold Go.Rel.stepOf
              go_simp
              exact hK _ _ (But.refl _ _) (hI) rfl
            · intro f a w' hI hf hanc hdesc hle hs' hd K hK
              obtain ⟨_, tg, rfl⟩ := hd 12 125 (by kernel_rfl)
              obtain ⟨_, t13, rfl⟩ := hd 13 126 (by kernel_rfl)
              unfold Go.Rel.stepOf
              go_simp
              refine (HAt.out w' hI.1).mono ?_
              rintro e w2 ⟨rfl, rfl⟩
              exact hK _ _ (But.refl _ _) hI rfl
            · intro f a w' hI hf hanc hdesc hle hs' hd K hK
              obtain ⟨_, tg, rfl⟩ := hd 12 125 (by kernel_rfl)
              have f6 : a.tmps[6]? = some (.pointer (some ⟨Bw, 0, none⟩)) := hs'.2.2 6 (by kernel_rfl)
              unfold Go.Rel.stepOf
              go_simp
              exact hK _ _ (But.refl _ _) (hI) rfl
            · intro f a w' hI hf hanc hdesc hle hs' hd K hK
              obtain ⟨_, tg, rfl⟩ := hd 12 125 (by kernel_rfl)
              obtain ⟨_, t15, rfl⟩ := hd 15 128 (by kernel_rfl)
              unfold Go.Rel.stepOf
              go_simp
              exact hK _ _ (But.refl _ _) (hI) rfl
            · intro f a w' hI hf hanc hdesc hle hs' hd K hK
              obtain ⟨_, tg, rfl⟩ := hd 12 125 (by kernel_rfl)
              obtain ⟨_, t16, rfl⟩ := hd 16 129 (by kernel_rfl)
              unfold Go.Rel.stepOf
              go_simp
              exact hK _ _ (But.refl _ _) (hI) rfl
            · intro f a w' hI hf hanc hdesc hle hs' hd K hK
              obtain ⟨_, tg, rfl⟩ := hd 12 125 (by kernel_rfl)
              obtain ⟨_, t17, rfl⟩ := hd 17 130 (by kernel_rfl)
              have co := HRa.out w' hI.2
              unfold Go.Rel.stepOf
              go_simp
              exact hK _ _ (But.refl _ _) (hI) rfl
            · intro f a w' hI hf hanc hdesc hle hs' hd K hK
              obtain ⟨_, tg, rfl⟩ := hd 12 125 (by kernel_rfl)
              obtain ⟨_, t14, rfl⟩ := hd 14 127 (by kernel_rfl)
              obtain ⟨_, t18, rfl⟩ := hd 18 131 (by kernel_rfl)
              unfold Go.Rel.stepOf
              go_simp
              exact hK _ _ (But.refl _ _) (hI) rfl
            · intro f a w' hI hf hanc hdesc hle hs' hd K hK
              obtain ⟨_, t12, rfl⟩ := hd 12 125 (by kernel_rfl)
              obtain ⟨_, t19, rfl⟩ := hd 19 132 (by kernel_rfl)
              unfold Go.Rel.stepOf
              go_simp
              exact hK _ _ (But.refl _ _) (hI) rfl
            · intro f a w' hI hf hanc hdesc hle hs' hd K hK
              obtain ⟨_, t20, rfl⟩ := hd 20 133 (by kernel_rfl)
              unfold Go.Rel.stepOf
              go_simp
              exact hK _ _ (But.refl _ _) (hI) rfl
            · intro f a w' hI hf hanc hdesc hle hs' hd K hK
              obtain ⟨_, tg, rfl⟩ := hd 21 134 (by kernel_rfl)
              have f7 : a.tmps[7]? = some (.pointer (some ⟨bd, 0, none⟩)) := hs'.2.2 7 (by kernel_rfl)
              unfold Go.Rel.stepOf
              go_simp
              exact hK _ _ (But.refl _ _) (hI) rfl
            · intro f a w' hI hf hanc hdesc hle hs' hd K hK
              obtain ⟨_, tg, rfl⟩ := hd 21 134 (by kernel_rfl)
              obtain ⟨_, t22, rfl⟩ := hd 22 135 (by kernel_rfl)
              unfold Go.Rel.stepOf
              go_simp
              refine (HTk.out w' hI.1).mono ?_
              rintro e w2 ⟨rfl, rfl⟩
              exact hK _ _ (But.refl _ _) hI rfl
            · intro f a w' hI hf hanc hdesc hle hs' hd K hK
              obtain ⟨_, tg, rfl⟩ := hd 21 134 (by kernel_rfl)
              have f8 : a.tmps[8]? = some (.pointer (some ⟨bw, 0, none⟩)) := hs'.2.2 8 (by kernel_rfl)
              unfold Go.Rel.stepOf
              go_simp
              exact hK _ _ (But.refl _ _) (hI) rfl
            · intro f a w' hI hf hanc hdesc hle hs' hd K hK
              obtain ⟨_, tg, rfl⟩ := hd 21 134 (by kernel_rfl)
              obtain ⟨_, t24, rfl⟩ := hd 24 137 (by kernel_rfl)
              unfold Go.Rel.stepOf
              go_simp
              exact hK _ _ (But.refl _ _) (hI) rfl
            · intro f a w' hI hf hanc hdesc hle hs' hd K hK
              obtain ⟨_, tg, rfl⟩ := hd 21 134 (by kernel_rfl)
              obtain ⟨_, t25, rfl⟩ := hd 25 138 (by kernel_rfl)
              unfold Go.Rel.stepOf
              go_simp
              exact hK _ _ (But.refl _ _) (hI) rfl
            · intro f a w' hI hf hanc hdesc hle hs' hd K hK
              obtain ⟨_, tg, rfl⟩ := hd 21 134 (by kernel_rfl)
              obtain ⟨_, t26, rfl⟩ := hd 26 139 (by kernel_rfl)
              have cd := HRd.out w' hI.2
              unfold Go.Rel.stepOf
              go_simp
              exact hK _ _ (But.refl _ _) (hI) rfl
            · intro f a w' hI hf hanc hdesc hle hs' hd K hK
              obtain ⟨_, tg, rfl⟩ := hd 21 134 (by kernel_rfl)
              obtain ⟨_, t23, rfl⟩ := hd 23 136 (by kernel_rfl)
              obtain ⟨_, t27, rfl⟩ := hd 27 140 (by kernel_rfl)
              unfold Go.Rel.stepOf
              go_simp
              exact hK _ _ (But.refl _ _) (hI) rfl
            · intro f a w' hI hf hanc hdesc hle hs' hd K hK
              obtain ⟨_, t21, rfl⟩ := hd 21 134 (by kernel_rfl)
              obtain ⟨_, t28, rfl⟩ := hd 28 141 (by kernel_rfl)
              unfold Go.Rel.stepOf
              go_simp
              exact hK _ _ (But.refl _ _) (hI) rfl
          case heL1 =>
            intro f a w9 hall hI hle hs' hR'
            have HI9 := Lib.hid hI
            have HB9 : Hid (But S W4 w9) := Lib.hid (HB5.out.trans hle)
            clear hI hall hle
            obtain ⟨v113, s113, _⟩ := hR' 0 113 (by kernel_rfl)
            obtain ⟨v114, s114, _⟩ := hR' 1 114 (by kernel_rfl)
            obtain ⟨v115, s115, _⟩ := hR' 2 115 (by kernel_rfl)
            obtain ⟨v116, s116, _⟩ := hR' 3 116 (by kernel_rfl)
            obtain ⟨v117, s117, _⟩ := hR' 4 117 (by kernel_rfl)
            obtain ⟨v118, s118, _⟩ := hR' 5 118 (by kernel_rfl)
            obtain ⟨v119, s119, _⟩ := hR' 6 119 (by kernel_rfl)
            obtain ⟨v120, s120, _⟩ := hR' 7 120 (by kernel_rfl)
            obtain ⟨v121, s121, _⟩ := hR' 8 121 (by kernel_rfl)
            obtain ⟨v122, s122, _⟩ := hR' 9 122 (by kernel_rfl)
            obtain ⟨v123, s123, _⟩ := hR' 10 123 (by kernel_rfl)
            obtain ⟨v124, s124, _⟩ := hR' 11 124 (by kernel_rfl)
            obtain ⟨v125, s125, _⟩ := hR' 12 125 (by kernel_rfl)
            obtain ⟨v126, s126, _⟩ := hR' 13 126 (by kernel_rfl)
            obtain ⟨v127, s127, _⟩ := hR' 14 127 (by kernel_rfl)
            obtain ⟨v128, s128, _⟩ := hR' 15 128 (by kernel_rfl)
            obtain ⟨v129, s129, _⟩ := hR' 16 129 (by kernel_rfl)
            obtain ⟨v130, s130, _⟩ := hR' 17 130 (by kernel_rfl)
            obtain ⟨v131, s131, _⟩ := hR' 18 131 (by kernel_rfl)
            obtain ⟨v132, s132, _⟩ := hR' 19 132 (by kernel_rfl)
            obtain ⟨v133, s133, _⟩ := hR' 20 133 (by kernel_rfl)
            obtain ⟨v134, s134, _⟩ := hR' 21 134 (by kernel_rfl)
            obtain ⟨v135, s135, _⟩ := hR' 22 135 (by kernel_rfl)
            obtain ⟨v136, s136, _⟩ := hR' 23 136 (by kernel_rfl)
            obtain ⟨v137, s137, _⟩ := hR' 24 137 (by kernel_rfl)
            obtain ⟨v138, s138, _⟩ := hR' 25 138 (by kernel_rfl)
            obtain ⟨v139, s139, _⟩ := hR' 26 139 (by kernel_rfl)
            obtain ⟨v140, s140, _⟩ := hR' 27 140 (by kernel_rfl)
            obtain ⟨v141, s141, _⟩ := hR' 28 141 (by kernel_rfl)
            obtain ⟨_, s142, rfl⟩ := hR' 29 142 (by kernel_rfl)
            have e := hs'.shape
            simp only [List.toList_toArray, List.foldl, Go.Rel.reset, Array.getD_eq_getD_getElem?, s113, s114, s115, s116, s117, s118, s119, s120, s121, s122, s123, s124, s125, s126, s127, s128, s129, s130, s131, s132, s133, s134, s135, s136, s137, s138, s139, s140, s141, s142, Option.getD_some] at e
            simp at e
            clear hR' hs' s113 s114 s115 s116 s117 s118 s119 s120 s121 s122 s123 s124 s125 s126 s127 s128 s129 s130 s131 s132 s133 s134 s135 s136 s137 s138 s139 s140 s141 s142
            subst e
            go_wp2
            go_roundw
            case rel => exact ⟨k + 1, _, _, by omega, by omega, by go_num, HI9, HB9⟩
            case measure => simp [intOf]; omega
      · subst hkd
        have hn1p := HVB.out.1.next sA sn sc sl HLV.out
        obtain ⟨a2, ha2⟩ : ∃ a2, g.asked sl d = a2 := ⟨_, rfl⟩
        obtain ⟨d2, hd2⟩ : ∃ d2, d.asked g sl = d2 := ⟨_, rfl⟩
        rw [ha2, hd2] at hn1p
        have HC2 : Hid (∀ w', DoIs S Bw bw w' g d → Lst S w' sA sn sc sl → Calls Try.prog 16 #[.pointer (some ⟨Bw, 0, none⟩), .slice sA sn sc, .pointer (some ⟨bw, 0, none⟩)] w' fun e w2 => e = .returned (.tuple #[.int .i64 a2.1, .bool a2.2.1]) ∧ DoIs S Bw bw w2 a2.2.2 d2 ∧ But (Two Bw bw) w' w2) := Lib.hid (fun w' h hl => by rw [← ha2, ← hd2]; exact h.next sA sn sc sl hl)
        have HC1 := Lib.hid hn1p
        obtain ⟨ax, ab, g2⟩ := a2
        clear ha2 hd2 hn1p
        go_wp2_with fail
        rw [HX.out, HV.out]
        go_wp2_with fail
        refine HC1.out.mono ?_
        rintro e w5 ⟨rfl, hp5, hb5⟩
        have HP5 := Lib.hid hp5
        have hbS5 : But S V w5 := hb5.mono HT.out.1
        have HD5 := Lib.hid (HVB.out.2.but hb5 HT.out.1 HNe.out.2.1 HNe.out.2.2)
        have HL5 := Lib.hid (HLV.out.but hbS5 (fun _ h => h))
        obtain ⟨u0, u1, u2, u3⟩ := HXc.out w5 hbS5
        have HB5 : Hid (But S W4 w5) := Lib.hid (HVS.out.trans hbS5)
        clear hp5 hb5 hbS5 v0 v1 v2 v3
        go_wp2_with fail
        refine (HC2.out w5 HD5.out HL5.out).mono ?_
        rintro e w6 ⟨rfl, hd6, hb6⟩
        have HI6 : Hid (PrIs S Bp bd w6 g2 d2 ∧ DoIs S Bw bw w6 g2 d2) := Lib.hid ⟨HP5.out.but hb6 HT.out.2 HNe.out.1.1 HNe.out.1.2, hd6⟩
        have HB6 : Hid (But S W4 w6) := Lib.hid (HB5.out.trans (hb6.mono HT.out.2))
        clear hd6 hb6 u0 u1 u2 u3
        obtain ⟨row, hrow⟩ : ∃ row, g2.row = row := ⟨_, rfl⟩
        obtain ⟨T2, hT2⟩ : ∃ T2, g2.at_ = T2 := ⟨_, rfl⟩
        obtain ⟨T, hT⟩ : ∃ T, d2.at_ = T := ⟨_, rfl⟩
        have HLi : Hid (∀ w', PrIs S Bp bd w' (g2) (d2) → Calls Try.prog 20 #[.pointer (some ⟨Bp, 0, none⟩)] w' (IRow w' row)) := Lib.hid (fun w' h => by rw [← hrow]; exact h.list)
        have HAt : Hid (∀ w', PrIs S Bp bd w' (g2) (d2) → Calls Try.prog 21 #[.pointer (some ⟨Bp, 0, none⟩)] w' fun e w2 => e = .returned (.int .i64 (T2 : Int)) ∧ w' = w2) := Lib.hid (fun w' h => by rw [← hT2]; exact h.at_)
        have HTk : Hid (∀ w', PrIs S Bp bd w' (g2) (d2) → Calls Try.prog 22 #[.pointer (some ⟨bd, 0, none⟩)] w' fun e w2 => e = .returned (.int .i64 (T : Int)) ∧ w' = w2) := Lib.hid (fun w' h => by rw [← hT]; exact h.taken)
        have HRw : Hid (∀ w', DoIs S Bw bw w' (g2) (d2) → ∃ A c, w'.cell? ⟨Bw, 0, none⟩ = some (.slice A row.length c) ∧ RVn S w' A row.length (row.map nV)) := Lib.hid (fun w' h => by rw [← hrow]; obtain ⟨_, A, c, hr⟩ := h.ring; exact ⟨A, c, hr.cl, hr.row⟩)
        have HRa : Hid (∀ w', DoIs S Bw bw w' (g2) (d2) → w'.cell? ⟨Bw, 1, none⟩ = some (.int .i64 (T2 : Int))) := Lib.hid (fun w' h => by rw [← hT2]; obtain ⟨_, A, c, hr⟩ := h.ring; exact hr.co)
        have HRd : Hid (∀ w', DoIs S Bw bw w' (g2) (d2) → w'.cell? ⟨bw, 1, none⟩ = some (.int .i64 (T : Int))) := Lib.hid (fun w' h => by rw [← hT]; obtain ⟨_, _, A, n, c, hh, _⟩ := h.dw; rw [cell_of_row _ _ _ _ _ _ hh]; rfl)
        have HSame : Hid (∀ A A2 c c2 w', RV w' A row.length (row.map nV) → RV w' A2 row.length (row.map nV) → Calls Try.prog 17 #[.slice A row.length c, .slice A2 row.length c2] w' fun e w2 => e = .returned (.bool true) ∧ Below w'.heap.size w' w2) := Lib.hid (fun A A2 c c2 w' h h' => same_any A A2 _ c c2 row w' h h' (by rw [← hrow]; have := Rg.few HI6.out.1.ok; omega))
        have HSlt : Hid (∀ k, S k → k < w6.heap.size) := Lib.hid (fun k hk => HI6.out.1.lt k hk)
        clear hrow hT2 hT
        go_wp2
        refine Go.Rel.wp_region_states (by kernel_rfl) (by kernel_rfl) (by kernel_rfl) (by kernel_rfl) (fun _ w => PrIs S Bp bd w (g2) (d2) ∧ DoIs S Bw bw w (g2) (d2)) (But S) (fun _ _ _ h k => h.trans k) ((But.refl _ _).drew) (both_drew HI6.out) (plL S Bp bd Bw bw row T2 T) (plL_stable S Bp bd Bw bw row T2 T) ?hsL2 ?heL2
        case hsL2 =>
          refine (.cons ?_ (.cons ?_ (.cons ?_ (.cons ?_ (.cons ?_ (.cons ?_ (.cons ?_ (.cons ?_ (.cons ?_ (.cons ?_ (.cons ?_ (.cons ?_ (.cons ?_ (.cons ?_ (.cons ?_ (.cons ?_ (.cons ?_ (.cons ?_ (.cons ?_ (.cons ?_ (.cons ?_ (.cons ?_ (.cons ?_ (.cons ?_ (.cons ?_ (.cons ?_ (.cons ?_ (.cons ?_ (.cons ?_ (.cons ?_ .nil))))))))))))))))))))))))))))))
          · intro f a w' hI hf hanc hdesc hle hs' hd K hK
            have f11 : a.tmps[11]? = some (.bool true) := hs'.2.2 11 (by kernel_rfl)
            unfold Go.Rel.stepOf
            go_simp
            exact hK _ _ (But.refl _ _) (hI) rfl
          · intro f a w' hI hf hanc hdesc hle hs' hd K hK
            obtain ⟨_, t0, rfl⟩ := hd 0 113 (by kernel_rfl)
            unfold Go.Rel.stepOf
            go_simp
            exact hK _ _ (But.refl _ _) (hI) rfl
          · intro f a w' hI hf hanc hdesc hle hs' hd K hK
            obtain ⟨_, t1, rfl⟩ := hd 1 114 (by kernel_rfl)
            unfold Go.Rel.stepOf
            go_simp
            exact hK _ _ (But.refl _ _) (hI) rfl
          · intro f a w' hI hf hanc hdesc hle hs' hd K hK
            obtain ⟨_, tg, rfl⟩ := hd 2 115 (by kernel_rfl)
            have f5 : a.tmps[5]? = some (.pointer (some ⟨Bp, 0, none⟩)) := hs'.2.2 5 (by kernel_rfl)
            unfold Go.Rel.stepOf
            go_simp
            exact hK _ _ (But.refl _ _) (hI) rfl
          · intro f a w' hI hf hanc hdesc hle hs' hd K hK
            obtain ⟨_, tg, rfl⟩ := hd 2 115 (by kernel_rfl)
            obtain ⟨_, t3, rfl⟩ := hd 3 116 (by kernel_rfl)
            unfold Go.Rel.stepOf
            go_simp
            refine (HLi.out w' hI.1).mono ?_
            rintro e w2 ⟨A5, c5, rfl, hv5, _, _, _, hblk5, hb5⟩
            exact hK _ _ (But.of_below hb5) ⟨hI.1.below hb5, hI.2.below hb5⟩ ⟨_, _, rfl, hv5, fun b off e _ hs => by have := hblk5 b off e; have := HSlt.out b hs; have := hle.size; omega⟩
          · intro f a w' hI hf hanc hdesc hle hs' hd K hK
            obtain ⟨_, tg, rfl⟩ := hd 2 115 (by kernel_rfl)
            have f6 : a.tmps[6]? = some (.pointer (some ⟨Bw, 0, none⟩)) := hs'.2.2 6 (by kernel_rfl)
            unfold Go.Rel.stepOf
            go_simp
            exact hK _ _ (But.refl _ _) (hI) rfl
          · intro f a w' hI hf hanc hdesc hle hs' hd K hK
            obtain ⟨_, tg, rfl⟩ := hd 2 115 (by kernel_rfl)
            obtain ⟨_, t5, rfl⟩ := hd 5 118 (by kernel_rfl)
            unfold Go.Rel.stepOf
            go_simp
            exact hK _ _ (But.refl _ _) (hI) rfl
          · intro f a w' hI hf hanc hdesc hle hs' hd K hK
            obtain ⟨_, tg, rfl⟩ := hd 2 115 (by kernel_rfl)
            obtain ⟨_, t6, rfl⟩ := hd 6 119 (by kernel_rfl)
            unfold Go.Rel.stepOf
            go_simp
            exact hK _ _ (But.refl _ _) (hI) rfl
          · intro f a w' hI hf hanc hdesc hle hs' hd K hK
            obtain ⟨_, tg, rfl⟩ := hd 2 115 (by kernel_rfl)
            obtain ⟨_, t7, rfl⟩ := hd 7 120 (by kernel_rfl)
            obtain ⟨A9, c9, cl, hv9⟩ := HRw.out w' hI.2
            unfold Go.Rel.stepOf
            go_simp
            exact hK _ _ (But.refl _ _) hI ⟨_, _, rfl, hv9⟩
          · intro f a w' hI hf hanc hdesc hle hs' hd K hK
            obtain ⟨_, tg, rfl⟩ := hd 2 115 (by kernel_rfl)
            obtain ⟨_, t4, A4, c4, rfl, h4⟩ := hd 4 117 (by kernel_rfl)
            obtain ⟨_, t8, A8, c8, rfl, h8⟩ := hd 8 121 (by kernel_rfl)
            unfold Go.Rel.stepOf
            go_simp
            refine (HSame.out _ _ _ _ w' h4.1 h8.1).mono ?_
            rintro e w2 ⟨rfl, hb5⟩
            exact hK _ _ (But.of_below hb5) ⟨hI.1.below hb5, hI.2.below hb5⟩ rfl
          · intro f a w' hI hf hanc hdesc hle hs' hd K hK
            obtain ⟨_, tg, rfl⟩ := hd 2 115 (by kernel_rfl)
            obtain ⟨_, t9, rfl⟩ := hd 9 122 (by kernel_rfl)
            unfold Go.Rel.stepOf
            go_simp
            exact hK _ _ (But.refl _ _) (hI) rfl
          · intro f a w' hI hf hanc hdesc hle hs' hd K hK
            obtain ⟨_, t2, rfl⟩ := hd 2 115 (by kernel_rfl)
            obtain ⟨_, t10, rfl⟩ := hd 10 123 (by kernel_rfl)
            unfold Go.Rel.stepOf
            go_simp
            exact hK _ _ (But.refl _ _) (hI) rfl
          · intro f a w' hI hf hanc hdesc hle hs' hd K hK
            obtain ⟨_, t11, rfl⟩ := hd 11 124 (by kernel_rfl)
            unfold Go.Rel.stepOf
            go_simp
            exact hK _ _ (But.refl _ _) (hI) rfl
          · intro f a w' hI hf hanc hdesc hle hs' hd K hK
            obtain ⟨_, tg, rfl⟩ := hd 12 125 (by kernel_rfl)
            have f5 : a.tmps[5]? = some (.pointer (some ⟨Bp, 0, none⟩)) := hs'.2.2 5 (by kernel_rfl)
            unfold Go.Rel.stepOf
            go_simp
            exact hK _ _ (But.refl _ _) (hI) rfl
          · intro f a w' hI hf hanc hdesc hle hs' hd K hK
            obtain ⟨_, tg, rfl⟩ := hd 12 125 (by kernel_rfl)
            obtain ⟨_, t13, rfl⟩ := hd 13 126 (by kernel_rfl)
            unfold Go.Rel.stepOf
            go_simp
            refine (HAt.out w' hI.1).mono ?_
            rintro e w2 ⟨rfl, rfl⟩
            exact hK _ _ (But.refl _ _) hI rfl
          · intro f a w' hI hf hanc hdesc hle hs' hd K hK
            obtain ⟨_, tg, rfl⟩ := hd 12 125 (by kernel_rfl)
            have f6 : a.tmps[6]? = some (.pointer (some ⟨Bw, 0, none⟩)) := hs'.2.2 6 (by kernel_rfl)
            unfold Go.Rel.stepOf
            go_simp
            exact hK _ _ (But.refl _ _) (hI) rfl
          · intro f a w' hI hf hanc hdesc hle hs' hd K hK
            obtain ⟨_, tg, rfl⟩ := hd 12 125 (by kernel_rfl)
            obtain ⟨_, t15, rfl⟩ := hd 15 128 (by kernel_rfl)
            unfold Go.Rel.stepOf
            go_simp
            exact hK _ _ (But.refl _ _) (hI) rfl
          · intro f a w' hI hf hanc hdesc hle hs' hd K hK
            obtain ⟨_, tg, rfl⟩ := hd 12 125 (by kernel_rfl)
            obtain ⟨_, t16, rfl⟩ := hd 16 129 (by kernel_rfl)
            unfold Go.Rel.stepOf
            go_simp
            exact hK _ _ (But.refl _ _) (hI) rfl
          · intro f a w' hI hf hanc hdesc hle hs' hd K hK
            obtain ⟨_, tg, rfl⟩ := hd 12 125 (by kernel_rfl)
            obtain ⟨_, t17, rfl⟩ := hd 17 130 (by kernel_rfl)
            have co := HRa.out w' hI.2
            unfold Go.Rel.stepOf
            go_simp
            exact hK _ _ (But.refl _ _) (hI) rfl
          · intro f a w' hI hf hanc hdesc hle hs' hd K hK
            obtain ⟨_, tg, rfl⟩ := hd 12 125 (by kernel_rfl)
            obtain ⟨_, t14, rfl⟩ := hd 14 127 (by kernel_rfl)
            obtain ⟨_, t18, rfl⟩ := hd 18 131 (by kernel_rfl)
            unfold Go.Rel.stepOf
            go_simp
            exact hK _ _ (But.refl _ _) (hI) rfl
          · intro f a w' hI hf hanc hdesc hle hs' hd K hK
            obtain ⟨_, t12, rfl⟩ := hd 12 125 (by kernel_rfl)
            obtain ⟨_, t19, rfl⟩ := hd 19 132 (by kernel_rfl)
            unfold Go.Rel.stepOf
            go_simp
            exact hK _ _ (But.refl _ _) (hI) rfl
          · intro f a w' hI hf hanc hdesc hle hs' hd K hK
            obtain ⟨_, t20, rfl⟩ := hd 20 133 (by kernel_rfl)
            unfold Go.Rel.stepOf
            go_simp
            exact hK _ _ (But.refl _ _) (hI) rfl
          · intro f a w' hI hf hanc hdesc hle hs' hd K hK
            obtain ⟨_, tg, rfl⟩ := hd 21 134 (by kernel_rfl)
            have f7 : a.tmps[7]? = some (.pointer (some ⟨bd, 0, none⟩)) := hs'.2.2 7 (by kernel_rfl)
            unfold Go.Rel.stepOf
            go_simp
            exact hK _ _ (But.refl _ _) (hI) rfl
          · intro f a w' hI hf hanc hdesc hle hs' hd K hK
            obtain ⟨_, tg, rfl⟩ := hd 21 134 (by kernel_rfl)
            obtain ⟨_, t22, rfl⟩ := hd 22 135 (by kernel_rfl)
            unfold Go.Rel.stepOf
            go_simp
            refine (HTk.out w' hI.1).mono ?_
            rintro e w2 ⟨rfl, rfl⟩
            exact hK _ _ (But.refl _ _) hI rfl
          · intro f a w' hI hf hanc hdesc hle hs' hd K hK
            obtain ⟨_, tg, rfl⟩ := hd 21 134 (by kernel_rfl)
            have f8 : a.tmps[8]? = some (.pointer (some ⟨bw, 0, none⟩)) := hs'.2.2 8 (by kernel_rfl)
            unfold Go.Rel.stepOf
            go_simp
            exact hK _ _ (But.refl _ _) (hI) rfl
          · intro f a w' hI hf hanc hdesc hle hs' hd K hK
            obtain ⟨_, tg, rfl⟩ := hd 21 134 (by kernel_rfl)
            obtain ⟨_, t24, rfl⟩ := hd 24 137 (by kernel_rfl)
            unfold Go.Rel.stepOf
            go_simp
            exact hK _ _ (But.refl _ _) (hI) rfl
          · intro f a w' hI hf hanc hdesc hle hs' hd K hK
            obtain ⟨_, tg, rfl⟩ := hd 21 134 (by kernel_rfl)
            obtain ⟨_, t25, rfl⟩ := hd 25 138 (by kernel_rfl)
            unfold Go.Rel.stepOf
            go_simp
            exact hK _ _ (But.refl _ _) (hI) rfl
          · intro f a w' hI hf hanc hdesc hle hs' hd K hK
            obtain ⟨_, tg, rfl⟩ := hd 21 134 (by kernel_rfl)
            obtain ⟨_, t26, rfl⟩ := hd 26 139 (by kernel_rfl)
            have cd := HRd.out w' hI.2
            unfold Go.Rel.stepOf
            go_simp
            exact hK _ _ (But.refl _ _) (hI) rfl
          · intro f a w' hI hf hanc hdesc hle hs' hd K hK
            obtain ⟨_, tg, rfl⟩ := hd 21 134 (by kernel_rfl)
            obtain ⟨_, t23, rfl⟩ := hd 23 136 (by kernel_rfl)
            obtain ⟨_, t27, rfl⟩ := hd 27 140 (by kernel_rfl)
            unfold Go.Rel.stepOf
            go_simp
            exact hK _ _ (But.refl _ _) (hI) rfl
          · intro f a w' hI hf hanc hdesc hle hs' hd K hK
            obtain ⟨_, t21, rfl⟩ := hd 21 134 (by kernel_rfl)
            obtain ⟨_, t28, rfl⟩ := hd 28 141 (by kernel_rfl)
            unfold Go.Rel.stepOf
            go_simp
            exact hK _ _ (But.refl _ _) (hI) rfl
        case heL2 =>
          intro f a w9 hall hI hle hs' hR'
          have HI9 := Lib.hid hI
          have HB9 : Hid (But S W4 w9) := Lib.hid (HB6.out.trans hle)
          clear hI hall hle
          obtain ⟨v113, s113, _⟩ := hR' 0 113 (by kernel_rfl)
          obtain ⟨v114, s114, _⟩ := hR' 1 114 (by kernel_rfl)
          obtain ⟨v115, s115, _⟩ := hR' 2 115 (by kernel_rfl)
          obtain ⟨v116, s116, _⟩ := hR' 3 116 (by kernel_rfl)
          obtain ⟨v117, s117, _⟩ := hR' 4 117 (by kernel_rfl)
          obtain ⟨v118, s118, _⟩ := hR' 5 118 (by kernel_rfl)
          obtain ⟨v119, s119, _⟩ := hR' 6 119 (by kernel_rfl)
          obtain ⟨v120, s120, _⟩ := hR' 7 120 (by kernel_rfl)
          obtain ⟨v121, s121, _⟩ := hR' 8 121 (by kernel_rfl)
          obtain ⟨v122, s122, _⟩ := hR' 9 122 (by kernel_rfl)
          obtain ⟨v123, s123, _⟩ := hR' 10 123 (by kernel_rfl)
          obtain ⟨v124, s124, _⟩ := hR' 11 124 (by kernel_rfl)
          obtain ⟨v125, s125, _⟩ := hR' 12 125 (by kernel_rfl)
          obtain ⟨v126, s126, _⟩ := hR' 13 126 (by kernel_rfl)
          obtain ⟨v127, s127, _⟩ := hR' 14 127 (by kernel_rfl)
          obtain ⟨v128, s128, _⟩ := hR' 15 128 (by kernel_rfl)
          obtain ⟨v129, s129, _⟩ := hR' 16 129 (by kernel_rfl)
          obtain ⟨v130, s130, _⟩ := hR' 17 130 (by kernel_rfl)
          obtain ⟨v131, s131, _⟩ := hR' 18 131 (by kernel_rfl)
          obtain ⟨v132, s132, _⟩ := hR' 19 132 (by kernel_rfl)
          obtain ⟨v133, s133, _⟩ := hR' 20 133 (by kernel_rfl)
          obtain ⟨v134, s134, _⟩ := hR' 21 134 (by kernel_rfl)
          obtain ⟨v135, s135, _⟩ := hR' 22 135 (by kernel_rfl)
          obtain ⟨v136, s136, _⟩ := hR' 23 136 (by kernel_rfl)
          obtain ⟨v137, s137, _⟩ := hR' 24 137 (by kernel_rfl)
          obtain ⟨v138, s138, _⟩ := hR' 25 138 (by kernel_rfl)
          obtain ⟨v139, s139, _⟩ := hR' 26 139 (by kernel_rfl)
          obtain ⟨v140, s140, _⟩ := hR' 27 140 (by kernel_rfl)
          obtain ⟨v141, s141, _⟩ := hR' 28 141 (by kernel_rfl)
          obtain ⟨_, s142, rfl⟩ := hR' 29 142 (by kernel_rfl)
          have e := hs'.shape
          simp only [List.toList_toArray, List.foldl, Go.Rel.reset, Array.getD_eq_getD_getElem?, s113, s114, s115, s116, s117, s118, s119, s120, s121, s122, s123, s124, s125, s126, s127, s128, s129, s130, s131, s132, s133, s134, s135, s136, s137, s138, s139, s140, s141, s142, Option.getD_some] at e
          simp at e
          clear hR' hs' s113 s114 s115 s116 s117 s118 s119 s120 s121 s122 s123 s124 s125 s126 s127 s128 s129 s130 s131 s132 s133 s134 s135 s136 s137 s138 s139 s140 s141 s142
          subst e
          go_wp2
          go_roundw
          case rel => exact ⟨k + 1, _, _, by omega, by omega, by go_num, HI9, HB9⟩
          case measure => simp [intOf]; omega
      · subst hkd
        by_cases h64 : sn ≤ 64
        · have h64z : (sn : Int) ≤ 64 := by omega
          have hol : (othersL sl nd my d).length ≤ 64 := by
            have h1 := others_len sl nd my d (by rw [HLV.out.len]; exact h64)
            have h2 := butL_len sl nd
            have h3 := HLV.out.len
            omega
          obtain ⟨os, hos⟩ : ∃ os, othersL sl nd my d = os := ⟨_, rfl⟩
          obtain ⟨d2, hd2⟩ : ∃ d2, d.afterO (butL sl nd).length = d2 := ⟨_, rfl⟩
          rw [hos] at hol
          have HC1 : Hid (∀ w', PrIs S Bp bd w' g d → But S V w' → Calls Try.prog 18 #[.pointer (some ⟨Bp, 0, none⟩), .slice sA sn sc, .int .i64 nd, .int .i64 my, .pointer (some ⟨bd, 0, none⟩)] w' fun e w2 => IRw w' os e w2 ∧ PrIs S Bp bd w2 g d2 ∧ But (Two Bp bd) w' w2) := Lib.hid (fun w' h hle => by rw [← hos, ← hd2]; exact h.others sA sn sc sl nd my (HLV.out.but hle (fun _ h => h)) h64)
          have HC2 : Hid (∀ w', DoIs S Bw bw w' g d → But S V w' → Calls Try.prog 19 #[.slice sA sn sc, .int .i64 nd, .int .i64 my, .pointer (some ⟨bw, 0, none⟩)] w' fun e w2 => IRw w' os e w2 ∧ DoIs S Bw bw w2 g d2 ∧ But (Two Bw bw) w' w2) := Lib.hid (fun w' h hle => by rw [← hos, ← hd2]; exact h.others sA sn sc sl nd my (HLV.out.but hle (fun _ h => h)) h64)
          have HOl := Lib.hid hol
          have HSame : Hid (∀ A A2 c c2 w', RV w' A os.length (os.map nV) → RV w' A2 os.length (os.map nV) → Calls Try.prog 17 #[.slice A os.length c, .slice A2 os.length c2] w' fun e w2 => e = .returned (.bool true) ∧ Below w'.heap.size w' w2) := Lib.hid (fun A A2 c c2 w' h h' => same_any A A2 _ c c2 os w' h h' (by have := HOl.out; omega))
          clear hos hd2 hol h64
          go_wp2_with fail
          rw [HX.out, HV.out]
          go_wp2
          refine Go.Rel.wp_region_states (by kernel_rfl) (by kernel_rfl) (by kernel_rfl) (by kernel_rfl) (fun f w => PrIs S Bp bd w g (bif f 8 then d2 else d) ∧ DoIs S Bw bw w g (bif f 16 then d2 else d)) (But S) (fun _ _ _ h k => h.trans k) ((But.refl _ _).drew) (both_drew HVB.out) (plO S Bp bd Bw bw X 3 nd my sA sn sc os) (plO_stable S Bp bd Bw bw X 3 nd my sA sn sc os) ?hs3 ?he3
          case hs3 =>
            refine (.cons ?_ (.cons ?_ (.cons ?_ (.cons ?_ (.cons ?_ (.cons ?_ (.cons ?_ (.cons ?_ (.cons ?_ (.cons ?_ (.cons ?_ (.cons ?_ (.cons ?_ (.cons ?_ (.cons ?_ (.cons ?_ (.cons ?_ (.cons ?_ (.cons ?_ .nil)))))))))))))))))))
            · intro f a w' hI hf hanc hdesc hle hs' hd K hK
              have f5 : a.tmps[5]? = some (.pointer (some ⟨Bp, 0, none⟩)) := hs'.2.2 5 (by kernel_rfl)
              unfold Go.Rel.stepOf
              go_simp
              exact hK _ _ (But.refl _ _) (hI) rfl
            · intro f a w' hI hf hanc hdesc hle hs' hd K hK
              have f10 : a.tmps[10]? = some (.pointer (some ⟨X, 0, none⟩)) := hs'.2.2 10 (by kernel_rfl)
              unfold Go.Rel.stepOf
              go_simp
              exact hK _ _ (But.refl _ _) (hI) rfl
            · intro f a w' hI hf hanc hdesc hle hs' hd K hK
              obtain ⟨_, t1, rfl⟩ := hd 1 96 (by kernel_rfl)
              obtain ⟨x0, x1, x2, x3⟩ := HXc.out w' hle
              unfold Go.Rel.stepOf
              go_simp
              exact hK _ _ (But.refl _ _) (hI) rfl
            · intro f a w' hI hf hanc hdesc hle hs' hd K hK
              have f10 : a.tmps[10]? = some (.pointer (some ⟨X, 0, none⟩)) := hs'.2.2 10 (by kernel_rfl)
              unfold Go.Rel.stepOf
              go_simp
              exact hK _ _ (But.refl _ _) (hI) rfl
            · intro f a w' hI hf hanc hdesc hle hs' hd K hK
              obtain ⟨_, t3, rfl⟩ := hd 3 98 (by kernel_rfl)
              obtain ⟨x0, x1, x2, x3⟩ := HXc.out w' hle
              unfold Go.Rel.stepOf
              go_simp
              exact hK _ _ (But.refl _ _) (hI) rfl
            · intro f a w' hI hf hanc hdesc hle hs' hd K hK
              have f10 : a.tmps[10]? = some (.pointer (some ⟨X, 0, none⟩)) := hs'.2.2 10 (by kernel_rfl)
              unfold Go.Rel.stepOf
              go_simp
              exact hK _ _ (But.refl _ _) (hI) rfl
            · intro f a w' hI hf hanc hdesc hle hs' hd K hK
              obtain ⟨_, t5, rfl⟩ := hd 5 100 (by kernel_rfl)
              obtain ⟨x0, x1, x2, x3⟩ := HXc.out w' hle
              unfold Go.Rel.stepOf
              go_simp
              exact hK _ _ (But.refl _ _) (hI) rfl
            · intro f a w' hI hf hanc hdesc hle hs' hd K hK
              have f7 : a.tmps[7]? = some (.pointer (some ⟨bd, 0, none⟩)) := hs'.2.2 7 (by kernel_rfl)
              unfold Go.Rel.stepOf
              go_simp
              exact hK _ _ (But.refl _ _) (hI) rfl
            · intro f a w' hI hf hanc hdesc hle hs' hd K hK
              obtain ⟨_, t0, rfl⟩ := hd 0 95 (by kernel_rfl)
              obtain ⟨_, t2, rfl⟩ := hd 2 97 (by kernel_rfl)
              obtain ⟨_, t4, rfl⟩ := hd 4 99 (by kernel_rfl)
              obtain ⟨_, t6, rfl⟩ := hd 6 101 (by kernel_rfl)
              obtain ⟨_, t7, rfl⟩ := hd 7 102 (by kernel_rfl)
              have hst := hI.1
              rw [hf] at hst
              unfold Go.Rel.stepOf
              go_simp
              refine (HC1.out w' hst hle).mono ?_
              rintro e w2 ⟨⟨A5, c5, rfl, hv5, _, _, _, hblk5⟩, hr5, hb5⟩
              have hbS : But S w' w2 := hb5.mono HT.out.1
              exact hK _ _ hbS ⟨hr5, hI.2.but hb5 HT.out.1 HNe.out.2.1 HNe.out.2.2⟩ ⟨_, _, rfl, hv5, fun b off e _ hs => by have := hblk5 b off e; have := HSlt.out b hs; have := hle.size; omega⟩
            · intro f a w' hI hf hanc hdesc hle hs' hd K hK
              have f10 : a.tmps[10]? = some (.pointer (some ⟨X, 0, none⟩)) := hs'.2.2 10 (by kernel_rfl)
              unfold Go.Rel.stepOf
              go_simp
              exact hK _ _ (But.refl _ _) (hI) rfl
            · intro f a w' hI hf hanc hdesc hle hs' hd K hK
              obtain ⟨_, t9, rfl⟩ := hd 9 104 (by kernel_rfl)
              obtain ⟨x0, x1, x2, x3⟩ := HXc.out w' hle
              unfold Go.Rel.stepOf
              go_simp
              exact hK _ _ (But.refl _ _) (hI) rfl
            · intro f a w' hI hf hanc hdesc hle hs' hd K hK
              have f10 : a.tmps[10]? = some (.pointer (some ⟨X, 0, none⟩)) := hs'.2.2 10 (by kernel_rfl)
              unfold Go.Rel.stepOf
              go_simp
              exact hK _ _ (But.refl _ _) (hI) rfl
            · intro f a w' hI hf hanc hdesc hle hs' hd K hK
              obtain ⟨_, t11, rfl⟩ := hd 11 106 (by kernel_rfl)
              obtain ⟨x0, x1, x2, x3⟩ := HXc.out w' hle
              unfold Go.Rel.stepOf
              go_simp
              exact hK _ _ (But.refl _ _) (hI) rfl
            · intro f a w' hI hf hanc hdesc hle hs' hd K hK
              have f10 : a.tmps[10]? = some (.pointer (some ⟨X, 0, none⟩)) := hs'.2.2 10 (by kernel_rfl)
              unfold Go.Rel.stepOf
              go_simp
              exact hK _ _ (But.refl _ _) (hI) rfl
            · intro f a w' hI hf hanc hdesc hle hs' hd K hK
              obtain ⟨_, t13, rfl⟩ := hd 13 108 (by kernel_rfl)
              obtain ⟨x0, x1, x2, x3⟩ := HXc.out w' hle
              unfold Go.Rel.stepOf
              go_simp
              exact hK _ _ (But.refl _ _) (hI) rfl
            · intro f a w' hI hf hanc hdesc hle hs' hd K hK
              have f8 : a.tmps[8]? = some (.pointer (some ⟨bw, 0, none⟩)) := hs'.2.2 8 (by kernel_rfl)
              unfold Go.Rel.stepOf
              go_simp
              exact hK _ _ (But.refl _ _) (hI) rfl
            · intro f a w' hI hf hanc hdesc hle hs' hd K hK
              obtain ⟨_, t10, rfl⟩ := hd 10 105 (by kernel_rfl)
              obtain ⟨_, t12, rfl⟩ := hd 12 107 (by kernel_rfl)
              obtain ⟨_, t14, rfl⟩ := hd 14 109 (by kernel_rfl)
              obtain ⟨_, t15, rfl⟩ := hd 15 110 (by kernel_rfl)
              have hst := hI.2
              rw [hf] at hst
              unfold Go.Rel.stepOf
              go_simp
              refine (HC2.out w' hst hle).mono ?_
              rintro e w2 ⟨⟨A5, c5, rfl, hv5, _, _, _, hblk5⟩, hr5, hb5⟩
              have hbS : But S w' w2 := hb5.mono HT.out.2
              exact hK _ _ hbS ⟨hI.1.but hb5 HT.out.2 HNe.out.1.1 HNe.out.1.2, hr5⟩ ⟨_, _, rfl, hv5, fun b off e _ hs => by have := hblk5 b off e; have := HSlt.out b hs; have := hle.size; omega⟩
            · intro f a w' hI hf hanc hdesc hle hs' hd K hK
              obtain ⟨_, t8, A8, c8, rfl, h8⟩ := hd 8 103 (by kernel_rfl)
              obtain ⟨_, t16, A16, c16, rfl, h16⟩ := hd 16 111 (by kernel_rfl)
              unfold Go.Rel.stepOf
              go_simp
              refine (HSame.out _ _ _ _ w' h8.1 h16.1).mono ?_
              rintro e w2 ⟨rfl, hb5⟩
              exact hK _ _ (But.of_below hb5) ⟨hI.1.below hb5, hI.2.below hb5⟩ rfl
            · intro f a w' hI hf hanc hdesc hle hs' hd K hK
              obtain ⟨_, t17, rfl⟩ := hd 17 112 (by kernel_rfl)
              unfold Go.Rel.stepOf
              go_simp
              exact hK _ _ (But.refl _ _) (hI) rfl
          case he3 =>
            intro f a w5 hall hI hle hs' hR'
            have hf1 := hall 8 (by decide)
            have hf2 := hall 16 (by decide)
            simp only [hf1, hf2, cond_true] at hI
            have HI5 := Lib.hid hI
            have HB5 : Hid (But S W4 w5) := Lib.hid (HVS.out.trans hle)
            clear hI hall hf1 hf2 hle HSame
            obtain ⟨v95, s95, _⟩ := hR' 0 95 (by kernel_rfl)
            obtain ⟨v96, s96, _⟩ := hR' 1 96 (by kernel_rfl)
            obtain ⟨v97, s97, _⟩ := hR' 2 97 (by kernel_rfl)
            obtain ⟨v98, s98, _⟩ := hR' 3 98 (by kernel_rfl)
            obtain ⟨v99, s99, _⟩ := hR' 4 99 (by kernel_rfl)
            obtain ⟨v100, s100, _⟩ := hR' 5 100 (by kernel_rfl)
            obtain ⟨v101, s101, _⟩ := hR' 6 101 (by kernel_rfl)
            obtain ⟨v102, s102, _⟩ := hR' 7 102 (by kernel_rfl)
            obtain ⟨v103, s103, _⟩ := hR' 8 103 (by kernel_rfl)
            obtain ⟨v104, s104, _⟩ := hR' 9 104 (by kernel_rfl)
            obtain ⟨v105, s105, _⟩ := hR' 10 105 (by kernel_rfl)
            obtain ⟨v106, s106, _⟩ := hR' 11 106 (by kernel_rfl)
            obtain ⟨v107, s107, _⟩ := hR' 12 107 (by kernel_rfl)
            obtain ⟨v108, s108, _⟩ := hR' 13 108 (by kernel_rfl)
            obtain ⟨v109, s109, _⟩ := hR' 14 109 (by kernel_rfl)
            obtain ⟨v110, s110, _⟩ := hR' 15 110 (by kernel_rfl)
            obtain ⟨v111, s111, _⟩ := hR' 16 111 (by kernel_rfl)
            obtain ⟨v112, s112, _⟩ := hR' 17 112 (by kernel_rfl)
            obtain ⟨_, s11, rfl⟩ := hR' 18 11 (by kernel_rfl)
            have e := hs'.shape
            simp only [List.toList_toArray, List.foldl, Go.Rel.reset, Array.getD_eq_getD_getElem?, s95, s96, s97, s98, s99, s100, s101, s102, s103, s104, s105, s106, s107, s108, s109, s110, s111, s112, s11, Option.getD_some] at e
            simp at e
            clear hR' hs' s95 s96 s97 s98 s99 s100 s101 s102 s103 s104 s105 s106 s107 s108 s109 s110 s111 s112 s11
            subst e
            obtain ⟨row, hrow⟩ : ∃ row, g.row = row := ⟨_, rfl⟩
            obtain ⟨T2, hT2⟩ : ∃ T2, g.at_ = T2 := ⟨_, rfl⟩
            obtain ⟨T, hT⟩ : ∃ T, d2.at_ = T := ⟨_, rfl⟩
            have HLi : Hid (∀ w', PrIs S Bp bd w' (g) (d2) → Calls Try.prog 20 #[.pointer (some ⟨Bp, 0, none⟩)] w' (IRow w' row)) := Lib.hid (fun w' h => by rw [← hrow]; exact h.list)
            have HAt : Hid (∀ w', PrIs S Bp bd w' (g) (d2) → Calls Try.prog 21 #[.pointer (some ⟨Bp, 0, none⟩)] w' fun e w2 => e = .returned (.int .i64 (T2 : Int)) ∧ w' = w2) := Lib.hid (fun w' h => by rw [← hT2]; exact h.at_)
            have HTk : Hid (∀ w', PrIs S Bp bd w' (g) (d2) → Calls Try.prog 22 #[.pointer (some ⟨bd, 0, none⟩)] w' fun e w2 => e = .returned (.int .i64 (T : Int)) ∧ w' = w2) := Lib.hid (fun w' h => by rw [← hT]; exact h.taken)
            have HRw : Hid (∀ w', DoIs S Bw bw w' (g) (d2) → ∃ A c, w'.cell? ⟨Bw, 0, none⟩ = some (.slice A row.length c) ∧ RVn S w' A row.length (row.map nV)) := Lib.hid (fun w' h => by rw [← hrow]; obtain ⟨_, A, c, hr⟩ := h.ring; exact ⟨A, c, hr.cl, hr.row⟩)
            have HRa : Hid (∀ w', DoIs S Bw bw w' (g) (d2) → w'.cell? ⟨Bw, 1, none⟩ = some (.int .i64 (T2 : Int))) := Lib.hid (fun w' h => by rw [← hT2]; obtain ⟨_, A, c, hr⟩ := h.ring; exact hr.co)
            have HRd : Hid (∀ w', DoIs S Bw bw w' (g) (d2) → w'.cell? ⟨bw, 1, none⟩ = some (.int .i64 (T : Int))) := Lib.hid (fun w' h => by rw [← hT]; obtain ⟨_, _, A, n, c, hh, _⟩ := h.dw; rw [cell_of_row _ _ _ _ _ _ hh]; rfl)
            have HSame : Hid (∀ A A2 c c2 w', RV w' A row.length (row.map nV) → RV w' A2 row.length (row.map nV) → Calls Try.prog 17 #[.slice A row.length c, .slice A2 row.length c2] w' fun e w2 => e = .returned (.bool true) ∧ Below w'.heap.size w' w2) := Lib.hid (fun A A2 c c2 w' h h' => same_any A A2 _ c c2 row w' h h' (by rw [← hrow]; have := Rg.few HI5.out.1.ok; omega))
            have HSlt : Hid (∀ k, S k → k < w5.heap.size) := Lib.hid (fun k hk => HI5.out.1.lt k hk)
            clear hrow hT2 hT
            go_wp2
            refine Go.Rel.wp_region_states (by kernel_rfl) (by kernel_rfl) (by kernel_rfl) (by kernel_rfl) (fun _ w => PrIs S Bp bd w (g) (d2) ∧ DoIs S Bw bw w (g) (d2)) (But S) (fun _ _ _ h k => h.trans k) ((But.refl _ _).drew) (both_drew HI5.out) (plL S Bp bd Bw bw row T2 T) (plL_stable S Bp bd Bw bw row T2 T) ?hsL3 ?heL3
            case hsL3 =>
              refine (.cons ?_ (.cons ?_ (.cons ?_ (.cons ?_ (.cons ?_ (.cons ?_ (.cons ?_ (.cons ?_ (.cons ?_ (.cons ?_ (.cons ?_ (.cons ?_ (.cons ?_ (.cons ?_ (.cons ?_ (.cons ?_ (.cons ?_ (.cons ?_ (.cons ?_ (.cons ?_ (.cons ?_ (.cons ?_ (.cons ?_ (.cons ?_ (.cons ?_ (.cons ?_ (.cons ?_ (.cons ?_ (.cons ?_ (.cons ?_ .nil))))))))))))))))))))))))))))))
              · intro f a w' hI hf hanc hdesc hle hs' hd K hK
                have f11 : a.tmps[11]? = some (.bool true) := hs'.2.2 11 (by kernel_rfl)
                unfold Go.Rel.stepOf
                go_simp
                exact hK _ _ (But.refl _ _) (hI) rfl
              · intro f a w' hI hf hanc hdesc hle hs' hd K hK
                obtain ⟨_, t0, rfl⟩ := hd 0 113 (by kernel_rfl)
                unfold Go.Rel.stepOf
                go_simp
                exact hK _ _ (But.refl _ _) (hI) rfl
              · intro f a w' hI hf hanc hdesc hle hs' hd K hK
                obtain ⟨_, t1, rfl⟩ := hd 1 114 (by kernel_rfl)
                unfold Go.Rel.stepOf
                go_simp
                exact hK _ _ (But.refl _ _) (hI) rfl
              · intro f a w' hI hf hanc hdesc hle hs' hd K hK
                obtain ⟨_, tg, rfl⟩ := hd 2 115 (by kernel_rfl)
                have f5 : a.tmps[5]? = some (.pointer (some ⟨Bp, 0, none⟩)) := hs'.2.2 5 (by kernel_rfl)
                unfold Go.Rel.stepOf
                go_simp
                exact hK _ _ (But.refl _ _) (hI) rfl
              · intro f a w' hI hf hanc hdesc hle hs' hd K hK
                obtain ⟨_, tg, rfl⟩ := hd 2 115 (by kernel_rfl)
                obtain ⟨_, t3, rfl⟩ := hd 3 116 (by kernel_rfl)
                unfold Go.Rel.stepOf
                go_simp
                refine (HLi.out w' hI.1).mono ?_
                rintro e w2 ⟨A5, c5, rfl, hv5, _, _, _, hblk5, hb5⟩
                exact hK _ _ (But.of_below hb5) ⟨hI.1.below hb5, hI.2.below hb5⟩ ⟨_, _, rfl, hv5, fun b off e _ hs => by have := hblk5 b off e; have := HSlt.out b hs; have := hle.size; omega⟩
              · intro f a w' hI hf hanc hdesc hle hs' hd K hK
                obtain ⟨_, tg, rfl⟩ := hd 2 115 (by kernel_rfl)
                have f6 : a.tmps[6]? = some (.pointer (some ⟨Bw, 0, none⟩)) := hs'.2.2 6 (by kernel_rfl)
                unfold Go.Rel.stepOf
                go_simp
                exact hK _ _ (But.refl _ _) (hI) rfl
              · intro f a w' hI hf hanc hdesc hle hs' hd K hK
                obtain ⟨_, tg, rfl⟩ := hd 2 115 (by kernel_rfl)
                obtain ⟨_, t5, rfl⟩ := hd 5 118 (by kernel_rfl)
                unfold Go.Rel.stepOf
                go_simp
                exact hK _ _ (But.refl _ _) (hI) rfl
              · intro f a w' hI hf hanc hdesc hle hs' hd K hK
                obtain ⟨_, tg, rfl⟩ := hd 2 115 (by kernel_rfl)
                obtain ⟨_, t6, rfl⟩ := hd 6 119 (by kernel_rfl)
                unfold Go.Rel.stepOf
                go_simp
                exact hK _ _ (But.refl _ _) (hI) rfl
              · intro f a w' hI hf hanc hdesc hle hs' hd K hK
                obtain ⟨_, tg, rfl⟩ := hd 2 115 (by kernel_rfl)
                obtain ⟨_, t7, rfl⟩ := hd 7 120 (by kernel_rfl)
                obtain ⟨A9, c9, cl, hv9⟩ := HRw.out w' hI.2
                unfold Go.Rel.stepOf
                go_simp
                exact hK _ _ (But.refl _ _) hI ⟨_, _, rfl, hv9⟩
              · intro f a w' hI hf hanc hdesc hle hs' hd K hK
                obtain ⟨_, tg, rfl⟩ := hd 2 115 (by kernel_rfl)
                obtain ⟨_, t4, A4, c4, rfl, h4⟩ := hd 4 117 (by kernel_rfl)
                obtain ⟨_, t8, A8, c8, rfl, h8⟩ := hd 8 121 (by kernel_rfl)
                unfold Go.Rel.stepOf
                go_simp
                refine (HSame.out _ _ _ _ w' h4.1 h8.1).mono ?_
                rintro e w2 ⟨rfl, hb5⟩
                exact hK _ _ (But.of_below hb5) ⟨hI.1.below hb5, hI.2.below hb5⟩ rfl
              · intro f a w' hI hf hanc hdesc hle hs' hd K hK
                obtain ⟨_, tg, rfl⟩ := hd 2 115 (by kernel_rfl)
                obtain ⟨_, t9, rfl⟩ := hd 9 122 (by kernel_rfl)
                unfold Go.Rel.stepOf
                go_simp
                exact hK _ _ (But.refl _ _) (hI) rfl
              · intro f a w' hI hf hanc hdesc hle hs' hd K hK
                obtain ⟨_, t2, rfl⟩ := hd 2 115 (by kernel_rfl)
                obtain ⟨_, t10, rfl⟩ := hd 10 123 (by kernel_rfl)
                unfold Go.Rel.stepOf
                go_simp
                exact hK _ _ (But.refl _ _) (hI) rfl
              · intro f a w' hI hf hanc hdesc hle hs' hd K hK
                obtain ⟨_, t11, rfl⟩ := hd 11 124 (by kernel_rfl)
                unfold Go.Rel.stepOf
                go_simp
                exact hK _ _ (But.refl _ _) (hI) rfl
              · intro f a w' hI hf hanc hdesc hle hs' hd K hK
                obtain ⟨_, tg, rfl⟩ := hd 12 125 (by kernel_rfl)
                have f5 : a.tmps[5]? = some (.pointer (some ⟨Bp, 0, none⟩)) := hs'.2.2 5 (by kernel_rfl)
                unfold Go.Rel.stepOf
                go_simp
                exact hK _ _ (But.refl _ _) (hI) rfl
              · intro f a w' hI hf hanc hdesc hle hs' hd K hK
                obtain ⟨_, tg, rfl⟩ := hd 12 125 (by kernel_rfl)
                obtain ⟨_, t13, rfl⟩ := hd 13 126 (by kernel_rfl)
                unfold Go.Rel.stepOf
                go_simp
                refine (HAt.out w' hI.1).mono ?_
                rintro e w2 ⟨rfl, rfl⟩
                exact hK _ _ (But.refl _ _) hI rfl
              · intro f a w' hI hf hanc hdesc hle hs' hd K hK
                obtain ⟨_, tg, rfl⟩ := hd 12 125 (by kernel_rfl)
                have f6 : a.tmps[6]? = some (.pointer (some ⟨Bw, 0, none⟩)) := hs'.2.2 6 (by kernel_rfl)
                unfold Go.Rel.stepOf
                go_simp
                exact hK _ _ (But.refl _ _) (hI) rfl
              · intro f a w' hI hf hanc hdesc hle hs' hd K hK
                obtain ⟨_, tg, rfl⟩ := hd 12 125 (by kernel_rfl)
                obtain ⟨_, t15, rfl⟩ := hd 15 128 (by kernel_rfl)
                unfold Go.Rel.stepOf
                go_simp
                exact hK _ _ (But.refl _ _) (hI) rfl
              · intro f a w' hI hf hanc hdesc hle hs' hd K hK
                obtain ⟨_, tg, rfl⟩ := hd 12 125 (by kernel_rfl)
                obtain ⟨_, t16, rfl⟩ := hd 16 129 (by kernel_rfl)
                unfold Go.Rel.stepOf
                go_simp
                exact hK _ _ (But.refl _ _) (hI) rfl
              · intro f a w' hI hf hanc hdesc hle hs' hd K hK
                obtain ⟨_, tg, rfl⟩ := hd 12 125 (by kernel_rfl)
                obtain ⟨_, t17, rfl⟩ := hd 17 130 (by kernel_rfl)
                have co := HRa.out w' hI.2
                unfold Go.Rel.stepOf
                go_simp
                exact hK _ _ (But.refl _ _) (hI) rfl
              · intro f a w' hI hf hanc hdesc hle hs' hd K hK
                obtain ⟨_, tg, rfl⟩ := hd 12 125 (by kernel_rfl)
                obtain ⟨_, t14, rfl⟩ := hd 14 127 (by kernel_rfl)
                obtain ⟨_, t18, rfl⟩ := hd 18 131 (by kernel_rfl)
                unfold Go.Rel.stepOf
                go_simp
                exact hK _ _ (But.refl _ _) (hI) rfl
              · intro f a w' hI hf hanc hdesc hle hs' hd K hK
                obtain ⟨_, t12, rfl⟩ := hd 12 125 (by kernel_rfl)
                obtain ⟨_, t19, rfl⟩ := hd 19 132 (by kernel_rfl)
                unfold Go.Rel.stepOf
                go_simp
                exact hK _ _ (But.refl _ _) (hI) rfl
              · intro f a w' hI hf hanc hdesc hle hs' hd K hK
                obtain ⟨_, t20, rfl⟩ := hd 20 133 (by kernel_rfl)
                unfold Go.Rel.stepOf
                go_simp
                exact hK _ _ (But.refl _ _) (hI) rfl
              · intro f a w' hI hf hanc hdesc hle hs' hd K hK
                obtain ⟨_, tg, rfl⟩ := hd 21 134 (by kernel_rfl)
                have f7 : a.tmps[7]? = some (.pointer (some ⟨bd, 0, none⟩)) := hs'.2.2 7 (by kernel_rfl)
                unfold Go.Rel.stepOf
                go_simp
                exact hK _ _ (But.refl _ _) (hI) rfl
              · intro f a w' hI hf hanc hdesc hle hs' hd K hK
                obtain ⟨_, tg, rfl⟩ := hd 21 134 (by kernel_rfl)
                obtain ⟨_, t22, rfl⟩ := hd 22 135 (by kernel_rfl)
                unfold Go.Rel.stepOf
                go_simp
                refine (HTk.out w' hI.1).mono ?_
                rintro e w2 ⟨rfl, rfl⟩
                exact hK _ _ (But.refl _ _) hI rfl
              · intro f a w' hI hf hanc hdesc hle hs' hd K hK
                obtain ⟨_, tg, rfl⟩ := hd 21 134 (by kernel_rfl)
                have f8 : a.tmps[8]? = some (.pointer (some ⟨bw, 0, none⟩)) := hs'.2.2 8 (by kernel_rfl)
                unfold Go.Rel.stepOf
                go_simp
                exact hK _ _ (But.refl _ _) (hI) rfl
              · intro f a w' hI hf hanc hdesc hle hs' hd K hK
                obtain ⟨_, tg, rfl⟩ := hd 21 134 (by kernel_rfl)
                obtain ⟨_, t24, rfl⟩ := hd 24 137 (by kernel_rfl)
                unfold Go.Rel.stepOf
                go_simp
                exact hK _ _ (But.refl _ _) (hI) rfl
              · intro f a w' hI hf hanc hdesc hle hs' hd K hK
                obtain ⟨_, tg, rfl⟩ := hd 21 134 (by kernel_rfl)
                obtain ⟨_, t25, rfl⟩ := hd 25 138 (by kernel_rfl)
                unfold Go.Rel.stepOf
                go_simp
                exact hK _ _ (But.refl _ _) (hI) rfl
              · intro f a w' hI hf hanc hdesc hle hs' hd K hK
                obtain ⟨_, tg, rfl⟩ := hd 21 134 (by kernel_rfl)
                obtain ⟨_, t26, rfl⟩ := hd 26 139 (by kernel_rfl)
                have cd := HRd.out w' hI.2
                unfold Go.Rel.stepOf
                go_simp
                exact hK _ _ (But.refl _ _) (hI) rfl
              · intro f a w' hI hf hanc hdesc hle hs' hd K hK
                obtain ⟨_, tg, rfl⟩ := hd 21 134 (by kernel_rfl)
                obtain ⟨_, t23, rfl⟩ := hd 23 136 (by kernel_rfl)
                obtain ⟨_, t27, rfl⟩ := hd 27 140 (by kernel_rfl)
                unfold Go.Rel.stepOf
                go_simp
                exact hK _ _ (But.refl _ _) (hI) rfl
              · intro f a w' hI hf hanc hdesc hle hs' hd K hK
                obtain ⟨_, t21, rfl⟩ := hd 21 134 (by kernel_rfl)
                obtain ⟨_, t28, rfl⟩ := hd 28 141 (by kernel_rfl)
                unfold Go.Rel.stepOf
                go_simp
                exact hK _ _ (But.refl _ _) (hI) rfl
            case heL3 =>
              intro f a w9 hall hI hle hs' hR'
              have HI9 := Lib.hid hI
              have HB9 : Hid (But S W4 w9) := Lib.hid (HB5.out.trans hle)
              clear hI hall hle
              obtain ⟨v113, s113, _⟩ := hR' 0 113 (by kernel_rfl)
              obtain ⟨v114, s114, _⟩ := hR' 1 114 (by kernel_rfl)
              obtain ⟨v115, s115, _⟩ := hR' 2 115 (by kernel_rfl)
              obtain ⟨v116, s116, _⟩ := hR' 3 116 (by kernel_rfl)
              obtain ⟨v117, s117, _⟩ := hR' 4 117 (by kernel_rfl)
              obtain ⟨v118, s118, _⟩ := hR' 5 118 (by kernel_rfl)
              obtain ⟨v119, s119, _⟩ := hR' 6 119 (by kernel_rfl)
              obtain ⟨v120, s120, _⟩ := hR' 7 120 (by kernel_rfl)
              obtain ⟨v121, s121, _⟩ := hR' 8 121 (by kernel_rfl)
              obtain ⟨v122, s122, _⟩ := hR' 9 122 (by kernel_rfl)
              obtain ⟨v123, s123, _⟩ := hR' 10 123 (by kernel_rfl)
              obtain ⟨v124, s124, _⟩ := hR' 11 124 (by kernel_rfl)
              obtain ⟨v125, s125, _⟩ := hR' 12 125 (by kernel_rfl)
              obtain ⟨v126, s126, _⟩ := hR' 13 126 (by kernel_rfl)
              obtain ⟨v127, s127, _⟩ := hR' 14 127 (by kernel_rfl)
              obtain ⟨v128, s128, _⟩ := hR' 15 128 (by kernel_rfl)
              obtain ⟨v129, s129, _⟩ := hR' 16 129 (by kernel_rfl)
              obtain ⟨v130, s130, _⟩ := hR' 17 130 (by kernel_rfl)
              obtain ⟨v131, s131, _⟩ := hR' 18 131 (by kernel_rfl)
              obtain ⟨v132, s132, _⟩ := hR' 19 132 (by kernel_rfl)
              obtain ⟨v133, s133, _⟩ := hR' 20 133 (by kernel_rfl)
              obtain ⟨v134, s134, _⟩ := hR' 21 134 (by kernel_rfl)
              obtain ⟨v135, s135, _⟩ := hR' 22 135 (by kernel_rfl)
              obtain ⟨v136, s136, _⟩ := hR' 23 136 (by kernel_rfl)
              obtain ⟨v137, s137, _⟩ := hR' 24 137 (by kernel_rfl)
              obtain ⟨v138, s138, _⟩ := hR' 25 138 (by kernel_rfl)
              obtain ⟨v139, s139, _⟩ := hR' 26 139 (by kernel_rfl)
              obtain ⟨v140, s140, _⟩ := hR' 27 140 (by kernel_rfl)
              obtain ⟨v141, s141, _⟩ := hR' 28 141 (by kernel_rfl)
              obtain ⟨_, s142, rfl⟩ := hR' 29 142 (by kernel_rfl)
              have e := hs'.shape
              simp only [List.toList_toArray, List.foldl, Go.Rel.reset, Array.getD_eq_getD_getElem?, s113, s114, s115, s116, s117, s118, s119, s120, s121, s122, s123, s124, s125, s126, s127, s128, s129, s130, s131, s132, s133, s134, s135, s136, s137, s138, s139, s140, s141, s142, Option.getD_some] at e
              simp at e
              clear hR' hs' s113 s114 s115 s116 s117 s118 s119 s120 s121 s122 s123 s124 s125 s126 s127 s128 s129 s130 s131 s132 s133 s134 s135 s136 s137 s138 s139 s140 s141 s142
              subst e
              go_wp2
              go_roundw
              case rel => exact ⟨k + 1, _, _, by omega, by omega, by go_num, HI9, HB9⟩
              case measure => simp [intOf]; omega
        · have h64z : ¬ (sn : Int) ≤ 64 := by omega
          go_wp2_with fail
          rw [HX.out, HV.out]
          obtain ⟨row, hrow⟩ : ∃ row, g.row = row := ⟨_, rfl⟩
          obtain ⟨T2, hT2⟩ : ∃ T2, g.at_ = T2 := ⟨_, rfl⟩
          obtain ⟨T, hT⟩ : ∃ T, d.at_ = T := ⟨_, rfl⟩
          have HLi : Hid (∀ w', PrIs S Bp bd w' (g) (d) → Calls Try.prog 20 #[.pointer (some ⟨Bp, 0, none⟩)] w' (IRow w' row)) := Lib.hid (fun w' h => by rw [← hrow]; exact h.list)
          have HAt : Hid (∀ w', PrIs S Bp bd w' (g) (d) → Calls Try.prog 21 #[.pointer (some ⟨Bp, 0, none⟩)] w' fun e w2 => e = .returned (.int .i64 (T2 : Int)) ∧ w' = w2) := Lib.hid (fun w' h => by rw [← hT2]; exact h.at_)
          have HTk : Hid (∀ w', PrIs S Bp bd w' (g) (d) → Calls Try.prog 22 #[.pointer (some ⟨bd, 0, none⟩)] w' fun e w2 => e = .returned (.int .i64 (T : Int)) ∧ w' = w2) := Lib.hid (fun w' h => by rw [← hT]; exact h.taken)
          have HRw : Hid (∀ w', DoIs S Bw bw w' (g) (d) → ∃ A c, w'.cell? ⟨Bw, 0, none⟩ = some (.slice A row.length c) ∧ RVn S w' A row.length (row.map nV)) := Lib.hid (fun w' h => by rw [← hrow]; obtain ⟨_, A, c, hr⟩ := h.ring; exact ⟨A, c, hr.cl, hr.row⟩)
          have HRa : Hid (∀ w', DoIs S Bw bw w' (g) (d) → w'.cell? ⟨Bw, 1, none⟩ = some (.int .i64 (T2 : Int))) := Lib.hid (fun w' h => by rw [← hT2]; obtain ⟨_, A, c, hr⟩ := h.ring; exact hr.co)
          have HRd : Hid (∀ w', DoIs S Bw bw w' (g) (d) → w'.cell? ⟨bw, 1, none⟩ = some (.int .i64 (T : Int))) := Lib.hid (fun w' h => by rw [← hT]; obtain ⟨_, _, A, n, c, hh, _⟩ := h.dw; rw [cell_of_row _ _ _ _ _ _ hh]; rfl)
          have HSame : Hid (∀ A A2 c c2 w', RV w' A row.length (row.map nV) → RV w' A2 row.length (row.map nV) → Calls Try.prog 17 #[.slice A row.length c, .slice A2 row.length c2] w' fun e w2 => e = .returned (.bool true) ∧ Below w'.heap.size w' w2) := Lib.hid (fun A A2 c c2 w' h h' => same_any A A2 _ c c2 row w' h h' (by rw [← hrow]; have := Rg.few HVB.out.1.ok; omega))
          have HSlt : Hid (∀ k, S k → k < V.heap.size) := Lib.hid (fun k hk => HVB.out.1.lt k hk)
          clear hrow hT2 hT
          go_wp2
          refine Go.Rel.wp_region_states (by kernel_rfl) (by kernel_rfl) (by kernel_rfl) (by kernel_rfl) (fun _ w => PrIs S Bp bd w (g) (d) ∧ DoIs S Bw bw w (g) (d)) (But S) (fun _ _ _ h k => h.trans k) ((But.refl _ _).drew) (both_drew HVB.out) (plL S Bp bd Bw bw row T2 T) (plL_stable S Bp bd Bw bw row T2 T) ?hsL4 ?heL4
          case hsL4 =>
            refine (.cons ?_ (.cons ?_ (.cons ?_ (.cons ?_ (.cons ?_ (.cons ?_ (.cons ?_ (.cons ?_ (.cons ?_ (.cons ?_ (.cons ?_ (.cons ?_ (.cons ?_ (.cons ?_ (.cons ?_ (.cons ?_ (.cons ?_ (.cons ?_ (.cons ?_ (.cons ?_ (.cons ?_ (.cons ?_ (.cons ?_ (.cons ?_ (.cons ?_ (.cons ?_ (.cons ?_ (.cons ?_ (.cons ?_ (.cons ?_ .nil))))))))))))))))))))))))))))))
            · intro f a w' hI hf hanc hdesc hle hs' hd K hK
              have f11 : a.tmps[11]? = some (.bool true) := hs'.2.2 11 (by kernel_rfl)
              unfold Go.Rel.stepOf
              go_simp
              exact hK _ _ (But.refl _ _) (hI) rfl
            · intro f a w' hI hf hanc hdesc hle hs' hd K hK
              obtain ⟨_, t0, rfl⟩ := hd 0 113 (by kernel_rfl)
              unfold Go.Rel.stepOf
              go_simp
              exact hK _ _ (But.refl _ _) (hI) rfl
            · intro f a w' hI hf hanc hdesc hle hs' hd K hK
              obtain ⟨_, t1, rfl⟩ := hd 1 114 (by kernel_rfl)
              unfold Go.Rel.stepOf
              go_simp
              exact hK _ _ (But.refl _ _) (hI) rfl
            · intro f a w' hI hf hanc hdesc hle hs' hd K hK
              obtain ⟨_, tg, rfl⟩ := hd 2 115 (by kernel_rfl)
              have f5 : a.tmps[5]? = some (.pointer (some ⟨Bp, 0, none⟩)) := hs'.2.2 5 (by kernel_rfl)
              unfold Go.Rel.stepOf
              go_simp
              exact hK _ _ (But.refl _ _) (hI) rfl
            · intro f a w' hI hf hanc hdesc hle hs' hd K hK
              obtain ⟨_, tg, rfl⟩ := hd 2 115 (by kernel_rfl)
              obtain ⟨_, t3, rfl⟩ := hd 3 116 (by kernel_rfl)
              unfold Go.Rel.stepOf
              go_simp
              refine (HLi.out w' hI.1).mono ?_
              rintro e w2 ⟨A5, c5, rfl, hv5, _, _, _, hblk5, hb5⟩
              exact hK _ _ (But.of_below hb5) ⟨hI.1.below hb5, hI.2.below hb5⟩ ⟨_, _, rfl, hv5, fun b off e _ hs => by have := hblk5 b off e; have := HSlt.out b hs; have := hle.size; omega⟩
            · intro f a w' hI hf hanc hdesc hle hs' hd K hK
              obtain ⟨_, tg, rfl⟩ := hd 2 115 (by kernel_rfl)
              have f6 : a.tmps[6]? = some (.pointer (some ⟨Bw, 0, none⟩)) := hs'.2.2 6 (by kernel_rfl)
              unfold Go.Rel.stepOf
              go_simp
              exact hK _ _ (But.refl _ _) (hI) rfl
            · intro f a w' hI hf hanc hdesc hle hs' hd K hK
              obtain ⟨_, tg, rfl⟩ := hd 2 115 (by kernel_rfl)
              obtain ⟨_, t5, rfl⟩ := hd 5 118 (by kernel_rfl)
              unfold Go.Rel.stepOf
              go_simp
              exact hK _ _ (But.refl _ _) (hI) rfl
            · intro f a w' hI hf hanc hdesc hle hs' hd K hK
              obtain ⟨_, tg, rfl⟩ := hd 2 115 (by kernel_rfl)
              obtain ⟨_, t6, rfl⟩ := hd 6 119 (by kernel_rfl)
              unfold Go.Rel.stepOf
              go_simp
              exact hK _ _ (But.refl _ _) (hI) rfl
            · intro f a w' hI hf hanc hdesc hle hs' hd K hK
              obtain ⟨_, tg, rfl⟩ := hd 2 115 (by kernel_rfl)
              obtain ⟨_, t7, rfl⟩ := hd 7 120 (by kernel_rfl)
              obtain ⟨A9, c9, cl, hv9⟩ := HRw.out w' hI.2
              unfold Go.Rel.stepOf
              go_simp
              exact hK _ _ (But.refl _ _) hI ⟨_, _, rfl, hv9⟩
            · intro f a w' hI hf hanc hdesc hle hs' hd K hK
              obtain ⟨_, tg, rfl⟩ := hd 2 115 (by kernel_rfl)
              obtain ⟨_, t4, A4, c4, rfl, h4⟩ := hd 4 117 (by kernel_rfl)
              obtain ⟨_, t8, A8, c8, rfl, h8⟩ := hd 8 121 (by kernel_rfl)
              unfold Go.Rel.stepOf
              go_simp
              refine (HSame.out _ _ _ _ w' h4.1 h8.1).mono ?_
              rintro e w2 ⟨rfl, hb5⟩
              exact hK _ _ (But.of_below hb5) ⟨hI.1.below hb5, hI.2.below hb5⟩ rfl
            · intro f a w' hI hf hanc hdesc hle hs' hd K hK
              obtain ⟨_, tg, rfl⟩ := hd 2 115 (by kernel_rfl)
              obtain ⟨_, t9, rfl⟩ := hd 9 122 (by kernel_rfl)
              unfold Go.Rel.stepOf
              go_simp
              exact hK _ _ (But.refl _ _) (hI) rfl
            · intro f a w' hI hf hanc hdesc hle hs' hd K hK
              obtain ⟨_, t2, rfl⟩ := hd 2 115 (by kernel_rfl)
              obtain ⟨_, t10, rfl⟩ := hd 10 123 (by kernel_rfl)
              unfold Go.Rel.stepOf
              go_simp
              exact hK _ _ (But.refl _ _) (hI) rfl
            · intro f a w' hI hf hanc hdesc hle hs' hd K hK
              obtain ⟨_, t11, rfl⟩ := hd 11 124 (by kernel_rfl)
              unfold Go.Rel.stepOf
              go_simp
              exact hK _ _ (But.refl _ _) (hI) rfl
            · intro f a w' hI hf hanc hdesc hle hs' hd K hK
              obtain ⟨_, tg, rfl⟩ := hd 12 125 (by kernel_rfl)
              have f5 : a.tmps[5]? = some (.pointer (some ⟨Bp, 0, none⟩)) := hs'.2.2 5 (by kernel_rfl)
              unfold Go.Rel.stepOf
              go_simp
              exact hK _ _ (But.refl _ _) (hI) rfl
            · intro f a w' hI hf hanc hdesc hle hs' hd K hK
              obtain ⟨_, tg, rfl⟩ := hd 12 125 (by kernel_rfl)
              obtain ⟨_, t13, rfl⟩ := hd 13 126 (by kernel_rfl)
              unfold Go.Rel.stepOf
              go_simp
              refine (HAt.out w' hI.1).mono ?_
              rintro e w2 ⟨rfl, rfl⟩
              exact hK _ _ (But.refl _ _) hI rfl
            · intro f a w' hI hf hanc hdesc hle hs' hd K hK
              obtain ⟨_, tg, rfl⟩ := hd 12 125 (by kernel_rfl)
              have f6 : a.tmps[6]? = some (.pointer (some ⟨Bw, 0, none⟩)) := hs'.2.2 6 (by kernel_rfl)
              unfold Go.Rel.stepOf
              go_simp
              exact hK _ _ (But.refl _ _) (hI) rfl
            · intro f a w' hI hf hanc hdesc hle hs' hd K hK
              obtain ⟨_, tg, rfl⟩ := hd 12 125 (by kernel_rfl)
              obtain ⟨_, t15, rfl⟩ := hd 15 128 (by kernel_rfl)
              unfold Go.Rel.stepOf
              go_simp
              exact hK _ _ (But.refl _ _) (hI) rfl
            · intro f a w' hI hf hanc hdesc hle hs' hd K hK
              obtain ⟨_, tg, rfl⟩ := hd 12 125 (by kernel_rfl)
              obtain ⟨_, t16, rfl⟩ := hd 16 129 (by kernel_rfl)
              unfold Go.Rel.stepOf
              go_simp
              exact hK _ _ (But.refl _ _) (hI) rfl
            · intro f a w' hI hf hanc hdesc hle hs' hd K hK
              obtain ⟨_, tg, rfl⟩ := hd 12 125 (by kernel_rfl)
              obtain ⟨_, t17, rfl⟩ := hd 17 130 (by kernel_rfl)
              have co := HRa.out w' hI.2
              unfold Go.Rel.stepOf
              go_simp
              exact hK _ _ (But.refl _ _) (hI) rfl
            · intro f a w' hI hf hanc hdesc hle hs' hd K hK
              obtain ⟨_, tg, rfl⟩ := hd 12 125 (by kernel_rfl)
              obtain ⟨_, t14, rfl⟩ := hd 14 127 (by kernel_rfl)
              obtain ⟨_, t18, rfl⟩ := hd 18 131 (by kernel_rfl)
              unfold Go.Rel.stepOf
              go_simp
              exact hK _ _ (But.refl _ _) (hI) rfl
            · intro f a w' hI hf hanc hdesc hle hs' hd K hK
              obtain ⟨_, t12, rfl⟩ := hd 12 125 (by kernel_rfl)
              obtain ⟨_, t19, rfl⟩ := hd 19 132 (by kernel_rfl)
              unfold Go.Rel.stepOf
              go_simp
              exact hK _ _ (But.refl _ _) (hI) rfl
            · intro f a w' hI hf hanc hdesc hle hs' hd K hK
              obtain ⟨_, t20, rfl⟩ := hd 20 133 (by kernel_rfl)
              unfold Go.Rel.stepOf
              go_simp
              exact hK _ _ (But.refl _ _) (hI) rfl
            · intro f a w' hI hf hanc hdesc hle hs' hd K hK
              obtain ⟨_, tg, rfl⟩ := hd 21 134 (by kernel_rfl)
              have f7 : a.tmps[7]? = some (.pointer (some ⟨bd, 0, none⟩)) := hs'.2.2 7 (by kernel_rfl)
              unfold Go.Rel.stepOf
              go_simp
              exact hK _ _ (But.refl _ _) (hI) rfl
            · intro f a w' hI hf hanc hdesc hle hs' hd K hK
              obtain ⟨_, tg, rfl⟩ := hd 21 134 (by kernel_rfl)
              obtain ⟨_, t22, rfl⟩ := hd 22 135 (by kernel_rfl)
              unfold Go.Rel.stepOf
              go_simp
              refine (HTk.out w' hI.1).mono ?_
              rintro e w2 ⟨rfl, rfl⟩
              exact hK _ _ (But.refl _ _) hI rfl
            · intro f a w' hI hf hanc hdesc hle hs' hd K hK
              obtain ⟨_, tg, rfl⟩ := hd 21 134 (by kernel_rfl)
              have f8 : a.tmps[8]? = some (.pointer (some ⟨bw, 0, none⟩)) := hs'.2.2 8 (by kernel_rfl)
              unfold Go.Rel.stepOf
              go_simp
              exact hK _ _ (But.refl _ _) (hI) rfl
            · intro f a w' hI hf hanc hdesc hle hs' hd K hK
              obtain ⟨_, tg, rfl⟩ := hd 21 134 (by kernel_rfl)
              obtain ⟨_, t24, rfl⟩ := hd 24 137 (by kernel_rfl)
              unfold Go.Rel.stepOf
              go_simp
              exact hK _ _ (But.refl _ _) (hI) rfl
            · intro f a w' hI hf hanc hdesc hle hs' hd K hK
              obtain ⟨_, tg, rfl⟩ := hd 21 134 (by kernel_rfl)
              obtain ⟨_, t25, rfl⟩ := hd 25 138 (by kernel_rfl)
              unfold Go.Rel.stepOf
              go_simp
              exact hK _ _ (But.refl _ _) (hI) rfl
            · intro f a w' hI hf hanc hdesc hle hs' hd K hK
              obtain ⟨_, tg, rfl⟩ := hd 21 134 (by kernel_rfl)
              obtain ⟨_, t26, rfl⟩ := hd 26 139 (by kernel_rfl)
              have cd := HRd.out w' hI.2
              unfold Go.Rel.stepOf
              go_simp
              exact hK _ _ (But.refl _ _) (hI) rfl
            · intro f a w' hI hf hanc hdesc hle hs' hd K hK
              obtain ⟨_, tg, rfl⟩ := hd 21 134 (by kernel_rfl)
              obtain ⟨_, t23, rfl⟩ := hd 23 136 (by kernel_rfl)
              obtain ⟨_, t27, rfl⟩ := hd 27 140 (by kernel_rfl)
              unfold Go.Rel.stepOf
              go_simp
              exact hK _ _ (But.refl _ _) (hI) rfl
            · intro f a w' hI hf hanc hdesc hle hs' hd K hK
              obtain ⟨_, t21, rfl⟩ := hd 21 134 (by kernel_rfl)
              obtain ⟨_, t28, rfl⟩ := hd 28 141 (by kernel_rfl)
              unfold Go.Rel.stepOf
              go_simp
              exact hK _ _ (But.refl _ _) (hI) rfl
          case heL4 =>
            intro f a w9 hall hI hle hs' hR'
            have HI9 := Lib.hid hI
            have HB9 : Hid (But S W4 w9) := Lib.hid (HVS.out.trans hle)
            clear hI hall hle
            obtain ⟨v113, s113, _⟩ := hR' 0 113 (by kernel_rfl)
            obtain ⟨v114, s114, _⟩ := hR' 1 114 (by kernel_rfl)
            obtain ⟨v115, s115, _⟩ := hR' 2 115 (by kernel_rfl)
            obtain ⟨v116, s116, _⟩ := hR' 3 116 (by kernel_rfl)
            obtain ⟨v117, s117, _⟩ := hR' 4 117 (by kernel_rfl)
            obtain ⟨v118, s118, _⟩ := hR' 5 118 (by kernel_rfl)
            obtain ⟨v119, s119, _⟩ := hR' 6 119 (by kernel_rfl)
            obtain ⟨v120, s120, _⟩ := hR' 7 120 (by kernel_rfl)
            obtain ⟨v121, s121, _⟩ := hR' 8 121 (by kernel_rfl)
            obtain ⟨v122, s122, _⟩ := hR' 9 122 (by kernel_rfl)
            obtain ⟨v123, s123, _⟩ := hR' 10 123 (by kernel_rfl)
            obtain ⟨v124, s124, _⟩ := hR' 11 124 (by kernel_rfl)
            obtain ⟨v125, s125, _⟩ := hR' 12 125 (by kernel_rfl)
            obtain ⟨v126, s126, _⟩ := hR' 13 126 (by kernel_rfl)
            obtain ⟨v127, s127, _⟩ := hR' 14 127 (by kernel_rfl)
            obtain ⟨v128, s128, _⟩ := hR' 15 128 (by kernel_rfl)
            obtain ⟨v129, s129, _⟩ := hR' 16 129 (by kernel_rfl)
            obtain ⟨v130, s130, _⟩ := hR' 17 130 (by kernel_rfl)
            obtain ⟨v131, s131, _⟩ := hR' 18 131 (by kernel_rfl)
            obtain ⟨v132, s132, _⟩ := hR' 19 132 (by kernel_rfl)
            obtain ⟨v133, s133, _⟩ := hR' 20 133 (by kernel_rfl)
            obtain ⟨v134, s134, _⟩ := hR' 21 134 (by kernel_rfl)
            obtain ⟨v135, s135, _⟩ := hR' 22 135 (by kernel_rfl)
            obtain ⟨v136, s136, _⟩ := hR' 23 136 (by kernel_rfl)
            obtain ⟨v137, s137, _⟩ := hR' 24 137 (by kernel_rfl)
            obtain ⟨v138, s138, _⟩ := hR' 25 138 (by kernel_rfl)
            obtain ⟨v139, s139, _⟩ := hR' 26 139 (by kernel_rfl)
            obtain ⟨v140, s140, _⟩ := hR' 27 140 (by kernel_rfl)
            obtain ⟨v141, s141, _⟩ := hR' 28 141 (by kernel_rfl)
            obtain ⟨_, s142, rfl⟩ := hR' 29 142 (by kernel_rfl)
            have e := hs'.shape
            simp only [List.toList_toArray, List.foldl, Go.Rel.reset, Array.getD_eq_getD_getElem?, s113, s114, s115, s116, s117, s118, s119, s120, s121, s122, s123, s124, s125, s126, s127, s128, s129, s130, s131, s132, s133, s134, s135, s136, s137, s138, s139, s140, s141, s142, Option.getD_some] at e
            simp at e
            clear hR' hs' s113 s114 s115 s116 s117 s118 s119 s120 s121 s122 s123 s124 s125 s126 s127 s128 s129 s130 s131 s132 s133 s134 s135 s136 s137 s138 s139 s140 s141 s142
            subst e
            go_wp2
            go_roundw
            case rel => exact ⟨k + 1, _, _, by omega, by omega, by go_num, HI9, HB9⟩
            case measure => simp [intOf]; omega
      · have t0 : (kd == 0) = false := by rw [beq_eq_false_iff_ne]; exact hkd
        have t1 : (kd == 1) = false := by rw [beq_eq_false_iff_ne]; exact hkd1
        have t2 : (kd == 2) = false := by rw [beq_eq_false_iff_ne]; exact hkd2
        have t3 : (kd == 3) = false := by rw [beq_eq_false_iff_ne]; exact hkd3
        clear hkd hkd1 hkd2 hkd3
        go_wp2_with fail
        rw [HX.out, HV.out]
        obtain ⟨row, hrow⟩ : ∃ row, g.row = row := ⟨_, rfl⟩
        obtain ⟨T2, hT2⟩ : ∃ T2, g.at_ = T2 := ⟨_, rfl⟩
        obtain ⟨T, hT⟩ : ∃ T, d.at_ = T := ⟨_, rfl⟩
        have HLi : Hid (∀ w', PrIs S Bp bd w' (g) (d) → Calls Try.prog 20 #[.pointer (some ⟨Bp, 0, none⟩)] w' (IRow w' row)) := Lib.hid (fun w' h => by rw [← hrow]; exact h.list)
        have HAt : Hid (∀ w', PrIs S Bp bd w' (g) (d) → Calls Try.prog 21 #[.pointer (some ⟨Bp, 0, none⟩)] w' fun e w2 => e = .returned (.int .i64 (T2 : Int)) ∧ w' = w2) := Lib.hid (fun w' h => by rw [← hT2]; exact h.at_)
        have HTk : Hid (∀ w', PrIs S Bp bd w' (g) (d) → Calls Try.prog 22 #[.pointer (some ⟨bd, 0, none⟩)] w' fun e w2 => e = .returned (.int .i64 (T : Int)) ∧ w' = w2) := Lib.hid (fun w' h => by rw [← hT]; exact h.taken)
        have HRw : Hid (∀ w', DoIs S Bw bw w' (g) (d) → ∃ A c, w'.cell? ⟨Bw, 0, none⟩ = some (.slice A row.length c) ∧ RVn S w' A row.length (row.map nV)) := Lib.hid (fun w' h => by rw [← hrow]; obtain ⟨_, A, c, hr⟩ := h.ring; exact ⟨A, c, hr.cl, hr.row⟩)
        have HRa : Hid (∀ w', DoIs S Bw bw w' (g) (d) → w'.cell? ⟨Bw, 1, none⟩ = some (.int .i64 (T2 : Int))) := Lib.hid (fun w' h => by rw [← hT2]; obtain ⟨_, A, c, hr⟩ := h.ring; exact hr.co)
        have HRd : Hid (∀ w', DoIs S Bw bw w' (g) (d) → w'.cell? ⟨bw, 1, none⟩ = some (.int .i64 (T : Int))) := Lib.hid (fun w' h => by rw [← hT]; obtain ⟨_, _, A, n, c, hh, _⟩ := h.dw; rw [cell_of_row _ _ _ _ _ _ hh]; rfl)
        have HSame : Hid (∀ A A2 c c2 w', RV w' A row.length (row.map nV) → RV w' A2 row.length (row.map nV) → Calls Try.prog 17 #[.slice A row.length c, .slice A2 row.length c2] w' fun e w2 => e = .returned (.bool true) ∧ Below w'.heap.size w' w2) := Lib.hid (fun A A2 c c2 w' h h' => same_any A A2 _ c c2 row w' h h' (by rw [← hrow]; have := Rg.few HVB.out.1.ok; omega))
        have HSlt : Hid (∀ k, S k → k < V.heap.size) := Lib.hid (fun k hk => HVB.out.1.lt k hk)
        clear hrow hT2 hT
        go_wp2
        refine Go.Rel.wp_region_states (by kernel_rfl) (by kernel_rfl) (by kernel_rfl) (by kernel_rfl) (fun _ w => PrIs S Bp bd w (g) (d) ∧ DoIs S Bw bw w (g) (d)) (But S) (fun _ _ _ h k => h.trans k) ((But.refl _ _).drew) (both_drew HVB.out) (plL S Bp bd Bw bw row T2 T) (plL_stable S Bp bd Bw bw row T2 T) ?hsL5 ?heL5
        case hsL5 =>
          refine (.cons ?_ (.cons ?_ (.cons ?_ (.cons ?_ (.cons ?_ (.cons ?_ (.cons ?_ (.cons ?_ (.cons ?_ (.cons ?_ (.cons ?_ (.cons ?_ (.cons ?_ (.cons ?_ (.cons ?_ (.cons ?_ (.cons ?_ (.cons ?_ (.cons ?_ (.cons ?_ (.cons ?_ (.cons ?_ (.cons ?_ (.cons ?_ (.cons ?_ (.cons ?_ (.cons ?_ (.cons ?_ (.cons ?_ (.cons ?_ .nil))))))))))))))))))))))))))))))
          · intro f a w' hI hf hanc hdesc hle hs' hd K hK
            have f11 : a.tmps[11]? = some (.bool true) := hs'.2.2 11 (by kernel_rfl)
            unfold Go.Rel.stepOf
            go_simp
            exact hK _ _ (But.refl _ _) (hI) rfl
          · intro f a w' hI hf hanc hdesc hle hs' hd K hK
            obtain ⟨_, t0, rfl⟩ := hd 0 113 (by kernel_rfl)
            unfold Go.Rel.stepOf
            go_simp
            exact hK _ _ (But.refl _ _) (hI) rfl
          · intro f a w' hI hf hanc hdesc hle hs' hd K hK
            obtain ⟨_, t1, rfl⟩ := hd 1 114 (by kernel_rfl)
            unfold Go.Rel.stepOf
            go_simp
            exact hK _ _ (But.refl _ _) (hI) rfl
          · intro f a w' hI hf hanc hdesc hle hs' hd K hK
            obtain ⟨_, tg, rfl⟩ := hd 2 115 (by kernel_rfl)
            have f5 : a.tmps[5]? = some (.pointer (some ⟨Bp, 0, none⟩)) := hs'.2.2 5 (by kernel_rfl)
            unfold Go.Rel.stepOf
            go_simp
            exact hK _ _ (But.refl _ _) (hI) rfl
          · intro f a w' hI hf hanc hdesc hle hs' hd K hK
            obtain ⟨_, tg, rfl⟩ := hd 2 115 (by kernel_rfl)
            obtain ⟨_, t3, rfl⟩ := hd 3 116 (by kernel_rfl)
            unfold Go.Rel.stepOf
            go_simp
            refine (HLi.out w' hI.1).mono ?_
            rintro e w2 ⟨A5, c5, rfl, hv5, _, _, _, hblk5, hb5⟩
            exact hK _ _ (But.of_below hb5) ⟨hI.1.below hb5, hI.2.below hb5⟩ ⟨_, _, rfl, hv5, fun b off e _ hs => by have := hblk5 b off e; have := HSlt.out b hs; have := hle.size; omega⟩
          · intro f a w' hI hf hanc hdesc hle hs' hd K hK
            obtain ⟨_, tg, rfl⟩ := hd 2 115 (by kernel_rfl)
            have f6 : a.tmps[6]? = some (.pointer (some ⟨Bw, 0, none⟩)) := hs'.2.2 6 (by kernel_rfl)
            unfold Go.Rel.stepOf
            go_simp
            exact hK _ _ (But.refl _ _) (hI) rfl
          · intro f a w' hI hf hanc hdesc hle hs' hd K hK
            obtain ⟨_, tg, rfl⟩ := hd 2 115 (by kernel_rfl)
            obtain ⟨_, t5, rfl⟩ := hd 5 118 (by kernel_rfl)
            unfold Go.Rel.stepOf
            go_simp
            exact hK _ _ (But.refl _ _) (hI) rfl
          · intro f a w' hI hf hanc hdesc hle hs' hd K hK
            obtain ⟨_, tg, rfl⟩ := hd 2 115 (by kernel_rfl)
            obtain ⟨_, t6, rfl⟩ := hd 6 119 (by kernel_rfl)
            unfold Go.Rel.stepOf
            go_simp
            exact hK _ _ (But.refl _ _) (hI) rfl
          · intro f a w' hI hf hanc hdesc hle hs' hd K hK
            obtain ⟨_, tg, rfl⟩ := hd 2 115 (by kernel_rfl)
            obtain ⟨_, t7, rfl⟩ := hd 7 120 (by kernel_rfl)
            obtain ⟨A9, c9, cl, hv9⟩ := HRw.out w' hI.2
            unfold Go.Rel.stepOf
            go_simp
            exact hK _ _ (But.refl _ _) hI ⟨_, _, rfl, hv9⟩
          · intro f a w' hI hf hanc hdesc hle hs' hd K hK
            obtain ⟨_, tg, rfl⟩ := hd 2 115 (by kernel_rfl)
            obtain ⟨_, t4, A4, c4, rfl, h4⟩ := hd 4 117 (by kernel_rfl)
            obtain ⟨_, t8, A8, c8, rfl, h8⟩ := hd 8 121 (by kernel_rfl)
            unfold Go.Rel.stepOf
            go_simp
            refine (HSame.out _ _ _ _ w' h4.1 h8.1).mono ?_
            rintro e w2 ⟨rfl, hb5⟩
            exact hK _ _ (But.of_below hb5) ⟨hI.1.below hb5, hI.2.below hb5⟩ rfl
          · intro f a w' hI hf hanc hdesc hle hs' hd K hK
            obtain ⟨_, tg, rfl⟩ := hd 2 115 (by kernel_rfl)
            obtain ⟨_, t9, rfl⟩ := hd 9 122 (by kernel_rfl)
            unfold Go.Rel.stepOf
            go_simp
            exact hK _ _ (But.refl _ _) (hI) rfl
          · intro f a w' hI hf hanc hdesc hle hs' hd K hK
            obtain ⟨_, t2, rfl⟩ := hd 2 115 (by kernel_rfl)
            obtain ⟨_, t10, rfl⟩ := hd 10 123 (by kernel_rfl)
            unfold Go.Rel.stepOf
            go_simp
            exact hK _ _ (But.refl _ _) (hI) rfl
          · intro f a w' hI hf hanc hdesc hle hs' hd K hK
            obtain ⟨_, t11, rfl⟩ := hd 11 124 (by kernel_rfl)
            unfold Go.Rel.stepOf
            go_simp
            exact hK _ _ (But.refl _ _) (hI) rfl
          · intro f a w' hI hf hanc hdesc hle hs' hd K hK
            obtain ⟨_, tg, rfl⟩ := hd 12 125 (by kernel_rfl)
            have f5 : a.tmps[5]? = some (.pointer (some ⟨Bp, 0, none⟩)) := hs'.2.2 5 (by kernel_rfl)
            unfold Go.Rel.stepOf
            go_simp
            exact hK _ _ (But.refl _ _) (hI) rfl
          · intro f a w' hI hf hanc hdesc hle hs' hd K hK
            obtain ⟨_, tg, rfl⟩ := hd 12 125 (by kernel_rfl)
            obtain ⟨_, t13, rfl⟩ := hd 13 126 (by kernel_rfl)
            unfold Go.Rel.stepOf
            go_simp
            refine (HAt.out w' hI.1).mono ?_
            rintro e w2 ⟨rfl, rfl⟩
            exact hK _ _ (But.refl _ _) hI rfl
          · intro f a w' hI hf hanc hdesc hle hs' hd K hK
            obtain ⟨_, tg, rfl⟩ := hd 12 125 (by kernel_rfl)
            have f6 : a.tmps[6]? = some (.pointer (some ⟨Bw, 0, none⟩)) := hs'.2.2 6 (by kernel_rfl)
            unfold Go.Rel.stepOf
            go_simp
            exact hK _ _ (But.refl _ _) (hI) rfl
          · intro f a w' hI hf hanc hdesc hle hs' hd K hK
            obtain ⟨_, tg, rfl⟩ := hd 12 125 (by kernel_rfl)
            obtain ⟨_, t15, rfl⟩ := hd 15 128 (by kernel_rfl)
            unfold Go.Rel.stepOf
            go_simp
            exact hK _ _ (But.refl _ _) (hI) rfl
          · intro f a w' hI hf hanc hdesc hle hs' hd K hK
            obtain ⟨_, tg, rfl⟩ := hd 12 125 (by kernel_rfl)
            obtain ⟨_, t16, rfl⟩ := hd 16 129 (by kernel_rfl)
            unfold Go.Rel.stepOf
            go_simp
            exact hK _ _ (But.refl _ _) (hI) rfl
          · intro f a w' hI hf hanc hdesc hle hs' hd K hK
            obtain ⟨_, tg, rfl⟩ := hd 12 125 (by kernel_rfl)
            obtain ⟨_, t17, rfl⟩ := hd 17 130 (by kernel_rfl)
            have co := HRa.out w' hI.2
            unfold Go.Rel.stepOf
            go_simp
            exact hK _ _ (But.refl _ _) (hI) rfl
          · intro f a w' hI hf hanc hdesc hle hs' hd K hK
            obtain ⟨_, tg, rfl⟩ := hd 12 125 (by kernel_rfl)
            obtain ⟨_, t14, rfl⟩ := hd 14 127 (by kernel_rfl)
            obtain ⟨_, t18, rfl⟩ := hd 18 131 (by kernel_rfl)
            unfold Go.Rel.stepOf
            go_simp
            exact hK _ _ (But.refl _ _) (hI) rfl
          · intro f a w' hI hf hanc hdesc hle hs' hd K hK
            obtain ⟨_, t12, rfl⟩ := hd 12 125 (by kernel_rfl)
            obtain ⟨_, t19, rfl⟩ := hd 19 132 (by kernel_rfl)
            unfold Go.Rel.stepOf
            go_simp
            exact hK _ _ (But.refl _ _) (hI) rfl
          · intro f a w' hI hf hanc hdesc hle hs' hd K hK
            obtain ⟨_, t20, rfl⟩ := hd 20 133 (by kernel_rfl)
            unfold Go.Rel.stepOf
            go_simp
            exact hK _ _ (But.refl _ _) (hI) rfl
          · intro f a w' hI hf hanc hdesc hle hs' hd K hK
            obtain ⟨_, tg, rfl⟩ := hd 21 134 (by kernel_rfl)
            have f7 : a.tmps[7]? = some (.pointer (some ⟨bd, 0, none⟩)) := hs'.2.2 7 (by kernel_rfl)
            unfold Go.Rel.stepOf
            go_simp
            exact hK _ _ (But.refl _ _) (hI) rfl
          · intro f a w' hI hf hanc hdesc hle hs' hd K hK
            obtain ⟨_, tg, rfl⟩ := hd 21 134 (by kernel_rfl)
            obtain ⟨_, t22, rfl⟩ := hd 22 135 (by kernel_rfl)
            unfold Go.Rel.stepOf
            go_simp
            refine (HTk.out w' hI.1).mono ?_
            rintro e w2 ⟨rfl, rfl⟩
            exact hK _ _ (But.refl _ _) hI rfl
          · intro f a w' hI hf hanc hdesc hle hs' hd K hK
            obtain ⟨_, tg, rfl⟩ := hd 21 134 (by kernel_rfl)
            have f8 : a.tmps[8]? = some (.pointer (some ⟨bw, 0, none⟩)) := hs'.2.2 8 (by kernel_rfl)
            unfold Go.Rel.stepOf
            go_simp
            exact hK _ _ (But.refl _ _) (hI) rfl
          · intro f a w' hI hf hanc hdesc hle hs' hd K hK
            obtain ⟨_, tg, rfl⟩ := hd 21 134 (by kernel_rfl)
            obtain ⟨_, t24, rfl⟩ := hd 24 137 (by kernel_rfl)
            unfold Go.Rel.stepOf
            go_simp
            exact hK _ _ (But.refl _ _) (hI) rfl
          · intro f a w' hI hf hanc hdesc hle hs' hd K hK
            obtain ⟨_, tg, rfl⟩ := hd 21 134 (by kernel_rfl)
            obtain ⟨_, t25, rfl⟩ := hd 25 138 (by kernel_rfl)
            unfold Go.Rel.stepOf
            go_simp
            exact hK _ _ (But.refl _ _) (hI) rfl
          · intro f a w' hI hf hanc hdesc hle hs' hd K hK
            obtain ⟨_, tg, rfl⟩ := hd 21 134 (by kernel_rfl)
            obtain ⟨_, t26, rfl⟩ := hd 26 139 (by kernel_rfl)
            have cd := HRd.out w' hI.2
            unfold Go.Rel.stepOf
            go_simp
            exact hK _ _ (But.refl _ _) (hI) rfl
          · intro f a w' hI hf hanc hdesc hle hs' hd K hK
            obtain ⟨_, tg, rfl⟩ := hd 21 134 (by kernel_rfl)
            obtain ⟨_, t23, rfl⟩ := hd 23 136 (by kernel_rfl)
            obtain ⟨_, t27, rfl⟩ := hd 27 140 (by kernel_rfl)
            unfold Go.Rel.stepOf
            go_simp
            exact hK _ _ (But.refl _ _) (hI) rfl
          · intro f a w' hI hf hanc hdesc hle hs' hd K hK
            obtain ⟨_, t21, rfl⟩ := hd 21 134 (by kernel_rfl)
            obtain ⟨_, t28, rfl⟩ := hd 28 141 (by kernel_rfl)
            unfold Go.Rel.stepOf
            go_simp
            exact hK _ _ (But.refl _ _) (hI) rfl
        case heL5 =>
          intro f a w9 hall hI hle hs' hR'
          have HI9 := Lib.hid hI
          have HB9 : Hid (But S W4 w9) := Lib.hid (HVS.out.trans hle)
          clear hI hall hle
          obtain ⟨v113, s113, _⟩ := hR' 0 113 (by kernel_rfl)
          obtain ⟨v114, s114, _⟩ := hR' 1 114 (by kernel_rfl)
          obtain ⟨v115, s115, _⟩ := hR' 2 115 (by kernel_rfl)
          obtain ⟨v116, s116, _⟩ := hR' 3 116 (by kernel_rfl)
          obtain ⟨v117, s117, _⟩ := hR' 4 117 (by kernel_rfl)
          obtain ⟨v118, s118, _⟩ := hR' 5 118 (by kernel_rfl)
          obtain ⟨v119, s119, _⟩ := hR' 6 119 (by kernel_rfl)
          obtain ⟨v120, s120, _⟩ := hR' 7 120 (by kernel_rfl)
          obtain ⟨v121, s121, _⟩ := hR' 8 121 (by kernel_rfl)
          obtain ⟨v122, s122, _⟩ := hR' 9 122 (by kernel_rfl)
          obtain ⟨v123, s123, _⟩ := hR' 10 123 (by kernel_rfl)
          obtain ⟨v124, s124, _⟩ := hR' 11 124 (by kernel_rfl)
          obtain ⟨v125, s125, _⟩ := hR' 12 125 (by kernel_rfl)
          obtain ⟨v126, s126, _⟩ := hR' 13 126 (by kernel_rfl)
          obtain ⟨v127, s127, _⟩ := hR' 14 127 (by kernel_rfl)
          obtain ⟨v128, s128, _⟩ := hR' 15 128 (by kernel_rfl)
          obtain ⟨v129, s129, _⟩ := hR' 16 129 (by kernel_rfl)
          obtain ⟨v130, s130, _⟩ := hR' 17 130 (by kernel_rfl)
          obtain ⟨v131, s131, _⟩ := hR' 18 131 (by kernel_rfl)
          obtain ⟨v132, s132, _⟩ := hR' 19 132 (by kernel_rfl)
          obtain ⟨v133, s133, _⟩ := hR' 20 133 (by kernel_rfl)
          obtain ⟨v134, s134, _⟩ := hR' 21 134 (by kernel_rfl)
          obtain ⟨v135, s135, _⟩ := hR' 22 135 (by kernel_rfl)
          obtain ⟨v136, s136, _⟩ := hR' 23 136 (by kernel_rfl)
          obtain ⟨v137, s137, _⟩ := hR' 24 137 (by kernel_rfl)
          obtain ⟨v138, s138, _⟩ := hR' 25 138 (by kernel_rfl)
          obtain ⟨v139, s139, _⟩ := hR' 26 139 (by kernel_rfl)
          obtain ⟨v140, s140, _⟩ := hR' 27 140 (by kernel_rfl)
          obtain ⟨v141, s141, _⟩ := hR' 28 141 (by kernel_rfl)
          obtain ⟨_, s142, rfl⟩ := hR' 29 142 (by kernel_rfl)
          have e := hs'.shape
          simp only [List.toList_toArray, List.foldl, Go.Rel.reset, Array.getD_eq_getD_getElem?, s113, s114, s115, s116, s117, s118, s119, s120, s121, s122, s123, s124, s125, s126, s127, s128, s129, s130, s131, s132, s133, s134, s135, s136, s137, s138, s139, s140, s141, s142, Option.getD_some] at e
          simp at e
          clear hR' hs' s113 s114 s115 s116 s117 s118 s119 s120 s121 s122 s123 s124 s125 s126 s127 s128 s129 s130 s131 s132 s133 s134 s135 s136 s137 s138 s139 s140 s141 s142
          subst e
          go_wp2
          go_roundw
          case rel => exact ⟨k + 1, _, _, by omega, by omega, by go_num, HI9, HB9⟩
          case measure => simp [intOf]; omega
    · have hge : ¬ ((k : Int) < (n1 : Int)) ∨ ((k : Int) < (n1 : Int) ∧ ¬ ((k : Int) < 60)) := by omega
      have HBF : Hid (Below w.heap.size w wr) := Lib.hid (HB4.out.trans (hbut.out.below HB4.out.size (fun i hi e => by have := HSge.out i e; omega)))
      obtain ⟨row, hrow⟩ : ∃ row, g.row = row := ⟨_, rfl⟩
      obtain ⟨T2, hT2⟩ : ∃ T2, g.at_ = T2 := ⟨_, rfl⟩
      obtain ⟨T, hT⟩ : ∃ T, d.at_ = T := ⟨_, rfl⟩
      have HLi : Hid (∀ w', PrIs S Bp bd w' (g) (d) → Calls Try.prog 20 #[.pointer (some ⟨Bp, 0, none⟩)] w' (IRow w' row)) := Lib.hid (fun w' h => by rw [← hrow]; exact h.list)
      have HRw : Hid (∀ w', DoIs S Bw bw w' (g) (d) → ∃ A c, w'.cell? ⟨Bw, 0, none⟩ = some (.slice A row.length c) ∧ RVn S w' A row.length (row.map nV)) := Lib.hid (fun w' h => by rw [← hrow]; obtain ⟨_, A, c, hr⟩ := h.ring; exact ⟨A, c, hr.cl, hr.row⟩)
      have HSame : Hid (∀ A A2 c c2 w', RV w' A row.length (row.map nV) → RV w' A2 row.length (row.map nV) → Calls Try.prog 17 #[.slice A row.length c, .slice A2 row.length c2] w' fun e w2 => e = .returned (.bool true) ∧ Below w'.heap.size w' w2) := Lib.hid (fun A A2 c c2 w' h h' => same_any A A2 _ c c2 row w' h h' (by rw [← hrow]; have := Rg.few hst.out.1.ok; omega))
      have HSlt : Hid (∀ k, S k → k < wr.heap.size) := Lib.hid (fun k hk => hst.out.1.lt k hk)
      clear hlt hrow hT2 hT
      rcases hge with r1 | ⟨r1, r2⟩
      · go_wp2
        refine Go.Rel.wp_region_states (by kernel_rfl) (by kernel_rfl) (by kernel_rfl) (by kernel_rfl) (fun _ w => PrIs S Bp bd w g d ∧ DoIs S Bw bw w g d) (But S) (fun _ _ _ h k => h.trans k) ((But.refl _ _).drew) (both_drew hst.out) (plE S Bp bd Bw bw row) (plE_stable S Bp bd Bw bw row) ?hsE ?heE
        case hsE =>
          refine (.cons ?_ (.cons ?_ (.cons ?_ (.cons ?_ (.cons ?_ (.cons ?_ (.cons ?_ (.cons ?_ (.cons ?_ (.cons ?_ (.cons ?_ .nil)))))))))))
          · intro f a w' hI hf hanc hdesc hle hs' hd K hK
            have f5 : a.tmps[5]? = some (.pointer (some ⟨Bp, 0, none⟩)) := hs'.2.2 5 (by kernel_rfl)
            unfold Go.Rel.stepOf
            go_simp
            exact hK _ _ (But.refl _ _) (hI) rfl
          · intro f a w' hI hf hanc hdesc hle hs' hd K hK
            obtain ⟨_, t0, rfl⟩ := hd 0 143 (by kernel_rfl)
            unfold Go.Rel.stepOf
            go_simp
            refine (HLi.out w' hI.1).mono ?_
            rintro e w2 ⟨A5, c5, rfl, hv5, _, _, _, hblk5, hb5⟩
            exact hK _ _ (But.of_below hb5) ⟨hI.1.below hb5, hI.2.below hb5⟩ ⟨_, _, rfl, hv5, fun b off e _ hs => by have := hblk5 b off e; have := HSlt.out b hs; have := hle.size; omega⟩
          · intro f a w' hI hf hanc hdesc hle hs' hd K hK
            have f6 : a.tmps[6]? = some (.pointer (some ⟨Bw, 0, none⟩)) := hs'.2.2 6 (by kernel_rfl)
            unfold Go.Rel.stepOf
            go_simp
            exact hK _ _ (But.refl _ _) (hI) rfl
          · intro f a w' hI hf hanc hdesc hle hs' hd K hK
            obtain ⟨_, t2, rfl⟩ := hd 2 145 (by kernel_rfl)
            unfold Go.Rel.stepOf
            go_simp
            exact hK _ _ (But.refl _ _) (hI) rfl
          · intro f a w' hI hf hanc hdesc hle hs' hd K hK
            obtain ⟨_, t3, rfl⟩ := hd 3 146 (by kernel_rfl)
            unfold Go.Rel.stepOf
            go_simp
            exact hK _ _ (But.refl _ _) (hI) rfl
          · intro f a w' hI hf hanc hdesc hle hs' hd K hK
            obtain ⟨_, t4, rfl⟩ := hd 4 147 (by kernel_rfl)
            obtain ⟨A9, c9, cl, hv9⟩ := HRw.out w' hI.2
            unfold Go.Rel.stepOf
            go_simp
            exact hK _ _ (But.refl _ _) hI ⟨_, _, rfl, hv9⟩
          · intro f a w' hI hf hanc hdesc hle hs' hd K hK
            obtain ⟨_, t1, A1, c1, rfl, h1⟩ := hd 1 144 (by kernel_rfl)
            obtain ⟨_, t5, A5, c5, rfl, h5⟩ := hd 5 148 (by kernel_rfl)
            unfold Go.Rel.stepOf
            go_simp
            refine (HSame.out _ _ _ _ w' h1.1 h5.1).mono ?_
            rintro e w2 ⟨rfl, hb5⟩
            exact hK _ _ (But.of_below hb5) ⟨hI.1.below hb5, hI.2.below hb5⟩ rfl
          · intro f a w' hI hf hanc hdesc hle hs' hd K hK
            obtain ⟨_, t6, rfl⟩ := hd 6 149 (by kernel_rfl)
            unfold Go.Rel.stepOf
            go_simp
            exact hK _ _ (But.refl _ _) (hI) rfl
          · intro f a w' hI hf hanc hdesc hle hs' hd K hK
            obtain ⟨_, tg, rfl⟩ := hd 7 150 (by kernel_rfl)
            unfold Go.Rel.stepOf
            go_simp
            refine (HWk.out w').mono ?_
            rintro e w2 ⟨rfl, hb5⟩
            exact hK _ _ (But.of_below hb5) ⟨hI.1.below hb5, hI.2.below hb5⟩ rfl
          · intro f a w' hI hf hanc hdesc hle hs' hd K hK
            obtain ⟨_, t7, rfl⟩ := hd 7 150 (by kernel_rfl)
            obtain ⟨_, t8, rfl⟩ := hd 8 151 (by kernel_rfl)
            unfold Go.Rel.stepOf
            go_simp
            exact hK _ _ (But.refl _ _) (hI) rfl
          · intro f a w' hI hf hanc hdesc hle hs' hd K hK
            obtain ⟨_, t9, rfl⟩ := hd 9 152 (by kernel_rfl)
            unfold Go.Rel.stepOf
            go_simp
            exact hK _ _ (But.refl _ _) (hI) rfl
        case heE =>
          intro f a w9 hall hI hle hs' hR'
          have HB9 : Hid (Below w.heap.size w w9) := Lib.hid (HBF.out.trans (hle.below HBF.out.size (fun i hi e => by have := HSge.out i e; omega)))
          clear hI hall hle
          obtain ⟨v143, s143, _⟩ := hR' 0 143 (by kernel_rfl)
          obtain ⟨v144, s144, _⟩ := hR' 1 144 (by kernel_rfl)
          obtain ⟨v145, s145, _⟩ := hR' 2 145 (by kernel_rfl)
          obtain ⟨v146, s146, _⟩ := hR' 3 146 (by kernel_rfl)
          obtain ⟨v147, s147, _⟩ := hR' 4 147 (by kernel_rfl)
          obtain ⟨v148, s148, _⟩ := hR' 5 148 (by kernel_rfl)
          obtain ⟨v149, s149, _⟩ := hR' 6 149 (by kernel_rfl)
          obtain ⟨v150, s150, _⟩ := hR' 7 150 (by kernel_rfl)
          obtain ⟨v151, s151, _⟩ := hR' 8 151 (by kernel_rfl)
          obtain ⟨v152, s152, _⟩ := hR' 9 152 (by kernel_rfl)
          obtain ⟨_, s4, rfl⟩ := hR' 10 4 (by kernel_rfl)
          have e := hs'.shape
          simp only [List.toList_toArray, List.foldl, Go.Rel.reset, Array.getD_eq_getD_getElem?, s143, s144, s145, s146, s147, s148, s149, s150, s151, s152, s4, Option.getD_some] at e
          simp at e
          clear hR' hs' s143 s144 s145 s146 s147 s148 s149 s150 s151 s152 s4
          subst e
          go_wp2
          go_ret
          exact ⟨rfl, HB9.out⟩
      · go_wp2
        refine Go.Rel.wp_region_states (by kernel_rfl) (by kernel_rfl) (by kernel_rfl) (by kernel_rfl) (fun _ w => PrIs S Bp bd w g d ∧ DoIs S Bw bw w g d) (But S) (fun _ _ _ h k => h.trans k) ((But.refl _ _).drew) (both_drew hst.out) (plE S Bp bd Bw bw row) (plE_stable S Bp bd Bw bw row) ?hsE ?heE
        case hsE =>
          refine (.cons ?_ (.cons ?_ (.cons ?_ (.cons ?_ (.cons ?_ (.cons ?_ (.cons ?_ (.cons ?_ (.cons ?_ (.cons ?_ (.cons ?_ .nil)))))))))))
          · intro f a w' hI hf hanc hdesc hle hs' hd K hK
            have f5 : a.tmps[5]? = some (.pointer (some ⟨Bp, 0, none⟩)) := hs'.2.2 5 (by kernel_rfl)
            unfold Go.Rel.stepOf
            go_simp
            exact hK _ _ (But.refl _ _) (hI) rfl
          · intro f a w' hI hf hanc hdesc hle hs' hd K hK
            obtain ⟨_, t0, rfl⟩ := hd 0 143 (by kernel_rfl)
            unfold Go.Rel.stepOf
            go_simp
            refine (HLi.out w' hI.1).mono ?_
            rintro e w2 ⟨A5, c5, rfl, hv5, _, _, _, hblk5, hb5⟩
            exact hK _ _ (But.of_below hb5) ⟨hI.1.below hb5, hI.2.below hb5⟩ ⟨_, _, rfl, hv5, fun b off e _ hs => by have := hblk5 b off e; have := HSlt.out b hs; have := hle.size; omega⟩
          · intro f a w' hI hf hanc hdesc hle hs' hd K hK
            have f6 : a.tmps[6]? = some (.pointer (some ⟨Bw, 0, none⟩)) := hs'.2.2 6 (by kernel_rfl)
            unfold Go.Rel.stepOf
            go_simp
            exact hK _ _ (But.refl _ _) (hI) rfl
          · intro f a w' hI hf hanc hdesc hle hs' hd K hK
            obtain ⟨_, t2, rfl⟩ := hd 2 145 (by kernel_rfl)
            unfold Go.Rel.stepOf
            go_simp
            exact hK _ _ (But.refl _ _) (hI) rfl
          · intro f a w' hI hf hanc hdesc hle hs' hd K hK
            obtain ⟨_, t3, rfl⟩ := hd 3 146 (by kernel_rfl)
            unfold Go.Rel.stepOf
            go_simp
            exact hK _ _ (But.refl _ _) (hI) rfl
          · intro f a w' hI hf hanc hdesc hle hs' hd K hK
            obtain ⟨_, t4, rfl⟩ := hd 4 147 (by kernel_rfl)
            obtain ⟨A9, c9, cl, hv9⟩ := HRw.out w' hI.2
            unfold Go.Rel.stepOf
            go_simp
            exact hK _ _ (But.refl _ _) hI ⟨_, _, rfl, hv9⟩
          · intro f a w' hI hf hanc hdesc hle hs' hd K hK
            obtain ⟨_, t1, A1, c1, rfl, h1⟩ := hd 1 144 (by kernel_rfl)
            obtain ⟨_, t5, A5, c5, rfl, h5⟩ := hd 5 148 (by kernel_rfl)
            unfold Go.Rel.stepOf
            go_simp
            refine (HSame.out _ _ _ _ w' h1.1 h5.1).mono ?_
            rintro e w2 ⟨rfl, hb5⟩
            exact hK _ _ (But.of_below hb5) ⟨hI.1.below hb5, hI.2.below hb5⟩ rfl
          · intro f a w' hI hf hanc hdesc hle hs' hd K hK
            obtain ⟨_, t6, rfl⟩ := hd 6 149 (by kernel_rfl)
            unfold Go.Rel.stepOf
            go_simp
            exact hK _ _ (But.refl _ _) (hI) rfl
          · intro f a w' hI hf hanc hdesc hle hs' hd K hK
            obtain ⟨_, tg, rfl⟩ := hd 7 150 (by kernel_rfl)
            unfold Go.Rel.stepOf
            go_simp
            refine (HWk.out w').mono ?_
            rintro e w2 ⟨rfl, hb5⟩
            exact hK _ _ (But.of_below hb5) ⟨hI.1.below hb5, hI.2.below hb5⟩ rfl
          · intro f a w' hI hf hanc hdesc hle hs' hd K hK
            obtain ⟨_, t7, rfl⟩ := hd 7 150 (by kernel_rfl)
            obtain ⟨_, t8, rfl⟩ := hd 8 151 (by kernel_rfl)
            unfold Go.Rel.stepOf
            go_simp
            exact hK _ _ (But.refl _ _) (hI) rfl
          · intro f a w' hI hf hanc hdesc hle hs' hd K hK
            obtain ⟨_, t9, rfl⟩ := hd 9 152 (by kernel_rfl)
            unfold Go.Rel.stepOf
            go_simp
            exact hK _ _ (But.refl _ _) (hI) rfl
        case heE =>
          intro f a w9 hall hI hle hs' hR'
          have HB9 : Hid (Below w.heap.size w w9) := Lib.hid (HBF.out.trans (hle.below HBF.out.size (fun i hi e => by have := HSge.out i e; omega)))
          clear hI hall hle
          obtain ⟨v143, s143, _⟩ := hR' 0 143 (by kernel_rfl)
          obtain ⟨v144, s144, _⟩ := hR' 1 144 (by kernel_rfl)
          obtain ⟨v145, s145, _⟩ := hR' 2 145 (by kernel_rfl)
          obtain ⟨v146, s146, _⟩ := hR' 3 146 (by kernel_rfl)
          obtain ⟨v147, s147, _⟩ := hR' 4 147 (by kernel_rfl)
          obtain ⟨v148, s148, _⟩ := hR' 5 148 (by kernel_rfl)
          obtain ⟨v149, s149, _⟩ := hR' 6 149 (by kernel_rfl)
          obtain ⟨v150, s150, _⟩ := hR' 7 150 (by kernel_rfl)
          obtain ⟨v151, s151, _⟩ := hR' 8 151 (by kernel_rfl)
          obtain ⟨v152, s152, _⟩ := hR' 9 152 (by kernel_rfl)
          obtain ⟨_, s4, rfl⟩ := hR' 10 4 (by kernel_rfl)
          have e := hs'.shape
          simp only [List.toList_toArray, List.foldl, Go.Rel.reset, Array.getD_eq_getD_getElem?, s143, s144, s145, s146, s147, s148, s149, s150, s151, s152, s4, Option.getD_some] at e
          simp at e
          clear hR' hs' s143 s144 s145 s146 s147 s148 s149 s150 s151 s152 s4
          subst e
          go_wp2
          go_ret
          exact ⟨rfl, HB9.out⟩
end Go.Proofs.Ytckeknhoimgccaa
