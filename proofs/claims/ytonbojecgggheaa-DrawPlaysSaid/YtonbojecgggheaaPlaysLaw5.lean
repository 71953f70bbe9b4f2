/-
  Whatever is asked of any draws, they answer, and are used up, as the document says: the law sodalitylaw05.DrawPlays over the contracts.
-/
import Derived.Test.YtonbojecgggheaaSameLaw5
namespace Go.Proofs.Ytonbojecgggheaa
open Go.RowKit
set_option linter.unusedSimpArgs false

theorem rw_cells {S : Nat → Prop} {w : World} {B : Nat} {d : Dr} (h : RwAt S w B d) : (∃ A c, w.cell? ⟨B, 0, none⟩ = some (.slice A d.l.length c)) ∧ w.cell? ⟨B, 1, none⟩ = some (.int .i64 (d.at_ : Int)) := by
  obtain ⟨_, _, A, n, c, hh, hr, _⟩ := h
  have hn : d.l.length = n := by simpa using hr.1.1
  rw [hn]
  exact ⟨⟨A, c, by rw [cell_of_row _ _ _ _ _ _ hh]; rfl⟩, by rw [cell_of_row _ _ _ _ _ _ hh]; rfl⟩
def stepD (x : Stp) (d : Dr) : Dr := if x.kind = 0 then d.next x.n else if x.kind = 1 then d.afterO x.n else if x.kind = 2 then d.afterO x.n else d
def BothD (S : Nat → Prop) (bd bw : Nat) (d : Dr) (w : World) : Prop := DwAt S w (.pointer (some ⟨bd, 0, none⟩)) d ∧ RwAt S w bw d
def playB (_ : Nat → Prop) (bd : Nat) (bw : Nat) (b : Nat) (off : Nat) (n1 : Nat) (c1 : Nat) (k : Nat) (x : Stp) (y : Nat) : Nat → Value → World → Prop
  | 0, v, _ => v = .pointer (some ⟨bd, 0, none⟩)
  | 1, v, _ => v = .slice (some ⟨b, off, none⟩) n1 c1
  | 2, v, _ => v = .int .i64 (k : Int)
  | 3, v, _ => v = .pointer (some ⟨b, off + k * 3, none⟩)
  | 4, v, _ => v = .pointer (some ⟨b, off + k * 3 + 1, none⟩)
  | 5, v, _ => v = .int .i64 x.n
  | 6, v, _ => v = .int .i64 (y : Int)
  | 7, v, _ => v = .pointer (some ⟨bw, 0, none⟩)
  | 8, v, _ => v = .slice (some ⟨b, off, none⟩) n1 c1
  | 9, v, _ => v = .int .i64 (k : Int)
  | 10, v, _ => v = .pointer (some ⟨b, off + k * 3, none⟩)
  | 11, v, _ => v = .pointer (some ⟨b, off + k * 3 + 1, none⟩)
  | 12, v, _ => v = .int .i64 x.n
  | 13, v, _ => v = .int .i64 (y : Int)
  | 14, v, _ => v = .bool false
  | _, _, _ => True
theorem playB_stable (S : Nat → Prop) (bd : Nat) (bw : Nat) (b : Nat) (off : Nat) (n1 : Nat) (c1 : Nat) (k : Nat) (x : Stp) (y : Nat) : ∀ i v w w', playB S bd bw b off n1 c1 k x y i v w → But S w w' → playB S bd bw b off n1 c1 k x y i v w'
  | 0, _, _, _, h, _ | 1, _, _, _, h, _ | 2, _, _, _, h, _ | 3, _, _, _, h, _ | 4, _, _, _, h, _ | 5, _, _, _, h, _ | 6, _, _, _, h, _ | 7, _, _, _, h, _ | 8, _, _, _, h, _ | 9, _, _, _, h, _ | 10, _, _, _, h, _ | 11, _, _, _, h, _ | 12, _, _, _, h, _ | 13, _, _, _, h, _ | 14, _, _, _, h, _ => h
  | _ + 15, _, _, _, h, _ => h
def playO (S : Nat → Prop) (bd : Nat) (bw : Nat) (b : Nat) (off : Nat) (n1 : Nat) (c1 : Nat) (k : Nat) (x : Stp) (xs : List Nat) : Nat → Value → World → Prop
  | 0, v, _ => v = .pointer (some ⟨bd, 0, none⟩)
  | 1, v, _ => v = .slice (some ⟨b, off, none⟩) n1 c1
  | 2, v, _ => v = .int .i64 (k : Int)
  | 3, v, _ => v = .pointer (some ⟨b, off + k * 3, none⟩)
  | 4, v, _ => v = .pointer (some ⟨b, off + k * 3 + 1, none⟩)
  | 5, v, _ => v = .int .i64 x.n
  | 6, v, w => ∃ A c, v = .slice A xs.length c ∧ RVn S w A xs.length (xs.map iV)
  | 7, v, _ => v = .pointer (some ⟨bw, 0, none⟩)
  | 8, v, _ => v = .slice (some ⟨b, off, none⟩) n1 c1
  | 9, v, _ => v = .int .i64 (k : Int)
  | 10, v, _ => v = .pointer (some ⟨b, off + k * 3, none⟩)
  | 11, v, _ => v = .pointer (some ⟨b, off + k * 3 + 1, none⟩)
  | 12, v, _ => v = .int .i64 x.n
  | 13, v, w => ∃ A c, v = .slice A xs.length c ∧ RVn S w A xs.length (xs.map iV)
  | 14, v, _ => v = .bool true
  | 15, v, _ => v = .bool false
  | _, _, _ => True
theorem playO_stable (S : Nat → Prop) (bd : Nat) (bw : Nat) (b : Nat) (off : Nat) (n1 : Nat) (c1 : Nat) (k : Nat) (x : Stp) (xs : List Nat) : ∀ i v w w', playO S bd bw b off n1 c1 k x xs i v w → But S w w' → playO S bd bw b off n1 c1 k x xs i v w'
  | 0, _, _, _, h, _ | 1, _, _, _, h, _ | 2, _, _, _, h, _ | 3, _, _, _, h, _ | 4, _, _, _, h, _ | 5, _, _, _, h, _ | 7, _, _, _, h, _ | 8, _, _, _, h, _ | 9, _, _, _, h, _ | 10, _, _, _, h, _ | 11, _, _, _, h, _ | 12, _, _, _, h, _ | 14, _, _, _, h, _ | 15, _, _, _, h, _ => h
  | 6, _, _, _, ⟨A, c, e, h⟩, g | 13, _, _, _, ⟨A, c, e, h⟩, g => ⟨A, c, e, h.but g⟩
  | _ + 16, _, _, _, h, _ => h
def playS (S : Nat → Prop) (bd : Nat) (bw : Nat) (b : Nat) (off : Nat) (n1 : Nat) (c1 : Nat) (k : Nat) (x : Stp) (xs : List Nat) : Nat → Value → World → Prop
  | 0, v, _ => v = .pointer (some ⟨bd, 0, none⟩)
  | 1, v, _ => v = .slice (some ⟨b, off, none⟩) n1 c1
  | 2, v, _ => v = .int .i64 (k : Int)
  | 3, v, _ => v = .pointer (some ⟨b, off + k * 3, none⟩)
  | 4, v, _ => v = .pointer (some ⟨b, off + k * 3 + 1, none⟩)
  | 5, v, _ => v = .int .i64 x.n
  | 6, v, _ => v = .slice (some ⟨b, off, none⟩) n1 c1
  | 7, v, _ => v = .int .i64 (k : Int)
  | 8, v, _ => v = .pointer (some ⟨b, off + k * 3, none⟩)
  | 9, v, _ => v = .pointer (some ⟨b, off + k * 3 + 2, none⟩)
  | 10, v, _ => v = .int .i64 x.k
  | 11, v, w => ∃ A c, v = .slice A xs.length c ∧ RVn S w A xs.length (xs.map iV)
  | 12, v, _ => v = .pointer (some ⟨bw, 0, none⟩)
  | 13, v, _ => v = .slice (some ⟨b, off, none⟩) n1 c1
  | 14, v, _ => v = .int .i64 (k : Int)
  | 15, v, _ => v = .pointer (some ⟨b, off + k * 3, none⟩)
  | 16, v, _ => v = .pointer (some ⟨b, off + k * 3 + 1, none⟩)
  | 17, v, _ => v = .int .i64 x.n
  | 18, v, _ => v = .slice (some ⟨b, off, none⟩) n1 c1
  | 19, v, _ => v = .int .i64 (k : Int)
  | 20, v, _ => v = .pointer (some ⟨b, off + k * 3, none⟩)
  | 21, v, _ => v = .pointer (some ⟨b, off + k * 3 + 2, none⟩)
  | 22, v, _ => v = .int .i64 x.k
  | 23, v, w => ∃ A c, v = .slice A xs.length c ∧ RVn S w A xs.length (xs.map iV)
  | 24, v, _ => v = .bool true
  | 25, v, _ => v = .bool false
  | _, _, _ => True
theorem playS_stable (S : Nat → Prop) (bd : Nat) (bw : Nat) (b : Nat) (off : Nat) (n1 : Nat) (c1 : Nat) (k : Nat) (x : Stp) (xs : List Nat) : ∀ i v w w', playS S bd bw b off n1 c1 k x xs i v w → But S w w' → playS S bd bw b off n1 c1 k x xs i v w'
  | 0, _, _, _, h, _ | 1, _, _, _, h, _ | 2, _, _, _, h, _ | 3, _, _, _, h, _ | 4, _, _, _, h, _ | 5, _, _, _, h, _ | 6, _, _, _, h, _ | 7, _, _, _, h, _ | 8, _, _, _, h, _ | 9, _, _, _, h, _ | 10, _, _, _, h, _ | 12, _, _, _, h, _ | 13, _, _, _, h, _ | 14, _, _, _, h, _ | 15, _, _, _, h, _ | 16, _, _, _, h, _ | 17, _, _, _, h, _ | 18, _, _, _, h, _ | 19, _, _, _, h, _ | 20, _, _, _, h, _ | 21, _, _, _, h, _ | 22, _, _, _, h, _ | 24, _, _, _, h, _ | 25, _, _, _, h, _ => h
  | 11, _, _, _, ⟨A, c, e, h⟩, g | 23, _, _, _, ⟨A, c, e, h⟩, g => ⟨A, c, e, h.but g⟩
  | _ + 26, _, _, _, h, _ => h
def playT (_ : Nat → Prop) (bd : Nat) (bw : Nat) (L : Nat) (T : Nat) : Nat → Value → World → Prop
  | 0, v, _ => v = .pointer (some ⟨bd, 0, none⟩)
  | 1, v, _ => v = .int .i64 (T : Int)
  | 2, v, _ => v = .pointer (some ⟨bw, 0, none⟩)
  | 3, v, _ => v = .pointer (some ⟨bw, 0, none⟩)
  | 4, v, _ => v = .pointer (some ⟨bw, 1, none⟩)
  | 5, v, _ => v = .int .i64 (T : Int)
  | 6, v, _ => v = .bool false
  | 7, v, _ => v = .bool false
  | 8, v, _ => v = .pointer (some ⟨bd, 0, none⟩)
  | 9, v, _ => v = .int .i64 (L : Int)
  | 10, v, _ => v = .pointer (some ⟨bw, 0, none⟩)
  | 11, v, _ => v = .pointer (some ⟨bw, 0, none⟩)
  | 12, v, _ => v = .pointer (some ⟨bw, 0, none⟩)
  | 13, v, _ => ∃ A c, v = .slice A (L + T) c
  | 14, v, _ => v = .int .i64 ((L : Int) + (T : Int))
  | 15, v, _ => v = .pointer (some ⟨bw, 0, none⟩)
  | 16, v, _ => v = .pointer (some ⟨bw, 0, none⟩)
  | 17, v, _ => v = .pointer (some ⟨bw, 1, none⟩)
  | 18, v, _ => v = .int .i64 (T : Int)
  | 19, v, _ => v = .int .i64 (L : Int)
  | 20, v, _ => v = .bool false
  | 21, v, _ => v = .bool false
  | _, _, _ => True
theorem playT_stable (S : Nat → Prop) (bd : Nat) (bw : Nat) (L : Nat) (T : Nat) : ∀ i v w w', playT S bd bw L T i v w → But S w w' → playT S bd bw L T i v w'
  | 0, _, _, _, h, _ | 1, _, _, _, h, _ | 2, _, _, _, h, _ | 3, _, _, _, h, _ | 4, _, _, _, h, _ | 5, _, _, _, h, _ | 6, _, _, _, h, _ | 7, _, _, _, h, _ | 8, _, _, _, h, _ | 9, _, _, _, h, _ | 10, _, _, _, h, _ | 11, _, _, _, h, _ | 12, _, _, _, h, _ | 13, _, _, _, h, _ | 14, _, _, _, h, _ | 15, _, _, _, h, _ | 16, _, _, _, h, _ | 17, _, _, _, h, _ | 18, _, _, _, h, _ | 19, _, _, _, h, _ | 20, _, _, _, h, _ | 21, _, _, _, h, _ => h
  | _ + 22, _, _, _, h, _ => h

set_option maxHeartbeats 16000000 in
set_option maxRecDepth 100000 in
theorem plays_walk (A : Option Addr) (n c : Nat) (xs : List Nat) (A1 : Option Addr) (n1 c1 : Nat) (ss : List Stp) (w : World) (hR : RV w A n (xs.map u32V)) (hnil : A = none → c = 0) (hnc : n ≤ c) (hcm : c ≤ maxLen) (hn : n ≤ 35184372088832) (hx : ∀ x ∈ xs, x < 4294967296) (hS : SStp w A1 n1 ss) (hok : ∀ x ∈ ss, okStp x) (hn1 : n1 ≤ maxLen) :
    Calls Try.prog 3 #[.slice A n c, .slice A1 n1 c1] w fun e w' => e = .returned (.bool true) ∧ Below w.heap.size w w' := by
  have hcm' := hcm
  unfold maxLen at hn1 hcm
  have s1 := new_any A n c xs w hR hnil hnc hn hx
  have S1 := Lib.hid s1
  have HSS := Lib.hid hS
  have HSl := Lib.hid hS.1
  have HOK := Lib.hid hok
  have HR := Lib.hid hR
  have HX := Lib.hid hx
  have HCm := Lib.hid hcm'
  have HWk := Lib.hid (fun w => works_any w)
  obtain ⟨d0, hd0⟩ : ∃ d0 : Dr, ⟨xs.take 4096, 0⟩ = d0 := ⟨_, rfl⟩
  have HD0 := Lib.hid hd0
  rw [hd0] at S1
  clear s1 hR hx hS hok hnil hd0 hcm'
  go_enter Try.func3, Try.ntmps3
  go_wp2_with fail
  refine S1.out.mono ?_
  rintro e w1 ⟨bd, rfl, hbd, hbdl, hd1, hb1⟩
  have HD1 := Lib.hid hd1
  have HB1 := Lib.hid hb1
  have HROut : Hid (∀ b off, A = some ⟨b, off, none⟩ → 0 < n → ¬ w.heap.size ≤ b) := Lib.hid (fun b off e h0 => by
    obtain ⟨b', off', e', hlt, _⟩ := HR.out.2 h0
    rw [e] at e'
    simp only [Option.some.injEq, Addr.mk.injEq] at e'
    omega)
  have s2 := rnew_any (fun k => w.heap.size ≤ k) A n c xs w1 ⟨HR.out.below hb1, HROut.out⟩ hnc HCm.out HX.out
  rw [HD0.out] at s2
  have S2 := Lib.hid s2
  clear s2 hd1 hb1 S1
  go_wp2_with fail
  refine S2.out.mono ?_
  rintro e w2 ⟨bw, rfl, hbw, hbwl, hd2, hb2⟩
  obtain ⟨S, hSS⟩ : ∃ S : Nat → Prop, (fun k => k = bd ∨ k = bw) = S := ⟨_, rfl⟩
  have HT : Hid ((∀ k, Tgt (.pointer (some ⟨bd, 0, none⟩)) k → S k) ∧ (∀ k, k = bw → S k)) := Lib.hid (by rw [← hSS]; exact ⟨fun k h => .inl (tgt_eq h), fun k h => .inr h⟩)
  have HNe : Hid (bd ≠ bw) := Lib.hid (by omega)
  have HSlt : Hid (∀ k, S k → k < w2.heap.size) := Lib.hid (by rw [← hSS]; rintro k (rfl | rfl) <;> omega)
  have HSold : Hid (∀ k, k < w.heap.size → ¬ S k) := Lib.hid (by rw [← hSS]; rintro k hk (h | h) <;> omega)
  have HDa : Hid (DwAt S w2 (.pointer (some ⟨bd, 0, none⟩)) d0) := Lib.hid ((HD1.out.narrow (S' := S) (by rw [← hSS]; rintro k hk (h | h); exact .inr h; omega) HT.out.1).below hb2)
  have HDb : Hid (RwAt S w2 bw d0) := Lib.hid (hd2.narrow (by rw [← hSS]; rintro k hk (h | h); exact .inl (by omega); exact .inl (by omega)) (HT.out.2 _ rfl))
  have HB2 : Hid (Below w.heap.size w w2) := Lib.hid (HB1.out.trans (hb2.mono HB1.out.size))
  clear hd2 hb2 hSS HD1 S2
  go_wp2
  go_loopw [7] (fun kv wr => ∃ (k : Nat) (d : Dr), k ≤ n1 ∧ k ≤ 60 ∧ kv = .int .i64 (k : Int) ∧ Hid (BothD S bd bw d wr) ∧ Hid (But S w2 wr)) (fun kv _ => 60 - (intOf kv).toNat)
  case atStart => exact ⟨0, d0, Nat.zero_le _, by omega, rfl, Lib.hid ⟨HDa.out, HDb.out⟩, Lib.hid (But.refl _ _)⟩
  case round =>
    obtain ⟨k, d, hk, hk60, rfl, hboth, hbut⟩ := hrel
    by_cases hlt : k < n1 ∧ k < 60
    · obtain ⟨hlt1, hlt2⟩ := hlt
      have hk' : k < ss.length := by rw [HSl.out]; exact hlt1
      obtain ⟨b, off, rfl, hbl, hat⟩ := HSS.out.2 (by omega)
      have hx := hat k hk'
      obtain ⟨x, hxx⟩ : ∃ x, ss[k] = x := ⟨_, rfl⟩
      have hokx : okStp x := by rw [← hxx]; exact HOK.out _ (List.getElem_mem hk')
      rw [hxx] at hx
      have HSt : Hid (∀ w', But S wr w' → StpAt w' b (off + k * 3) x) := Lib.hid (fun w' h => by
        have h1 := HB2.out.size
        exact hx.of_block (((hbut.out.trans h).block b (by omega) (HSold.out b hbl)).trans (HB2.out.block b hbl)))
      obtain ⟨d', hd'⟩ : ∃ d', stepD x d = d' := ⟨_, rfl⟩
      have HK : Hid ((0 : Int) ≤ (k : Int) ∧ (k : Int) < (n1 : Int)) := Lib.hid ⟨by omega, by omega⟩
      have HSlt' : Hid (∀ k, S k → k < wr.heap.size) := Lib.hid (fun k h => by have := HSlt.out k h; have := hbut.out.size; omega)
      have hn63 := hokx.2.1.2
      have ck := (hx.of_block (((hbut.out).block b (by have h1 := HB2.out.size; omega) (HSold.out b hbl)).trans (HB2.out.block b hbl))).1
      obtain ⟨T, hTT⟩ : ∃ T, d'.at_ = T := ⟨_, rfl⟩
      obtain ⟨L, hLL⟩ : ∃ L, d'.l.length - d'.at_ = L := ⟨_, rfl⟩
      have hokd' : okD d' := by
        have h0 := hboth.out.1.1
        rw [← hd', stepD]
        split
        · exact h0.next _
        · split
          · exact okD.afterO h0 _
          · split
            · exact okD.afterO h0 _
            · exact h0
      have hLT : d'.l.length = L + T := by have := hokd'.2.2; omega
      have hLT4 : L + T ≤ 4096 := by have := hokd'.2.1; omega
      have HTT := Lib.hid hTT
      have HLL := Lib.hid hLL
      have HLT := Lib.hid hLT
      have q1 := HK.out.1
      have q2 := HK.out.2
      have HHd := Lib.hid hd'
      have HHx := Lib.hid hx
      clear hat hx hxx hokx hk' hTT hLL hokd' hLT hd'
      have hk4 : x.kind = 0 ∨ x.kind = 1 ∨ x.kind = 2 ∨ (x.kind ≠ 0 ∧ x.kind ≠ 1 ∧ x.kind ≠ 2) := by omega
      rcases hk4 with hkd | hkd | hkd | ⟨hkd, hkd1, hkd2⟩
      · have hnx : d.next x.n = d' := by rw [← HHd.out, stepD]; simp [hkd]
        obtain ⟨y, hv⟩ : ∃ v, d.below x.n = v := ⟨_, rfl⟩
        have HCall : Hid ((∀ w', DwAt S w' (.pointer (some ⟨bd, 0, none⟩)) d → Calls Try.prog 10 #[.pointer (some ⟨bd, 0, none⟩), .int .i64 x.n] w' fun e w2 => e = .returned (.int .i64 (y : Int)) ∧ DwAt S w2 (.pointer (some ⟨bd, 0, none⟩)) d' ∧ But (Tgt (.pointer (some ⟨bd, 0, none⟩))) w' w2) ∧
          (∀ w', RwAt S w' bw d → Calls Try.prog 11 #[.pointer (some ⟨bw, 0, none⟩), .int .i64 x.n] w' fun e w2 => e = .returned (.int .i64 (y : Int)) ∧ RwAt S w2 bw d' ∧ But (· = bw) w' w2)) := Lib.hid ⟨fun w' h => by rw [← hnx, ← hv]; exact below_any S _ d x.n w' h hn63, fun w' h => by rw [← hnx, ← hv]; exact rbelow_any S _ d x.n w' h hn63⟩
        rw [hkd] at ck
        clear hnx hv hkd hn63
        go_wp2
        refine Go.Rel.wp_region_states (by kernel_rfl) (by kernel_rfl) (by kernel_rfl) (by kernel_rfl) (fun f w => DwAt S w (.pointer (some ⟨bd, 0, none⟩)) (bif f 6 then d' else d) ∧ RwAt S w bw (bif f 13 then d' else d)) (But S) (fun _ _ _ h k => h.trans k) ((But.refl _ _).drew) hboth.out (playB S bd bw b off n1 c1 k x y) (playB_stable S bd bw b off n1 c1 k x y) ?hsteps ?hend
        case hsteps =>
          refine (.cons ?_ (.cons ?_ (.cons ?_ (.cons ?_ (.cons ?_ (.cons ?_ (.cons ?_ (.cons ?_ (.cons ?_ (.cons ?_ (.cons ?_ (.cons ?_ (.cons ?_ (.cons ?_ (.cons ?_ .nil)))))))))))))))
          · intro f a w' hI hf hanc hdesc hle hs' hd K hK
            have f5 : a.tmps[5]? = some (.pointer (some ⟨bd, 0, none⟩)) := hs'.2.2 5 (by kernel_rfl)
            unfold Go.Rel.stepOf
            go_simp
            exact hK _ _ (But.refl _ _) (hI) rfl
          · intro f a w' hI hf hanc hdesc hle hs' hd K hK
            have f1 : a.tmps[1]? = some (.slice (some ⟨b, off, none⟩) n1 c1) := hs'.2.2 1 (by kernel_rfl)
            unfold Go.Rel.stepOf
            go_simp
            exact hK _ _ (But.refl _ _) (hI) rfl
          · intro f a w' hI hf hanc hdesc hle hs' hd K hK
            have f7 : a.tmps[7]? = some (.int .i64 (k : Int)) := hs'.2.2 7 (by kernel_rfl)
            unfold Go.Rel.stepOf
            go_simp
            exact hK _ _ (But.refl _ _) (hI) rfl
          · intro f a w' hI hf hanc hdesc hle hs' hd K hK
            obtain ⟨_, t1, rfl⟩ := hd 1 32 (by kernel_rfl)
            obtain ⟨_, t2, rfl⟩ := hd 2 33 (by kernel_rfl)
            have q1 := HK.out.1
            have q2 := HK.out.2
            unfold Go.Rel.stepOf
            go_simp
            exact hK _ _ (But.refl _ _) (hI) rfl
          · intro f a w' hI hf hanc hdesc hle hs' hd K hK
            obtain ⟨_, t3, rfl⟩ := hd 3 34 (by kernel_rfl)
            unfold Go.Rel.stepOf
            go_simp
            exact hK _ _ (But.refl _ _) (hI) rfl
          · intro f a w' hI hf hanc hdesc hle hs' hd K hK
            obtain ⟨_, t4, rfl⟩ := hd 4 35 (by kernel_rfl)
            have cc := (HSt.out w' hle).2.1
            unfold Go.Rel.stepOf
            go_simp
            exact hK _ _ (But.refl _ _) (hI) rfl
          · intro f a w' hI hf hanc hdesc hle hs' hd K hK
            obtain ⟨_, t0, rfl⟩ := hd 0 31 (by kernel_rfl)
            obtain ⟨_, t5, rfl⟩ := hd 5 36 (by kernel_rfl)
            have hst := hI.1
            rw [hf] at hst
            unfold Go.Rel.stepOf
            go_simp
            refine (HCall.out.1 w' hst).mono ?_
            rintro e w2 ⟨rfl, hr5, hb5⟩
            have hbS : But S w' w2 := hb5.mono HT.out.1
            exact hK _ _ hbS ⟨hr5, hI.2.but hb5 HT.out.1 (fun h => HNe.out (tgt_eq h).symm)⟩ rfl
          · intro f a w' hI hf hanc hdesc hle hs' hd K hK
            have f6 : a.tmps[6]? = some (.pointer (some ⟨bw, 0, none⟩)) := hs'.2.2 6 (by kernel_rfl)
            unfold Go.Rel.stepOf
            go_simp
            exact hK _ _ (But.refl _ _) (hI) rfl
          · intro f a w' hI hf hanc hdesc hle hs' hd K hK
            have f1 : a.tmps[1]? = some (.slice (some ⟨b, off, none⟩) n1 c1) := hs'.2.2 1 (by kernel_rfl)
            unfold Go.Rel.stepOf
            go_simp
            exact hK _ _ (But.refl _ _) (hI) rfl
          · intro f a w' hI hf hanc hdesc hle hs' hd K hK
            have f7 : a.tmps[7]? = some (.int .i64 (k : Int)) := hs'.2.2 7 (by kernel_rfl)
            unfold Go.Rel.stepOf
            go_simp
            exact hK _ _ (But.refl _ _) (hI) rfl
          · intro f a w' hI hf hanc hdesc hle hs' hd K hK
            obtain ⟨_, t8, rfl⟩ := hd 8 39 (by kernel_rfl)
            obtain ⟨_, t9, rfl⟩ := hd 9 40 (by kernel_rfl)
            have q1 := HK.out.1
            have q2 := HK.out.2
            unfold Go.Rel.stepOf
            go_simp
            exact hK _ _ (But.refl _ _) (hI) rfl
          · intro f a w' hI hf hanc hdesc hle hs' hd K hK
            obtain ⟨_, t10, rfl⟩ := hd 10 41 (by kernel_rfl)
            unfold Go.Rel.stepOf
            go_simp
            exact hK _ _ (But.refl _ _) (hI) rfl
          · intro f a w' hI hf hanc hdesc hle hs' hd K hK
            obtain ⟨_, t11, rfl⟩ := hd 11 42 (by kernel_rfl)
            have cc := (HSt.out w' hle).2.1
            unfold Go.Rel.stepOf
            go_simp
            exact hK _ _ (But.refl _ _) (hI) rfl
          · intro f a w' hI hf hanc hdesc hle hs' hd K hK
            obtain ⟨_, t7, rfl⟩ := hd 7 38 (by kernel_rfl)
            obtain ⟨_, t12, rfl⟩ := hd 12 43 (by kernel_rfl)
            have hst := hI.2
            rw [hf] at hst
            unfold Go.Rel.stepOf
            go_simp
            refine (HCall.out.2 w' hst).mono ?_
            rintro e w2 ⟨rfl, hr5, hb5⟩
            have hbS : But S w' w2 := hb5.mono HT.out.2
            exact hK _ _ hbS ⟨hI.1.but hb5 HT.out.2 (fun k e h => HNe.out ((tgt_eq h).symm.trans e)), hr5⟩ rfl
          · intro f a w' hI hf hanc hdesc hle hs' hd K hK
            obtain ⟨_, t6, rfl⟩ := hd 6 37 (by kernel_rfl)
            obtain ⟨_, t13, rfl⟩ := hd 13 44 (by kernel_rfl)
            unfold Go.Rel.stepOf
            go_simp
            exact hK _ _ (But.refl _ _) (hI) rfl
        case hend =>
          intro f a w3 hall hI hle hs' hR'
          have hf1 := hall 6 (by decide)
          have hf2 := hall 13 (by decide)
          have hI' : Hid (BothD S bd bw d' w3) := Lib.hid (by
            have h := hI
            simp only [hf1, hf2, cond_true] at h
            exact h)
          have HBF : Hid (But S w2 w3) := Lib.hid (hbut.out.trans hle)
          clear hI hall hf1 hf2 hle
          obtain ⟨v31, s31, _⟩ := hR' 0 31 (by kernel_rfl)
          obtain ⟨v32, s32, _⟩ := hR' 1 32 (by kernel_rfl)
          obtain ⟨v33, s33, _⟩ := hR' 2 33 (by kernel_rfl)
          obtain ⟨v34, s34, _⟩ := hR' 3 34 (by kernel_rfl)
          obtain ⟨v35, s35, _⟩ := hR' 4 35 (by kernel_rfl)
          obtain ⟨v36, s36, _⟩ := hR' 5 36 (by kernel_rfl)
          obtain ⟨v37, s37, _⟩ := hR' 6 37 (by kernel_rfl)
          obtain ⟨v38, s38, _⟩ := hR' 7 38 (by kernel_rfl)
          obtain ⟨v39, s39, _⟩ := hR' 8 39 (by kernel_rfl)
          obtain ⟨v40, s40, _⟩ := hR' 9 40 (by kernel_rfl)
          obtain ⟨v41, s41, _⟩ := hR' 10 41 (by kernel_rfl)
          obtain ⟨v42, s42, _⟩ := hR' 11 42 (by kernel_rfl)
          obtain ⟨v43, s43, _⟩ := hR' 12 43 (by kernel_rfl)
          obtain ⟨v44, s44, _⟩ := hR' 13 44 (by kernel_rfl)
          obtain ⟨_, s45, rfl⟩ := hR' 14 45 (by kernel_rfl)
          have e := hs'.shape
          simp only [List.toList_toArray, List.foldl, Go.Rel.reset, Array.getD_eq_getD_getElem?, s31, s32, s33, s34, s35, s36, s37, s38, s39, s40, s41, s42, s43, s44, s45, Option.getD_some] at e
          simp at e
          clear hR' hs' s31 s32 s33 s34 s35 s36 s37 s38 s39 s40 s41 s42 s43 s44 s45
          subst e
          go_wp2
          refine Go.Rel.wp_region_states (by kernel_rfl) (by kernel_rfl) (by kernel_rfl) (by kernel_rfl) (fun _ w => BothD S bd bw d' w) (But S) (fun _ _ _ h k => h.trans k) ((But.refl _ _).drew) hI'.out (playT S bd bw L T) (playT_stable S bd bw L T) ?hsteps2 ?hend2
          case hsteps2 =>
            refine (.cons ?_ (.cons ?_ (.cons ?_ (.cons ?_ (.cons ?_ (.cons ?_ (.cons ?_ (.cons ?_ (.cons ?_ (.cons ?_ (.cons ?_ (.cons ?_ (.cons ?_ (.cons ?_ (.cons ?_ (.cons ?_ (.cons ?_ (.cons ?_ (.cons ?_ (.cons ?_ (.cons ?_ (.cons ?_ .nil))))))))))))))))))))))
            · intro f a w' hI hf hanc hdesc hle hs' hd K hK
              have f5 : a.tmps[5]? = some (.pointer (some ⟨bd, 0, none⟩)) := hs'.2.2 5 (by kernel_rfl)
              unfold Go.Rel.stepOf
              go_simp
              exact hK _ _ (But.refl _ _) (hI) rfl
            · intro f a w' hI hf hanc hdesc hle hs' hd K hK
              obtain ⟨_, t0, rfl⟩ := hd 0 92 (by kernel_rfl)
              unfold Go.Rel.stepOf
              go_simp
              refine (taken_of S _ _ w' hI.1 HTT.out).mono ?_
              rintro e w2 ⟨rfl, rfl⟩
              exact hK _ _ (But.refl _ _) hI rfl
            · intro f a w' hI hf hanc hdesc hle hs' hd K hK
              have f6 : a.tmps[6]? = some (.pointer (some ⟨bw, 0, none⟩)) := hs'.2.2 6 (by kernel_rfl)
              unfold Go.Rel.stepOf
              go_simp
              exact hK _ _ (But.refl _ _) (hI) rfl
            · intro f a w' hI hf hanc hdesc hle hs' hd K hK
              obtain ⟨_, t2, rfl⟩ := hd 2 94 (by kernel_rfl)
              unfold Go.Rel.stepOf
              go_simp
              exact hK _ _ (But.refl _ _) (hI) rfl
            · intro f a w' hI hf hanc hdesc hle hs' hd K hK
              obtain ⟨_, t3, rfl⟩ := hd 3 95 (by kernel_rfl)
              unfold Go.Rel.stepOf
              go_simp
              exact hK _ _ (But.refl _ _) (hI) rfl
            · intro f a w' hI hf hanc hdesc hle hs' hd K hK
              obtain ⟨_, t4, rfl⟩ := hd 4 96 (by kernel_rfl)
              have cc := (rw_cells hI.2).2
              rw [HTT.out] at cc
              unfold Go.Rel.stepOf
              go_simp
              exact hK _ _ (But.refl _ _) (hI) rfl
            · intro f a w' hI hf hanc hdesc hle hs' hd K hK
              obtain ⟨_, t1, rfl⟩ := hd 1 93 (by kernel_rfl)
              obtain ⟨_, t5, rfl⟩ := hd 5 97 (by kernel_rfl)
              unfold Go.Rel.stepOf
              go_simp
              exact hK _ _ (But.refl _ _) (hI) rfl
            · intro f a w' hI hf hanc hdesc hle hs' hd K hK
              obtain ⟨_, t6, rfl⟩ := hd 6 98 (by kernel_rfl)
              unfold Go.Rel.stepOf
              go_simp
              exact hK _ _ (But.refl _ _) (hI) rfl
            · intro f a w' hI hf hanc hdesc hle hs' hd K hK
              obtain ⟨_, tg, rfl⟩ := hd 7 99 (by kernel_rfl)
              have f5 : a.tmps[5]? = some (.pointer (some ⟨bd, 0, none⟩)) := hs'.2.2 5 (by kernel_rfl)
              unfold Go.Rel.stepOf
              go_simp
              exact hK _ _ (But.refl _ _) (hI) rfl
            · intro f a w' hI hf hanc hdesc hle hs' hd K hK
              obtain ⟨_, tg, rfl⟩ := hd 7 99 (by kernel_rfl)
              obtain ⟨_, t8, rfl⟩ := hd 8 100 (by kernel_rfl)
              unfold Go.Rel.stepOf
              go_simp
              refine (left_of S _ _ w' hI.1 HLL.out).mono ?_
              rintro e w2 ⟨rfl, rfl⟩
              exact hK _ _ (But.refl _ _) hI rfl
            · intro f a w' hI hf hanc hdesc hle hs' hd K hK
              obtain ⟨_, tg, rfl⟩ := hd 7 99 (by kernel_rfl)
              have f6 : a.tmps[6]? = some (.pointer (some ⟨bw, 0, none⟩)) := hs'.2.2 6 (by kernel_rfl)
              unfold Go.Rel.stepOf
              go_simp
              exact hK _ _ (But.refl _ _) (hI) rfl
            · intro f a w' hI hf hanc hdesc hle hs' hd K hK
              obtain ⟨_, tg, rfl⟩ := hd 7 99 (by kernel_rfl)
              obtain ⟨_, t10, rfl⟩ := hd 10 102 (by kernel_rfl)
              unfold Go.Rel.stepOf
              go_simp
              exact hK _ _ (But.refl _ _) (hI) rfl
            · intro f a w' hI hf hanc hdesc hle hs' hd K hK
              obtain ⟨_, tg, rfl⟩ := hd 7 99 (by kernel_rfl)
              obtain ⟨_, t11, rfl⟩ := hd 11 103 (by kernel_rfl)
              unfold Go.Rel.stepOf
              go_simp
              exact hK _ _ (But.refl _ _) (hI) rfl
            · intro f a w' hI hf hanc hdesc hle hs' hd K hK
              obtain ⟨_, tg, rfl⟩ := hd 7 99 (by kernel_rfl)
              obtain ⟨_, t12, rfl⟩ := hd 12 104 (by kernel_rfl)
              obtain ⟨⟨A9, c9, cc⟩, _⟩ := rw_cells hI.2
              rw [HLT.out] at cc
              unfold Go.Rel.stepOf
              go_simp
              exact hK _ _ (But.refl _ _) hI ⟨_, _, rfl⟩
            · intro f a w' hI hf hanc hdesc hle hs' hd K hK
              obtain ⟨_, tg, rfl⟩ := hd 7 99 (by kernel_rfl)
              obtain ⟨_, t13, A13, c13, rfl⟩ := hd 13 105 (by kernel_rfl)
              unfold Go.Rel.stepOf
              go_simp
              exact hK _ _ (But.refl _ _) (hI) rfl
            · intro f a w' hI hf hanc hdesc hle hs' hd K hK
              obtain ⟨_, tg, rfl⟩ := hd 7 99 (by kernel_rfl)
              have f6 : a.tmps[6]? = some (.pointer (some ⟨bw, 0, none⟩)) := hs'.2.2 6 (by kernel_rfl)
              unfold Go.Rel.stepOf
              go_simp
              exact hK _ _ (But.refl _ _) (hI) rfl
            · intro f a w' hI hf hanc hdesc hle hs' hd K hK
              obtain ⟨_, tg, rfl⟩ := hd 7 99 (by kernel_rfl)
              obtain ⟨_, t15, rfl⟩ := hd 15 107 (by kernel_rfl)
              unfold Go.Rel.stepOf
              go_simp
              exact hK _ _ (But.refl _ _) (hI) rfl
            · intro f a w' hI hf hanc hdesc hle hs' hd K hK
              obtain ⟨_, tg, rfl⟩ := hd 7 99 (by kernel_rfl)
              obtain ⟨_, t16, rfl⟩ := hd 16 108 (by kernel_rfl)
              unfold Go.Rel.stepOf
              go_simp
              exact hK _ _ (But.refl _ _) (hI) rfl
            · intro f a w' hI hf hanc hdesc hle hs' hd K hK
              obtain ⟨_, tg, rfl⟩ := hd 7 99 (by kernel_rfl)
              obtain ⟨_, t17, rfl⟩ := hd 17 109 (by kernel_rfl)
              have cc := (rw_cells hI.2).2
              rw [HTT.out] at cc
              unfold Go.Rel.stepOf
              go_simp
              exact hK _ _ (But.refl _ _) (hI) rfl
            · intro f a w' hI hf hanc hdesc hle hs' hd K hK
              obtain ⟨_, tg, rfl⟩ := hd 7 99 (by kernel_rfl)
              obtain ⟨_, t14, rfl⟩ := hd 14 106 (by kernel_rfl)
              obtain ⟨_, t18, rfl⟩ := hd 18 110 (by kernel_rfl)
              have hwr : IntKind.i64.wrap (L : Int) = (L : Int) := IntWalk.i64_in _ (by omega)
              unfold Go.Rel.stepOf
              go_simp
              exact hK _ _ (But.refl _ _) (hI) rfl
            · intro f a w' hI hf hanc hdesc hle hs' hd K hK
              obtain ⟨_, tg, rfl⟩ := hd 7 99 (by kernel_rfl)
              obtain ⟨_, t9, rfl⟩ := hd 9 101 (by kernel_rfl)
              obtain ⟨_, t19, rfl⟩ := hd 19 111 (by kernel_rfl)
              unfold Go.Rel.stepOf
              go_simp
              exact hK _ _ (But.refl _ _) (hI) rfl
            · intro f a w' hI hf hanc hdesc hle hs' hd K hK
              obtain ⟨_, t7, rfl⟩ := hd 7 99 (by kernel_rfl)
              obtain ⟨_, t20, rfl⟩ := hd 20 112 (by kernel_rfl)
              unfold Go.Rel.stepOf
              go_simp
              exact hK _ _ (But.refl _ _) (hI) rfl
          case hend2 =>
            intro f a w4 hall hI hle hs' hR'
            have hI2 := Lib.hid hI
            have HBF2 : Hid (But S w2 w4) := Lib.hid (HBF.out.trans hle)
            clear hI hall hle
            obtain ⟨v92, s92, _⟩ := hR' 0 92 (by kernel_rfl)
            obtain ⟨v93, s93, _⟩ := hR' 1 93 (by kernel_rfl)
            obtain ⟨v94, s94, _⟩ := hR' 2 94 (by kernel_rfl)
            obtain ⟨v95, s95, _⟩ := hR' 3 95 (by kernel_rfl)
            obtain ⟨v96, s96, _⟩ := hR' 4 96 (by kernel_rfl)
            obtain ⟨v97, s97, _⟩ := hR' 5 97 (by kernel_rfl)
            obtain ⟨v98, s98, _⟩ := hR' 6 98 (by kernel_rfl)
            obtain ⟨v99, s99, _⟩ := hR' 7 99 (by kernel_rfl)
            obtain ⟨v100, s100, _⟩ := hR' 8 100 (by kernel_rfl)
            obtain ⟨v101, s101, _⟩ := hR' 9 101 (by kernel_rfl)
            obtain ⟨v102, s102, _⟩ := hR' 10 102 (by kernel_rfl)
            obtain ⟨v103, s103, _⟩ := hR' 11 103 (by kernel_rfl)
            obtain ⟨v104, s104, _⟩ := hR' 12 104 (by kernel_rfl)
            obtain ⟨v105, s105, _⟩ := hR' 13 105 (by kernel_rfl)
            obtain ⟨v106, s106, _⟩ := hR' 14 106 (by kernel_rfl)
            obtain ⟨v107, s107, _⟩ := hR' 15 107 (by kernel_rfl)
            obtain ⟨v108, s108, _⟩ := hR' 16 108 (by kernel_rfl)
            obtain ⟨v109, s109, _⟩ := hR' 17 109 (by kernel_rfl)
            obtain ⟨v110, s110, _⟩ := hR' 18 110 (by kernel_rfl)
            obtain ⟨v111, s111, _⟩ := hR' 19 111 (by kernel_rfl)
            obtain ⟨v112, s112, _⟩ := hR' 20 112 (by kernel_rfl)
            obtain ⟨_, s113, rfl⟩ := hR' 21 113 (by kernel_rfl)
            have e := hs'.shape
            simp only [List.toList_toArray, List.foldl, Go.Rel.reset, Array.getD_eq_getD_getElem?, s92, s93, s94, s95, s96, s97, s98, s99, s100, s101, s102, s103, s104, s105, s106, s107, s108, s109, s110, s111, s112, s113, Option.getD_some] at e
            simp at e
            clear hR' hs' s92 s93 s94 s95 s96 s97 s98 s99 s100 s101 s102 s103 s104 s105 s106 s107 s108 s109 s110 s111 s112 s113
            subst e
            go_wp2
            go_roundw
            case rel => exact ⟨k + 1, d', by omega, by omega, by go_num, hI2, HBF2⟩
            case measure => simp [intOf]; omega
      · have hnx : d.afterO x.n = d' := by rw [← HHd.out, stepD]; simp [hkd]
        obtain ⟨xs, hv⟩ : ∃ v, d.order x.n = v := ⟨_, rfl⟩
        have HCall : Hid ((∀ w', DwAt S w' (.pointer (some ⟨bd, 0, none⟩)) d → Calls Try.prog 13 #[.pointer (some ⟨bd, 0, none⟩), .int .i64 x.n] w' fun e w2 => RowOf w' xs e w2 ∧ DwAt S w2 (.pointer (some ⟨bd, 0, none⟩)) d' ∧ But (Tgt (.pointer (some ⟨bd, 0, none⟩))) w' w2) ∧
          (∀ w', RwAt S w' bw d → Calls Try.prog 14 #[.pointer (some ⟨bw, 0, none⟩), .int .i64 x.n] w' fun e w2 => RowOf w' xs e w2 ∧ RwAt S w2 bw d' ∧ But (· = bw) w' w2)) := Lib.hid ⟨fun w' h => by rw [← hnx, ← hv]; exact order_any S _ d x.n w' h, fun w' h => by rw [← hnx, ← hv]; exact rorder_any S _ d x.n w' h⟩
        have HLen : Hid (xs.length ≤ 140737488355328) := Lib.hid (by
          have h1 := order_length x.n d
          have h2 := sizeO_le x.n
          rw [← hv]
          omega)
        have HSame : Hid (∀ A B c d w', RV w' A xs.length (xs.map iV) → RV w' B xs.length (xs.map iV) → Calls Try.prog 12 #[.slice A xs.length c, .slice B xs.length d] w' fun e w2 => e = .returned (.bool true) ∧ Below w'.heap.size w' w2) := Lib.hid (fun A B c d w' h h' => same_any A B _ c d xs w' h h' HLen.out)
        rw [hkd] at ck
        clear hnx hv hkd hn63 HLen
        go_wp2
        refine Go.Rel.wp_region_states (by kernel_rfl) (by kernel_rfl) (by kernel_rfl) (by kernel_rfl) (fun f w => DwAt S w (.pointer (some ⟨bd, 0, none⟩)) (bif f 6 then d' else d) ∧ RwAt S w bw (bif f 13 then d' else d)) (But S) (fun _ _ _ h k => h.trans k) ((But.refl _ _).drew) hboth.out (playO S bd bw b off n1 c1 k x xs) (playO_stable S bd bw b off n1 c1 k x xs) ?hsteps ?hend
        case hsteps =>
          refine (.cons ?_ (.cons ?_ (.cons ?_ (.cons ?_ (.cons ?_ (.cons ?_ (.cons ?_ (.cons ?_ (.cons ?_ (.cons ?_ (.cons ?_ (.cons ?_ (.cons ?_ (.cons ?_ (.cons ?_ (.cons ?_ .nil))))))))))))))))
          · intro f a w' hI hf hanc hdesc hle hs' hd K hK
            have f5 : a.tmps[5]? = some (.pointer (some ⟨bd, 0, none⟩)) := hs'.2.2 5 (by kernel_rfl)
            unfold Go.Rel.stepOf
            go_simp
            exact hK _ _ (But.refl _ _) (hI) rfl
          · intro f a w' hI hf hanc hdesc hle hs' hd K hK
            have f1 : a.tmps[1]? = some (.slice (some ⟨b, off, none⟩) n1 c1) := hs'.2.2 1 (by kernel_rfl)
            unfold Go.Rel.stepOf
            go_simp
            exact hK _ _ (But.refl _ _) (hI) rfl
          · intro f a w' hI hf hanc hdesc hle hs' hd K hK
            have f7 : a.tmps[7]? = some (.int .i64 (k : Int)) := hs'.2.2 7 (by kernel_rfl)
            unfold Go.Rel.stepOf
            go_simp
            exact hK _ _ (But.refl _ _) (hI) rfl
          · intro f a w' hI hf hanc hdesc hle hs' hd K hK
            obtain ⟨_, t1, rfl⟩ := hd 1 49 (by kernel_rfl)
            obtain ⟨_, t2, rfl⟩ := hd 2 50 (by kernel_rfl)
            have q1 := HK.out.1
            have q2 := HK.out.2
            unfold Go.Rel.stepOf
            go_simp
            exact hK _ _ (But.refl _ _) (hI) rfl
          · intro f a w' hI hf hanc hdesc hle hs' hd K hK
            obtain ⟨_, t3, rfl⟩ := hd 3 51 (by kernel_rfl)
            unfold Go.Rel.stepOf
            go_simp
            exact hK _ _ (But.refl _ _) (hI) rfl
          · intro f a w' hI hf hanc hdesc hle hs' hd K hK
            obtain ⟨_, t4, rfl⟩ := hd 4 52 (by kernel_rfl)
            have cc := (HSt.out w' hle).2.1
            unfold Go.Rel.stepOf
            go_simp
            exact hK _ _ (But.refl _ _) (hI) rfl
          · intro f a w' hI hf hanc hdesc hle hs' hd K hK
            obtain ⟨_, t0, rfl⟩ := hd 0 48 (by kernel_rfl)
            obtain ⟨_, t5, rfl⟩ := hd 5 53 (by kernel_rfl)
            have hst := hI.1
            rw [hf] at hst
            unfold Go.Rel.stepOf
            go_simp
            refine (HCall.out.1 w' hst).mono ?_
            rintro e w2 ⟨⟨A5, c5, rfl, hv5, _, hblk5⟩, hr5, hb5⟩
            have hbS : But S w' w2 := hb5.mono HT.out.1
            exact hK _ _ hbS ⟨hr5, hI.2.but hb5 HT.out.1 (fun h => HNe.out (tgt_eq h).symm)⟩ ⟨_, _, rfl, hv5, fun b off e _ hs => by have := hblk5 b off e; have := HSlt'.out b hs; have := hle.size; omega⟩
          · intro f a w' hI hf hanc hdesc hle hs' hd K hK
            have f6 : a.tmps[6]? = some (.pointer (some ⟨bw, 0, none⟩)) := hs'.2.2 6 (by kernel_rfl)
            unfold Go.Rel.stepOf
            go_simp
            exact hK _ _ (But.refl _ _) (hI) rfl
          · intro f a w' hI hf hanc hdesc hle hs' hd K hK
            have f1 : a.tmps[1]? = some (.slice (some ⟨b, off, none⟩) n1 c1) := hs'.2.2 1 (by kernel_rfl)
            unfold Go.Rel.stepOf
            go_simp
            exact hK _ _ (But.refl _ _) (hI) rfl
          · intro f a w' hI hf hanc hdesc hle hs' hd K hK
            have f7 : a.tmps[7]? = some (.int .i64 (k : Int)) := hs'.2.2 7 (by kernel_rfl)
            unfold Go.Rel.stepOf
            go_simp
            exact hK _ _ (But.refl _ _) (hI) rfl
          · intro f a w' hI hf hanc hdesc hle hs' hd K hK
            obtain ⟨_, t8, rfl⟩ := hd 8 56 (by kernel_rfl)
            obtain ⟨_, t9, rfl⟩ := hd 9 57 (by kernel_rfl)
            have q1 := HK.out.1
            have q2 := HK.out.2
            unfold Go.Rel.stepOf
            go_simp
            exact hK _ _ (But.refl _ _) (hI) rfl
          · intro f a w' hI hf hanc hdesc hle hs' hd K hK
            obtain ⟨_, t10, rfl⟩ := hd 10 58 (by kernel_rfl)
            unfold Go.Rel.stepOf
            go_simp
            exact hK _ _ (But.refl _ _) (hI) rfl
          · intro f a w' hI hf hanc hdesc hle hs' hd K hK
            obtain ⟨_, t11, rfl⟩ := hd 11 59 (by kernel_rfl)
            have cc := (HSt.out w' hle).2.1
            unfold Go.Rel.stepOf
            go_simp
            exact hK _ _ (But.refl _ _) (hI) rfl
          · intro f a w' hI hf hanc hdesc hle hs' hd K hK
            obtain ⟨_, t7, rfl⟩ := hd 7 55 (by kernel_rfl)
            obtain ⟨_, t12, rfl⟩ := hd 12 60 (by kernel_rfl)
            have hst := hI.2
            rw [hf] at hst
            unfold Go.Rel.stepOf
            go_simp
            refine (HCall.out.2 w' hst).mono ?_
            rintro e w2 ⟨⟨A5, c5, rfl, hv5, _, hblk5⟩, hr5, hb5⟩
            have hbS : But S w' w2 := hb5.mono HT.out.2
            exact hK _ _ hbS ⟨hI.1.but hb5 HT.out.2 (fun k e h => HNe.out ((tgt_eq h).symm.trans e)), hr5⟩ ⟨_, _, rfl, hv5, fun b off e _ hs => by have := hblk5 b off e; have := HSlt'.out b hs; have := hle.size; omega⟩
          · intro f a w' hI hf hanc hdesc hle hs' hd K hK
            obtain ⟨_, t6, A6, c6, rfl, h6⟩ := hd 6 54 (by kernel_rfl)
            obtain ⟨_, t13, A13, c13, rfl, h13⟩ := hd 13 61 (by kernel_rfl)
            unfold Go.Rel.stepOf
            go_simp
            refine (HSame.out _ _ _ _ w' h6.1 h13.1).mono ?_
            rintro e w2 ⟨rfl, hb5⟩
            exact hK _ _ (But.of_below hb5) ⟨hI.1.below hb5, hI.2.below hb5⟩ rfl
          · intro f a w' hI hf hanc hdesc hle hs' hd K hK
            obtain ⟨_, t14, rfl⟩ := hd 14 62 (by kernel_rfl)
            unfold Go.Rel.stepOf
            go_simp
            exact hK _ _ (But.refl _ _) (hI) rfl
        case hend =>
          intro f a w3 hall hI hle hs' hR'
          have hf1 := hall 6 (by decide)
          have hf2 := hall 13 (by decide)
          have hI' : Hid (BothD S bd bw d' w3) := Lib.hid (by
            have h := hI
            simp only [hf1, hf2, cond_true] at h
            exact h)
          have HBF : Hid (But S w2 w3) := Lib.hid (hbut.out.trans hle)
          clear hI hall hf1 hf2 hle
          obtain ⟨v48, s48, _⟩ := hR' 0 48 (by kernel_rfl)
          obtain ⟨v49, s49, _⟩ := hR' 1 49 (by kernel_rfl)
          obtain ⟨v50, s50, _⟩ := hR' 2 50 (by kernel_rfl)
          obtain ⟨v51, s51, _⟩ := hR' 3 51 (by kernel_rfl)
          obtain ⟨v52, s52, _⟩ := hR' 4 52 (by kernel_rfl)
          obtain ⟨v53, s53, _⟩ := hR' 5 53 (by kernel_rfl)
          obtain ⟨v54, s54, _⟩ := hR' 6 54 (by kernel_rfl)
          obtain ⟨v55, s55, _⟩ := hR' 7 55 (by kernel_rfl)
          obtain ⟨v56, s56, _⟩ := hR' 8 56 (by kernel_rfl)
          obtain ⟨v57, s57, _⟩ := hR' 9 57 (by kernel_rfl)
          obtain ⟨v58, s58, _⟩ := hR' 10 58 (by kernel_rfl)
          obtain ⟨v59, s59, _⟩ := hR' 11 59 (by kernel_rfl)
          obtain ⟨v60, s60, _⟩ := hR' 12 60 (by kernel_rfl)
          obtain ⟨v61, s61, _⟩ := hR' 13 61 (by kernel_rfl)
          obtain ⟨v62, s62, _⟩ := hR' 14 62 (by kernel_rfl)
          obtain ⟨_, s63, rfl⟩ := hR' 15 63 (by kernel_rfl)
          have e := hs'.shape
          simp only [List.toList_toArray, List.foldl, Go.Rel.reset, Array.getD_eq_getD_getElem?, s48, s49, s50, s51, s52, s53, s54, s55, s56, s57, s58, s59, s60, s61, s62, s63, Option.getD_some] at e
          simp at e
          clear hR' hs' s48 s49 s50 s51 s52 s53 s54 s55 s56 s57 s58 s59 s60 s61 s62 s63
          subst e
          go_wp2
          refine Go.Rel.wp_region_states (by kernel_rfl) (by kernel_rfl) (by kernel_rfl) (by kernel_rfl) (fun _ w => BothD S bd bw d' w) (But S) (fun _ _ _ h k => h.trans k) ((But.refl _ _).drew) hI'.out (playT S bd bw L T) (playT_stable S bd bw L T) ?hsteps2 ?hend2
          case hsteps2 =>
            refine (.cons ?_ (.cons ?_ (.cons ?_ (.cons ?_ (.cons ?_ (.cons ?_ (.cons ?_ (.cons ?_ (.cons ?_ (.cons ?_ (.cons ?_ (.cons ?_ (.cons ?_ (.cons ?_ (.cons ?_ (.cons ?_ (.cons ?_ (.cons ?_ (.cons ?_ (.cons ?_ (.cons ?_ (.cons ?_ .nil))))))))))))))))))))))
            · intro f a w' hI hf hanc hdesc hle hs' hd K hK
              have f5 : a.tmps[5]? = some (.pointer (some ⟨bd, 0, none⟩)) := hs'.2.2 5 (by kernel_rfl)
              unfold Go.Rel.stepOf
              go_simp
              exact hK _ _ (But.refl _ _) (hI) rfl
            · intro f a w' hI hf hanc hdesc hle hs' hd K hK
              obtain ⟨_, t0, rfl⟩ := hd 0 92 (by kernel_rfl)
              unfold Go.Rel.stepOf
              go_simp
              refine (taken_of S _ _ w' hI.1 HTT.out).mono ?_
              rintro e w2 ⟨rfl, rfl⟩
              exact hK _ _ (But.refl _ _) hI rfl
            · intro f a w' hI hf hanc hdesc hle hs' hd K hK
              have f6 : a.tmps[6]? = some (.pointer (some ⟨bw, 0, none⟩)) := hs'.2.2 6 (by kernel_rfl)
              unfold Go.Rel.stepOf
              go_simp
              exact hK _ _ (But.refl _ _) (hI) rfl
            · intro f a w' hI hf hanc hdesc hle hs' hd K hK
              obtain ⟨_, t2, rfl⟩ := hd 2 94 (by kernel_rfl)
              unfold Go.Rel.stepOf
              go_simp
              exact hK _ _ (But.refl _ _) (hI) rfl
            · intro f a w' hI hf hanc hdesc hle hs' hd K hK
              obtain ⟨_, t3, rfl⟩ := hd 3 95 (by kernel_rfl)
              unfold Go.Rel.stepOf
              go_simp
              exact hK _ _ (But.refl _ _) (hI) rfl
            · intro f a w' hI hf hanc hdesc hle hs' hd K hK
              obtain ⟨_, t4, rfl⟩ := hd 4 96 (by kernel_rfl)
              have cc := (rw_cells hI.2).2
              rw [HTT.out] at cc
              unfold Go.Rel.stepOf
              go_simp
              exact hK _ _ (But.refl _ _) (hI) rfl
            · intro f a w' hI hf hanc hdesc hle hs' hd K hK
              obtain ⟨_, t1, rfl⟩ := hd 1 93 (by kernel_rfl)
              obtain ⟨_, t5, rfl⟩ := hd 5 97 (by kernel_rfl)
              unfold Go.Rel.stepOf
              go_simp
              exact hK _ _ (But.refl _ _) (hI) rfl
            · intro f a w' hI hf hanc hdesc hle hs' hd K hK
              obtain ⟨_, t6, rfl⟩ := hd 6 98 (by kernel_rfl)
              unfold Go.Rel.stepOf
              go_simp
              exact hK _ _ (But.refl _ _) (hI) rfl
            · intro f a w' hI hf hanc hdesc hle hs' hd K hK
              obtain ⟨_, tg, rfl⟩ := hd 7 99 (by kernel_rfl)
              have f5 : a.tmps[5]? = some (.pointer (some ⟨bd, 0, none⟩)) := hs'.2.2 5 (by kernel_rfl)
              unfold Go.Rel.stepOf
              go_simp
              exact hK _ _ (But.refl _ _) (hI) rfl
            · intro f a w' hI hf hanc hdesc hle hs' hd K hK
              obtain ⟨_, tg, rfl⟩ := hd 7 99 (by kernel_rfl)
              obtain ⟨_, t8, rfl⟩ := hd 8 100 (by kernel_rfl)
              unfold Go.Rel.stepOf
              go_simp
              refine (left_of S _ _ w' hI.1 HLL.out).mono ?_
              rintro e w2 ⟨rfl, rfl⟩
              exact hK _ _ (But.refl _ _) hI rfl
            · intro f a w' hI hf hanc hdesc hle hs' hd K hK
              obtain ⟨_, tg, rfl⟩ := hd 7 99 (by kernel_rfl)
              have f6 : a.tmps[6]? = some (.pointer (some ⟨bw, 0, none⟩)) := hs'.2.2 6 (by kernel_rfl)
              unfold Go.Rel.stepOf
              go_simp
              exact hK _ _ (But.refl _ _) (hI) rfl
            · intro f a w' hI hf hanc hdesc hle hs' hd K hK
              obtain ⟨_, tg, rfl⟩ := hd 7 99 (by kernel_rfl)
              obtain ⟨_, t10, rfl⟩ := hd 10 102 (by kernel_rfl)
              unfold Go.Rel.stepOf
              go_simp
              exact hK _ _ (But.refl _ _) (hI) rfl
            · intro f a w' hI hf hanc hdesc hle hs' hd K hK
              obtain ⟨_, tg, rfl⟩ := hd 7 99 (by kernel_rfl)
              obtain ⟨_, t11, rfl⟩ := hd 11 103 (by kernel_rfl)
              unfold Go.Rel.stepOf
              go_simp
              exact hK _ _ (But.refl _ _) (hI) rfl
            · intro f a w' hI hf hanc hdesc hle hs' hd K hK
              obtain ⟨_, tg, rfl⟩ := hd 7 99 (by kernel_rfl)
              obtain ⟨_, t12, rfl⟩ := hd 12 104 (by kernel_rfl)
              obtain ⟨⟨A9, c9, cc⟩, _⟩ := rw_cells hI.2
              rw [HLT.out] at cc
              unfold Go.Rel.stepOf
              go_simp
              exact hK _ _ (But.refl _ _) hI ⟨_, _, rfl⟩
            · intro f a w' hI hf hanc hdesc hle hs' hd K hK
              obtain ⟨_, tg, rfl⟩ := hd 7 99 (by kernel_rfl)
              obtain ⟨_, t13, A13, c13, rfl⟩ := hd 13 105 (by kernel_rfl)
              unfold Go.Rel.stepOf
              go_simp
              exact hK _ _ (But.refl _ _) (hI) rfl
            · intro f a w' hI hf hanc hdesc hle hs' hd K hK
              obtain ⟨_, tg, rfl⟩ := hd 7 99 (by kernel_rfl)
              have f6 : a.tmps[6]? = some (.pointer (some ⟨bw, 0, none⟩)) := hs'.2.2 6 (by kernel_rfl)
              unfold Go.Rel.stepOf
              go_simp
              exact hK _ _ (But.refl _ _) (hI) rfl
            · intro f a w' hI hf hanc hdesc hle hs' hd K hK
              obtain ⟨_, tg, rfl⟩ := hd 7 99 (by kernel_rfl)
              obtain ⟨_, t15, rfl⟩ := hd 15 107 (by kernel_rfl)
              unfold Go.Rel.stepOf
              go_simp
              exact hK _ _ (But.refl _ _) (hI) rfl
            · intro f a w' hI hf hanc hdesc hle hs' hd K hK
              obtain ⟨_, tg, rfl⟩ := hd 7 99 (by kernel_rfl)
              obtain ⟨_, t16, rfl⟩ := hd 16 108 (by kernel_rfl)
              unfold Go.Rel.stepOf
              go_simp
              exact hK _ _ (But.refl _ _) (hI) rfl
            · intro f a w' hI hf hanc hdesc hle hs' hd K hK
              obtain ⟨_, tg, rfl⟩ := hd 7 99 (by kernel_rfl)
              obtain ⟨_, t17, rfl⟩ := hd 17 109 (by kernel_rfl)
              have cc := (rw_cells hI.2).2
              rw [HTT.out] at cc
              unfold Go.Rel.stepOf
              go_simp
              exact hK _ _ (But.refl _ _) (hI) rfl
            · intro f a w' hI hf hanc hdesc hle hs' hd K hK
              obtain ⟨_, tg, rfl⟩ := hd 7 99 (by kernel_rfl)
              obtain ⟨_, t14, rfl⟩ := hd 14 106 (by kernel_rfl)
              obtain ⟨_, t18, rfl⟩ := hd 18 110 (by kernel_rfl)
              have hwr : IntKind.i64.wrap (L : Int) = (L : Int) := IntWalk.i64_in _ (by omega)
              unfold Go.Rel.stepOf
              go_simp
              exact hK _ _ (But.refl _ _) (hI) rfl
            · intro f a w' hI hf hanc hdesc hle hs' hd K hK
              obtain ⟨_, tg, rfl⟩ := hd 7 99 (by kernel_rfl)
              obtain ⟨_, t9, rfl⟩ := hd 9 101 (by kernel_rfl)
              obtain ⟨_, t19, rfl⟩ := hd 19 111 (by kernel_rfl)
              unfold Go.Rel.stepOf
              go_simp
              exact hK _ _ (But.refl _ _) (hI) rfl
            · intro f a w' hI hf hanc hdesc hle hs' hd K hK
              obtain ⟨_, t7, rfl⟩ := hd 7 99 (by kernel_rfl)
              obtain ⟨_, t20, rfl⟩ := hd 20 112 (by kernel_rfl)
              unfold Go.Rel.stepOf
              go_simp
              exact hK _ _ (But.refl _ _) (hI) rfl
          case hend2 =>
            intro f a w4 hall hI hle hs' hR'
            have hI2 := Lib.hid hI
            have HBF2 : Hid (But S w2 w4) := Lib.hid (HBF.out.trans hle)
            clear hI hall hle
            obtain ⟨v92, s92, _⟩ := hR' 0 92 (by kernel_rfl)
            obtain ⟨v93, s93, _⟩ := hR' 1 93 (by kernel_rfl)
            obtain ⟨v94, s94, _⟩ := hR' 2 94 (by kernel_rfl)
            obtain ⟨v95, s95, _⟩ := hR' 3 95 (by kernel_rfl)
            obtain ⟨v96, s96, _⟩ := hR' 4 96 (by kernel_rfl)
            obtain ⟨v97, s97, _⟩ := hR' 5 97 (by kernel_rfl)
            obtain ⟨v98, s98, _⟩ := hR' 6 98 (by kernel_rfl)
            obtain ⟨v99, s99, _⟩ := hR' 7 99 (by kernel_rfl)
            obtain ⟨v100, s100, _⟩ := hR' 8 100 (by kernel_rfl)
            obtain ⟨v101, s101, _⟩ := hR' 9 101 (by kernel_rfl)
            obtain ⟨v102, s102, _⟩ := hR' 10 102 (by kernel_rfl)
            obtain ⟨v103, s103, _⟩ := hR' 11 103 (by kernel_rfl)
            obtain ⟨v104, s104, _⟩ := hR' 12 104 (by kernel_rfl)
            obtain ⟨v105, s105, _⟩ := hR' 13 105 (by kernel_rfl)
            obtain ⟨v106, s106, _⟩ := hR' 14 106 (by kernel_rfl)
            obtain ⟨v107, s107, _⟩ := hR' 15 107 (by kernel_rfl)
            obtain ⟨v108, s108, _⟩ := hR' 16 108 (by kernel_rfl)
            obtain ⟨v109, s109, _⟩ := hR' 17 109 (by kernel_rfl)
            obtain ⟨v110, s110, _⟩ := hR' 18 110 (by kernel_rfl)
            obtain ⟨v111, s111, _⟩ := hR' 19 111 (by kernel_rfl)
            obtain ⟨v112, s112, _⟩ := hR' 20 112 (by kernel_rfl)
            obtain ⟨_, s113, rfl⟩ := hR' 21 113 (by kernel_rfl)
            have e := hs'.shape
            simp only [List.toList_toArray, List.foldl, Go.Rel.reset, Array.getD_eq_getD_getElem?, s92, s93, s94, s95, s96, s97, s98, s99, s100, s101, s102, s103, s104, s105, s106, s107, s108, s109, s110, s111, s112, s113, Option.getD_some] at e
            simp at e
            clear hR' hs' s92 s93 s94 s95 s96 s97 s98 s99 s100 s101 s102 s103 s104 s105 s106 s107 s108 s109 s110 s111 s112 s113
            subst e
            go_wp2
            go_roundw
            case rel => exact ⟨k + 1, d', by omega, by omega, by go_num, hI2, HBF2⟩
            case measure => simp [intOf]; omega
      · have hnx : d.afterO x.n = d' := by rw [← HHd.out, stepD]; simp [hkd]
        obtain ⟨xs, hv⟩ : ∃ v, d.some_ x.n x.k = v := ⟨_, rfl⟩
        have HCall : Hid ((∀ w', DwAt S w' (.pointer (some ⟨bd, 0, none⟩)) d → Calls Try.prog 15 #[.pointer (some ⟨bd, 0, none⟩), .int .i64 x.n, .int .i64 x.k] w' fun e w2 => RowOf w' xs e w2 ∧ DwAt S w2 (.pointer (some ⟨bd, 0, none⟩)) d' ∧ But (Tgt (.pointer (some ⟨bd, 0, none⟩))) w' w2) ∧
          (∀ w', RwAt S w' bw d → Calls Try.prog 16 #[.pointer (some ⟨bw, 0, none⟩), .int .i64 x.n, .int .i64 x.k] w' fun e w2 => RowOf w' xs e w2 ∧ RwAt S w2 bw d' ∧ But (· = bw) w' w2)) := Lib.hid ⟨fun w' h => by rw [← hnx, ← hv]; exact some_any S _ d x.n x.k w' h, fun w' h => by rw [← hnx, ← hv]; exact rsome_any S _ d x.n x.k w' h⟩
        have HLen : Hid (xs.length ≤ 140737488355328) := Lib.hid (by
          have h1 := order_length x.n d
          have h2 := sizeO_le x.n
          rw [← hv, Dr.some_, List.length_take]
          omega)
        have HSame : Hid (∀ A B c d w', RV w' A xs.length (xs.map iV) → RV w' B xs.length (xs.map iV) → Calls Try.prog 12 #[.slice A xs.length c, .slice B xs.length d] w' fun e w2 => e = .returned (.bool true) ∧ Below w'.heap.size w' w2) := Lib.hid (fun A B c d w' h h' => same_any A B _ c d xs w' h h' HLen.out)
        rw [hkd] at ck
        clear hnx hv hkd hn63 HLen
        go_wp2
        refine Go.Rel.wp_region_states (by kernel_rfl) (by kernel_rfl) (by kernel_rfl) (by kernel_rfl) (fun f w => DwAt S w (.pointer (some ⟨bd, 0, none⟩)) (bif f 11 then d' else d) ∧ RwAt S w bw (bif f 23 then d' else d)) (But S) (fun _ _ _ h k => h.trans k) ((But.refl _ _).drew) hboth.out (playS S bd bw b off n1 c1 k x xs) (playS_stable S bd bw b off n1 c1 k x xs) ?hsteps ?hend
        case hsteps =>
          refine (.cons ?_ (.cons ?_ (.cons ?_ (.cons ?_ (.cons ?_ (.cons ?_ (.cons ?_ (.cons ?_ (.cons ?_ (.cons ?_ (.cons ?_ (.cons ?_ (.cons ?_ (.cons ?_ (.cons ?_ (.cons ?_ (.cons ?_ (.cons ?_ (.cons ?_ (.cons ?_ (.cons ?_ (.cons ?_ (.cons ?_ (.cons ?_ (.cons ?_ (.cons ?_ .nil))))))))))))))))))))))))))
          · intro f a w' hI hf hanc hdesc hle hs' hd K hK
            have f5 : a.tmps[5]? = some (.pointer (some ⟨bd, 0, none⟩)) := hs'.2.2 5 (by kernel_rfl)
            unfold Go.Rel.stepOf
            go_simp
            exact hK _ _ (But.refl _ _) (hI) rfl
          · intro f a w' hI hf hanc hdesc hle hs' hd K hK
            have f1 : a.tmps[1]? = some (.slice (some ⟨b, off, none⟩) n1 c1) := hs'.2.2 1 (by kernel_rfl)
            unfold Go.Rel.stepOf
            go_simp
            exact hK _ _ (But.refl _ _) (hI) rfl
          · intro f a w' hI hf hanc hdesc hle hs' hd K hK
            have f7 : a.tmps[7]? = some (.int .i64 (k : Int)) := hs'.2.2 7 (by kernel_rfl)
            unfold Go.Rel.stepOf
            go_simp
            exact hK _ _ (But.refl _ _) (hI) rfl
          · intro f a w' hI hf hanc hdesc hle hs' hd K hK
            obtain ⟨_, t1, rfl⟩ := hd 1 67 (by kernel_rfl)
            obtain ⟨_, t2, rfl⟩ := hd 2 68 (by kernel_rfl)
            have q1 := HK.out.1
            have q2 := HK.out.2
            unfold Go.Rel.stepOf
            go_simp
            exact hK _ _ (But.refl _ _) (hI) rfl
          · intro f a w' hI hf hanc hdesc hle hs' hd K hK
            obtain ⟨_, t3, rfl⟩ := hd 3 69 (by kernel_rfl)
            unfold Go.Rel.stepOf
            go_simp
            exact hK _ _ (But.refl _ _) (hI) rfl
          · intro f a w' hI hf hanc hdesc hle hs' hd K hK
            obtain ⟨_, t4, rfl⟩ := hd 4 70 (by kernel_rfl)
            have cc := (HSt.out w' hle).2.1
            unfold Go.Rel.stepOf
            go_simp
            exact hK _ _ (But.refl _ _) (hI) rfl
          · intro f a w' hI hf hanc hdesc hle hs' hd K hK
            have f1 : a.tmps[1]? = some (.slice (some ⟨b, off, none⟩) n1 c1) := hs'.2.2 1 (by kernel_rfl)
            unfold Go.Rel.stepOf
            go_simp
            exact hK _ _ (But.refl _ _) (hI) rfl
          · intro f a w' hI hf hanc hdesc hle hs' hd K hK
            have f7 : a.tmps[7]? = some (.int .i64 (k : Int)) := hs'.2.2 7 (by kernel_rfl)
            unfold Go.Rel.stepOf
            go_simp
            exact hK _ _ (But.refl _ _) (hI) rfl
          · intro f a w' hI hf hanc hdesc hle hs' hd K hK
            obtain ⟨_, t6, rfl⟩ := hd 6 72 (by kernel_rfl)
            obtain ⟨_, t7, rfl⟩ := hd 7 73 (by kernel_rfl)
            have q1 := HK.out.1
            have q2 := HK.out.2
            unfold Go.Rel.stepOf
            go_simp
            exact hK _ _ (But.refl _ _) (hI) rfl
          · intro f a w' hI hf hanc hdesc hle hs' hd K hK
            obtain ⟨_, t8, rfl⟩ := hd 8 74 (by kernel_rfl)
            unfold Go.Rel.stepOf
            go_simp
            exact hK _ _ (But.refl _ _) (hI) rfl
          · intro f a w' hI hf hanc hdesc hle hs' hd K hK
            obtain ⟨_, t9, rfl⟩ := hd 9 75 (by kernel_rfl)
            have cc := (HSt.out w' hle).2.2
            unfold Go.Rel.stepOf
            go_simp
            exact hK _ _ (But.refl _ _) (hI) rfl
          · intro f a w' hI hf hanc hdesc hle hs' hd K hK
            obtain ⟨_, t0, rfl⟩ := hd 0 66 (by kernel_rfl)
            obtain ⟨_, t5, rfl⟩ := hd 5 71 (by kernel_rfl)
            obtain ⟨_, t10, rfl⟩ := hd 10 76 (by kernel_rfl)
            have hst := hI.1
            rw [hf] at hst
            unfold Go.Rel.stepOf
            go_simp
            refine (HCall.out.1 w' hst).mono ?_
            rintro e w2 ⟨⟨A5, c5, rfl, hv5, _, hblk5⟩, hr5, hb5⟩
            have hbS : But S w' w2 := hb5.mono HT.out.1
            exact hK _ _ hbS ⟨hr5, hI.2.but hb5 HT.out.1 (fun h => HNe.out (tgt_eq h).symm)⟩ ⟨_, _, rfl, hv5, fun b off e _ hs => by have := hblk5 b off e; have := HSlt'.out b hs; have := hle.size; omega⟩
          · intro f a w' hI hf hanc hdesc hle hs' hd K hK
            have f6 : a.tmps[6]? = some (.pointer (some ⟨bw, 0, none⟩)) := hs'.2.2 6 (by kernel_rfl)
            unfold Go.Rel.stepOf
            go_simp
            exact hK _ _ (But.refl _ _) (hI) rfl
          · intro f a w' hI hf hanc hdesc hle hs' hd K hK
            have f1 : a.tmps[1]? = some (.slice (some ⟨b, off, none⟩) n1 c1) := hs'.2.2 1 (by kernel_rfl)
            unfold Go.Rel.stepOf
            go_simp
            exact hK _ _ (But.refl _ _) (hI) rfl
          · intro f a w' hI hf hanc hdesc hle hs' hd K hK
            have f7 : a.tmps[7]? = some (.int .i64 (k : Int)) := hs'.2.2 7 (by kernel_rfl)
            unfold Go.Rel.stepOf
            go_simp
            exact hK _ _ (But.refl _ _) (hI) rfl
          · intro f a w' hI hf hanc hdesc hle hs' hd K hK
            obtain ⟨_, t13, rfl⟩ := hd 13 79 (by kernel_rfl)
            obtain ⟨_, t14, rfl⟩ := hd 14 80 (by kernel_rfl)
            have q1 := HK.out.1
            have q2 := HK.out.2
            unfold Go.Rel.stepOf
            go_simp
            exact hK _ _ (But.refl _ _) (hI) rfl
          · intro f a w' hI hf hanc hdesc hle hs' hd K hK
            obtain ⟨_, t15, rfl⟩ := hd 15 81 (by kernel_rfl)
            unfold Go.Rel.stepOf
            go_simp
            exact hK _ _ (But.refl _ _) (hI) rfl
          · intro f a w' hI hf hanc hdesc hle hs' hd K hK
            obtain ⟨_, t16, rfl⟩ := hd 16 82 (by kernel_rfl)
            have cc := (HSt.out w' hle).2.1
            unfold Go.Rel.stepOf
            go_simp
            exact hK _ _ (But.refl _ _) (hI) rfl
          · intro f a w' hI hf hanc hdesc hle hs' hd K hK
            have f1 : a.tmps[1]? = some (.slice (some ⟨b, off, none⟩) n1 c1) := hs'.2.2 1 (by kernel_rfl)
            unfold Go.Rel.stepOf
            go_simp
            exact hK _ _ (But.refl _ _) (hI) rfl
          · intro f a w' hI hf hanc hdesc hle hs' hd K hK
            have f7 : a.tmps[7]? = some (.int .i64 (k : Int)) := hs'.2.2 7 (by kernel_rfl)
            unfold Go.Rel.stepOf
            go_simp
            exact hK _ _ (But.refl _ _) (hI) rfl
          · intro f a w' hI hf hanc hdesc hle hs' hd K hK
            obtain ⟨_, t18, rfl⟩ := hd 18 84 (by kernel_rfl)
            obtain ⟨_, t19, rfl⟩ := hd 19 85 (by kernel_rfl)
            have q1 := HK.out.1
            have q2 := HK.out.2
            unfold Go.Rel.stepOf
            go_simp
            exact hK _ _ (But.refl _ _) (hI) rfl
          · intro f a w' hI hf hanc hdesc hle hs' hd K hK
            obtain ⟨_, t20, rfl⟩ := hd 20 86 (by kernel_rfl)
            unfold Go.Rel.stepOf
            go_simp
            exact hK _ _ (But.refl _ _) (hI) rfl
          · intro f a w' hI hf hanc hdesc hle hs' hd K hK
            obtain ⟨_, t21, rfl⟩ := hd 21 87 (by kernel_rfl)
            have cc := (HSt.out w' hle).2.2
            unfold Go.Rel.stepOf
            go_simp
            exact hK _ _ (But.refl _ _) (hI) rfl
          · intro f a w' hI hf hanc hdesc hle hs' hd K hK
            obtain ⟨_, t12, rfl⟩ := hd 12 78 (by kernel_rfl)
            obtain ⟨_, t17, rfl⟩ := hd 17 83 (by kernel_rfl)
            obtain ⟨_, t22, rfl⟩ := hd 22 88 (by kernel_rfl)
            have hst := hI.2
            rw [hf] at hst
            unfold Go.Rel.stepOf
            go_simp
            refine (HCall.out.2 w' hst).mono ?_
            rintro e w2 ⟨⟨A5, c5, rfl, hv5, _, hblk5⟩, hr5, hb5⟩
            have hbS : But S w' w2 := hb5.mono HT.out.2
            exact hK _ _ hbS ⟨hI.1.but hb5 HT.out.2 (fun k e h => HNe.out ((tgt_eq h).symm.trans e)), hr5⟩ ⟨_, _, rfl, hv5, fun b off e _ hs => by have := hblk5 b off e; have := HSlt'.out b hs; have := hle.size; omega⟩
          · intro f a w' hI hf hanc hdesc hle hs' hd K hK
            obtain ⟨_, t11, A11, c11, rfl, h11⟩ := hd 11 77 (by kernel_rfl)
            obtain ⟨_, t23, A23, c23, rfl, h23⟩ := hd 23 89 (by kernel_rfl)
            unfold Go.Rel.stepOf
            go_simp
            refine (HSame.out _ _ _ _ w' h11.1 h23.1).mono ?_
            rintro e w2 ⟨rfl, hb5⟩
            exact hK _ _ (But.of_below hb5) ⟨hI.1.below hb5, hI.2.below hb5⟩ rfl
          · intro f a w' hI hf hanc hdesc hle hs' hd K hK
            obtain ⟨_, t24, rfl⟩ := hd 24 90 (by kernel_rfl)
            unfold Go.Rel.stepOf
            go_simp
            exact hK _ _ (But.refl _ _) (hI) rfl
        case hend =>
          intro f a w3 hall hI hle hs' hR'
          have hf1 := hall 11 (by decide)
          have hf2 := hall 23 (by decide)
          have hI' : Hid (BothD S bd bw d' w3) := Lib.hid (by
            have h := hI
            simp only [hf1, hf2, cond_true] at h
            exact h)
          have HBF : Hid (But S w2 w3) := Lib.hid (hbut.out.trans hle)
          clear hI hall hf1 hf2 hle
          obtain ⟨v66, s66, _⟩ := hR' 0 66 (by kernel_rfl)
          obtain ⟨v67, s67, _⟩ := hR' 1 67 (by kernel_rfl)
          obtain ⟨v68, s68, _⟩ := hR' 2 68 (by kernel_rfl)
          obtain ⟨v69, s69, _⟩ := hR' 3 69 (by kernel_rfl)
          obtain ⟨v70, s70, _⟩ := hR' 4 70 (by kernel_rfl)
          obtain ⟨v71, s71, _⟩ := hR' 5 71 (by kernel_rfl)
          obtain ⟨v72, s72, _⟩ := hR' 6 72 (by kernel_rfl)
          obtain ⟨v73, s73, _⟩ := hR' 7 73 (by kernel_rfl)
          obtain ⟨v74, s74, _⟩ := hR' 8 74 (by kernel_rfl)
          obtain ⟨v75, s75, _⟩ := hR' 9 75 (by kernel_rfl)
          obtain ⟨v76, s76, _⟩ := hR' 10 76 (by kernel_rfl)
          obtain ⟨v77, s77, _⟩ := hR' 11 77 (by kernel_rfl)
          obtain ⟨v78, s78, _⟩ := hR' 12 78 (by kernel_rfl)
          obtain ⟨v79, s79, _⟩ := hR' 13 79 (by kernel_rfl)
          obtain ⟨v80, s80, _⟩ := hR' 14 80 (by kernel_rfl)
          obtain ⟨v81, s81, _⟩ := hR' 15 81 (by kernel_rfl)
          obtain ⟨v82, s82, _⟩ := hR' 16 82 (by kernel_rfl)
          obtain ⟨v83, s83, _⟩ := hR' 17 83 (by kernel_rfl)
          obtain ⟨v84, s84, _⟩ := hR' 18 84 (by kernel_rfl)
          obtain ⟨v85, s85, _⟩ := hR' 19 85 (by kernel_rfl)
          obtain ⟨v86, s86, _⟩ := hR' 20 86 (by kernel_rfl)
          obtain ⟨v87, s87, _⟩ := hR' 21 87 (by kernel_rfl)
          obtain ⟨v88, s88, _⟩ := hR' 22 88 (by kernel_rfl)
          obtain ⟨v89, s89, _⟩ := hR' 23 89 (by kernel_rfl)
          obtain ⟨v90, s90, _⟩ := hR' 24 90 (by kernel_rfl)
          obtain ⟨_, s91, rfl⟩ := hR' 25 91 (by kernel_rfl)
          have e := hs'.shape
          simp only [List.toList_toArray, List.foldl, Go.Rel.reset, Array.getD_eq_getD_getElem?, s66, s67, s68, s69, s70, s71, s72, s73, s74, s75, s76, s77, s78, s79, s80, s81, s82, s83, s84, s85, s86, s87, s88, s89, s90, s91, Option.getD_some] at e
          simp at e
          clear hR' hs' s66 s67 s68 s69 s70 s71 s72 s73 s74 s75 s76 s77 s78 s79 s80 s81 s82 s83 s84 s85 s86 s87 s88 s89 s90 s91
          subst e
          go_wp2
          refine Go.Rel.wp_region_states (by kernel_rfl) (by kernel_rfl) (by kernel_rfl) (by kernel_rfl) (fun _ w => BothD S bd bw d' w) (But S) (fun _ _ _ h k => h.trans k) ((But.refl _ _).drew) hI'.out (playT S bd bw L T) (playT_stable S bd bw L T) ?hsteps2 ?hend2
          case hsteps2 =>
            refine (.cons ?_ (.cons ?_ (.cons ?_ (.cons ?_ (.cons ?_ (.cons ?_ (.cons ?_ (.cons ?_ (.cons ?_ (.cons ?_ (.cons ?_ (.cons ?_ (.cons ?_ (.cons ?_ (.cons ?_ (.cons ?_ (.cons ?_ (.cons ?_ (.cons ?_ (.cons ?_ (.cons ?_ (.cons ?_ .nil))))))))))))))))))))))
            · intro f a w' hI hf hanc hdesc hle hs' hd K hK
              have f5 : a.tmps[5]? = some (.pointer (some ⟨bd, 0, none⟩)) := hs'.2.2 5 (by kernel_rfl)
              unfold Go.Rel.stepOf
              go_simp
              exact hK _ _ (But.refl _ _) (hI) rfl
            · intro f a w' hI hf hanc hdesc hle hs' hd K hK
              obtain ⟨_, t0, rfl⟩ := hd 0 92 (by kernel_rfl)
              unfold Go.Rel.stepOf
              go_simp
              refine (taken_of S _ _ w' hI.1 HTT.out).mono ?_
              rintro e w2 ⟨rfl, rfl⟩
              exact hK _ _ (But.refl _ _) hI rfl
            · intro f a w' hI hf hanc hdesc hle hs' hd K hK
              have f6 : a.tmps[6]? = some (.pointer (some ⟨bw, 0, none⟩)) := hs'.2.2 6 (by kernel_rfl)
              unfold Go.Rel.stepOf
              go_simp
              exact hK _ _ (But.refl _ _) (hI) rfl
            · intro f a w' hI hf hanc hdesc hle hs' hd K hK
              obtain ⟨_, t2, rfl⟩ := hd 2 94 (by kernel_rfl)
              unfold Go.Rel.stepOf
              go_simp
              exact hK _ _ (But.refl _ _) (hI) rfl
            · intro f a w' hI hf hanc hdesc hle hs' hd K hK
              obtain ⟨_, t3, rfl⟩ := hd 3 95 (by kernel_rfl)
              unfold Go.Rel.stepOf
              go_simp
              exact hK _ _ (But.refl _ _) (hI) rfl
            · intro f a w' hI hf hanc hdesc hle hs' hd K hK
              obtain ⟨_, t4, rfl⟩ := hd 4 96 (by kernel_rfl)
              have cc := (rw_cells hI.2).2
              rw [HTT.out] at cc
              unfold Go.Rel.stepOf
              go_simp
              exact hK _ _ (But.refl _ _) (hI) rfl
            · intro f a w' hI hf hanc hdesc hle hs' hd K hK
              obtain ⟨_, t1, rfl⟩ := hd 1 93 (by kernel_rfl)
              obtain ⟨_, t5, rfl⟩ := hd 5 97 (by kernel_rfl)
              unfold Go.Rel.stepOf
              go_simp
              exact hK _ _ (But.refl _ _) (hI) rfl
            · intro f a w' hI hf hanc hdesc hle hs' hd K hK
              obtain ⟨_, t6, rfl⟩ := hd 6 98 (by kernel_rfl)
              unfold Go.Rel.stepOf
              go_simp
              exact hK _ _ (But.refl _ _) (hI) rfl
            · intro f a w' hI hf hanc hdesc hle hs' hd K hK
              obtain ⟨_, tg, rfl⟩ := hd 7 99 (by kernel_rfl)
              have f5 : a.tmps[5]? = some (.pointer (some ⟨bd, 0, none⟩)) := hs'.2.2 5 (by kernel_rfl)
              unfold Go.Rel.stepOf
              go_simp
              exact hK _ _ (But.refl _ _) (hI) rfl
            · intro f a w' hI hf hanc hdesc hle hs' hd K hK
              obtain ⟨_, tg, rfl⟩ := hd 7 99 (by kernel_rfl)
              obtain ⟨_, t8, rfl⟩ := hd 8 100 (by kernel_rfl)
              unfold Go.Rel.stepOf
              go_simp
              refine (left_of S _ _ w' hI.1 HLL.out).mono ?_
              rintro e w2 ⟨rfl, rfl⟩
              exact hK _ _ (But.refl _ _) hI rfl
            · intro f a w' hI hf hanc hdesc hle hs' hd K hK
              obtain ⟨_, tg, rfl⟩ := hd 7 99 (by kernel_rfl)
              have f6 : a.tmps[6]? = some (.pointer (some ⟨bw, 0, none⟩)) := hs'.2.2 6 (by kernel_rfl)
              unfold Go.Rel.stepOf
              go_simp
              exact hK _ _ (But.refl _ _) (hI) rfl
            · intro f a w' hI hf hanc hdesc hle hs' hd K hK
              obtain ⟨_, tg, rfl⟩ := hd 7 99 (by kernel_rfl)
              obtain ⟨_, t10, rfl⟩ := hd 10 102 (by kernel_rfl)
              unfold Go.Rel.stepOf
              go_simp
              exact hK _ _ (But.refl _ _) (hI) rfl
            · intro f a w' hI hf hanc hdesc hle hs' hd K hK
              obtain ⟨_, tg, rfl⟩ := hd 7 99 (by kernel_rfl)
              obtain ⟨_, t11, rfl⟩ := hd 11 103 (by kernel_rfl)
              unfold Go.Rel.stepOf
              go_simp
              exact hK _ _ (But.refl _ _) (hI) rfl
            · intro f a w' hI hf hanc hdesc hle hs' hd K hK
              obtain ⟨_, tg, rfl⟩ := hd 7 99 (by kernel_rfl)
              obtain ⟨_, t12, rfl⟩ := hd 12 104 (by kernel_rfl)
              obtain ⟨⟨A9, c9, cc⟩, _⟩ := rw_cells hI.2
              rw [HLT.out] at cc
              unfold Go.Rel.stepOf
              go_simp
              exact hK _ _ (But.refl _ _) hI ⟨_, _, rfl⟩
            · intro f a w' hI hf hanc hdesc hle hs' hd K hK
              obtain ⟨_, tg, rfl⟩ := hd 7 99 (by kernel_rfl)
              obtain ⟨_, t13, A13, c13, rfl⟩ := hd 13 105 (by kernel_rfl)
              unfold Go.Rel.stepOf
              go_simp
              exact hK _ _ (But.refl _ _) (hI) rfl
            · intro f a w' hI hf hanc hdesc hle hs' hd K hK
              obtain ⟨_, tg, rfl⟩ := hd 7 99 (by kernel_rfl)
              have f6 : a.tmps[6]? = some (.pointer (some ⟨bw, 0, none⟩)) := hs'.2.2 6 (by kernel_rfl)
              unfold Go.Rel.stepOf
              go_simp
              exact hK _ _ (But.refl _ _) (hI) rfl
            · intro f a w' hI hf hanc hdesc hle hs' hd K hK
              obtain ⟨_, tg, rfl⟩ := hd 7 99 (by kernel_rfl)
              obtain ⟨_, t15, rfl⟩ := hd 15 107 (by kernel_rfl)
              unfold Go.Rel.stepOf
              go_simp
              exact hK _ _ (But.refl _ _) (hI) rfl
            · intro f a w' hI hf hanc hdesc hle hs' hd K hK
              obtain ⟨_, tg, rfl⟩ := hd 7 99 (by kernel_rfl)
              obtain ⟨_, t16, rfl⟩ := hd 16 108 (by kernel_rfl)
              unfold Go.Rel.stepOf
              go_simp
              exact hK _ _ (But.refl _ _) (hI) rfl
            · intro f a w' hI hf hanc hdesc hle hs' hd K hK
              obtain ⟨_, tg, rfl⟩ := hd 7 99 (by kernel_rfl)
              obtain ⟨_, t17, rfl⟩ := hd 17 109 (by kernel_rfl)
              have cc := (rw_cells hI.2).2
              rw [HTT.out] at cc
              unfold Go.Rel.stepOf
              go_simp
              exact hK _ _ (But.refl _ _) (hI) rfl
            · intro f a w' hI hf hanc hdesc hle hs' hd K hK
              obtain ⟨_, tg, rfl⟩ := hd 7 99 (by kernel_rfl)
              obtain ⟨_, t14, rfl⟩ := hd 14 106 (by kernel_rfl)
              obtain ⟨_, t18, rfl⟩ := hd 18 110 (by kernel_rfl)
              have hwr : IntKind.i64.wrap (L : Int) = (L : Int) := IntWalk.i64_in _ (by omega)
              unfold Go.Rel.stepOf
              go_simp
              exact hK _ _ (But.refl _ _) (hI) rfl
            · intro f a w' hI hf hanc hdesc hle hs' hd K hK
              obtain ⟨_, tg, rfl⟩ := hd 7 99 (by kernel_rfl)
              obtain ⟨_, t9, rfl⟩ := hd 9 101 (by kernel_rfl)
              obtain ⟨_, t19, rfl⟩ := hd 19 111 (by kernel_rfl)
              unfold Go.Rel.stepOf
              go_simp
              exact hK _ _ (But.refl _ _) (hI) rfl
            · intro f a w' hI hf hanc hdesc hle hs' hd K hK
              obtain ⟨_, t7, rfl⟩ := hd 7 99 (by kernel_rfl)
              obtain ⟨_, t20, rfl⟩ := hd 20 112 (by kernel_rfl)
              unfold Go.Rel.stepOf
              go_simp
              exact hK _ _ (But.refl _ _) (hI) rfl
          case hend2 =>
            intro f a w4 hall hI hle hs' hR'
            have hI2 := Lib.hid hI
            have HBF2 : Hid (But S w2 w4) := Lib.hid (HBF.out.trans hle)
            clear hI hall hle
            obtain ⟨v92, s92, _⟩ := hR' 0 92 (by kernel_rfl)
            obtain ⟨v93, s93, _⟩ := hR' 1 93 (by kernel_rfl)
            obtain ⟨v94, s94, _⟩ := hR' 2 94 (by kernel_rfl)
            obtain ⟨v95, s95, _⟩ := hR' 3 95 (by kernel_rfl)
            obtain ⟨v96, s96, _⟩ := hR' 4 96 (by kernel_rfl)
            obtain ⟨v97, s97, _⟩ := hR' 5 97 (by kernel_rfl)
            obtain ⟨v98, s98, _⟩ := hR' 6 98 (by kernel_rfl)
            obtain ⟨v99, s99, _⟩ := hR' 7 99 (by kernel_rfl)
            obtain ⟨v100, s100, _⟩ := hR' 8 100 (by kernel_rfl)
            obtain ⟨v101, s101, _⟩ := hR' 9 101 (by kernel_rfl)
            obtain ⟨v102, s102, _⟩ := hR' 10 102 (by kernel_rfl)
            obtain ⟨v103, s103, _⟩ := hR' 11 103 (by kernel_rfl)
            obtain ⟨v104, s104, _⟩ := hR' 12 104 (by kernel_rfl)
            obtain ⟨v105, s105, _⟩ := hR' 13 105 (by kernel_rfl)
            obtain ⟨v106, s106, _⟩ := hR' 14 106 (by kernel_rfl)
            obtain ⟨v107, s107, _⟩ := hR' 15 107 (by kernel_rfl)
            obtain ⟨v108, s108, _⟩ := hR' 16 108 (by kernel_rfl)
            obtain ⟨v109, s109, _⟩ := hR' 17 109 (by kernel_rfl)
            obtain ⟨v110, s110, _⟩ := hR' 18 110 (by kernel_rfl)
            obtain ⟨v111, s111, _⟩ := hR' 19 111 (by kernel_rfl)
            obtain ⟨v112, s112, _⟩ := hR' 20 112 (by kernel_rfl)
            obtain ⟨_, s113, rfl⟩ := hR' 21 113 (by kernel_rfl)
            have e := hs'.shape
            simp only [List.toList_toArray, List.foldl, Go.Rel.reset, Array.getD_eq_getD_getElem?, s92, s93, s94, s95, s96, s97, s98, s99, s100, s101, s102, s103, s104, s105, s106, s107, s108, s109, s110, s111, s112, s113, Option.getD_some] at e
            simp at e
            clear hR' hs' s92 s93 s94 s95 s96 s97 s98 s99 s100 s101 s102 s103 s104 s105 s106 s107 s108 s109 s110 s111 s112 s113
            subst e
            go_wp2
            go_roundw
            case rel => exact ⟨k + 1, d', by omega, by omega, by go_num, hI2, HBF2⟩
            case measure => simp [intOf]; omega
      · have hI' : Hid (BothD S bd bw d' wr) := Lib.hid (by
          have h := hboth.out
          have e : stepD x d = d := by rw [stepD, if_neg hkd, if_neg hkd1, if_neg hkd2]
          rw [← HHd.out, e]
          exact h)
        have HBF := hbut
        have z0 : (x.kind == 0) = false := by rw [beq_eq_false_iff_ne]; exact hkd
        have z1 : (x.kind == 1) = false := by rw [beq_eq_false_iff_ne]; exact hkd1
        have z2 : (x.kind == 2) = false := by rw [beq_eq_false_iff_ne]; exact hkd2
        clear hkd hkd1 hkd2 hn63
        go_wp2
        refine Go.Rel.wp_region_states (by kernel_rfl) (by kernel_rfl) (by kernel_rfl) (by kernel_rfl) (fun _ w => BothD S bd bw d' w) (But S) (fun _ _ _ h k => h.trans k) ((But.refl _ _).drew) hI'.out (playT S bd bw L T) (playT_stable S bd bw L T) ?hsteps2 ?hend2
        case hsteps2 =>
          refine (.cons ?_ (.cons ?_ (.cons ?_ (.cons ?_ (.cons ?_ (.cons ?_ (.cons ?_ (.cons ?_ (.cons ?_ (.cons ?_ (.cons ?_ (.cons ?_ (.cons ?_ (.cons ?_ (.cons ?_ (.cons ?_ (.cons ?_ (.cons ?_ (.cons ?_ (.cons ?_ (.cons ?_ (.cons ?_ .nil))))))))))))))))))))))
          · intro f a w' hI hf hanc hdesc hle hs' hd K hK
            have f5 : a.tmps[5]? = some (.pointer (some ⟨bd, 0, none⟩)) := hs'.2.2 5 (by kernel_rfl)
            unfold Go.Rel.stepOf
            go_simp
            exact hK _ _ (But.refl _ _) (hI) rfl
          · intro f a w' hI hf hanc hdesc hle hs' hd K hK
            obtain ⟨_, t0, rfl⟩ := hd 0 92 (by kernel_rfl)
            unfold Go.Rel.stepOf
            go_simp
            refine (taken_of S _ _ w' hI.1 HTT.out).mono ?_
            rintro e w2 ⟨rfl, rfl⟩
            exact hK _ _ (But.refl _ _) hI rfl
          · intro f a w' hI hf hanc hdesc hle hs' hd K hK
            have f6 : a.tmps[6]? = some (.pointer (some ⟨bw, 0, none⟩)) := hs'.2.2 6 (by kernel_rfl)
            unfold Go.Rel.stepOf
            go_simp
            exact hK _ _ (But.refl _ _) (hI) rfl
          · intro f a w' hI hf hanc hdesc hle hs' hd K hK
            obtain ⟨_, t2, rfl⟩ := hd 2 94 (by kernel_rfl)
            unfold Go.Rel.stepOf
            go_simp
            exact hK _ _ (But.refl _ _) (hI) rfl
          · intro f a w' hI hf hanc hdesc hle hs' hd K hK
            obtain ⟨_, t3, rfl⟩ := hd 3 95 (by kernel_rfl)
            unfold Go.Rel.stepOf
            go_simp
            exact hK _ _ (But.refl _ _) (hI) rfl
          · intro f a w' hI hf hanc hdesc hle hs' hd K hK
            obtain ⟨_, t4, rfl⟩ := hd 4 96 (by kernel_rfl)
            have cc := (rw_cells hI.2).2
            rw [HTT.out] at cc
            unfold Go.Rel.stepOf
            go_simp
            exact hK _ _ (But.refl _ _) (hI) rfl
          · intro f a w' hI hf hanc hdesc hle hs' hd K hK
            obtain ⟨_, t1, rfl⟩ := hd 1 93 (by kernel_rfl)
            obtain ⟨_, t5, rfl⟩ := hd 5 97 (by kernel_rfl)
            unfold Go.Rel.stepOf
            go_simp
            exact hK _ _ (But.refl _ _) (hI) rfl
          · intro f a w' hI hf hanc hdesc hle hs' hd K hK
            obtain ⟨_, t6, rfl⟩ := hd 6 98 (by kernel_rfl)
            unfold Go.Rel.stepOf
            go_simp
            exact hK _ _ (But.refl _ _) (hI) rfl
          · intro f a w' hI hf hanc hdesc hle hs' hd K hK
            obtain ⟨_, tg, rfl⟩ := hd 7 99 (by kernel_rfl)
            have f5 : a.tmps[5]? = some (.pointer (some ⟨bd, 0, none⟩)) := hs'.2.2 5 (by kernel_rfl)
            unfold Go.Rel.stepOf
            go_simp
            exact hK _ _ (But.refl _ _) (hI) rfl
          · intro f a w' hI hf hanc hdesc hle hs' hd K hK
            obtain ⟨_, tg, rfl⟩ := hd 7 99 (by kernel_rfl)
            obtain ⟨_, t8, rfl⟩ := hd 8 100 (by kernel_rfl)
            unfold Go.Rel.stepOf
            go_simp
            refine (left_of S _ _ w' hI.1 HLL.out).mono ?_
            rintro e w2 ⟨rfl, rfl⟩
            exact hK _ _ (But.refl _ _) hI rfl
          · intro f a w' hI hf hanc hdesc hle hs' hd K hK
            obtain ⟨_, tg, rfl⟩ := hd 7 99 (by kernel_rfl)
            have f6 : a.tmps[6]? = some (.pointer (some ⟨bw, 0, none⟩)) := hs'.2.2 6 (by kernel_rfl)
            unfold Go.Rel.stepOf
            go_simp
            exact hK _ _ (But.refl _ _) (hI) rfl
          · intro f a w' hI hf hanc hdesc hle hs' hd K hK
            obtain ⟨_, tg, rfl⟩ := hd 7 99 (by kernel_rfl)
            obtain ⟨_, t10, rfl⟩ := hd 10 102 (by kernel_rfl)
            unfold Go.Rel.stepOf
            go_simp
            exact hK _ _ (But.refl _ _) (hI) rfl
          · intro f a w' hI hf hanc hdesc hle hs' hd K hK
            obtain ⟨_, tg, rfl⟩ := hd 7 99 (by kernel_rfl)
            obtain ⟨_, t11, rfl⟩ := hd 11 103 (by kernel_rfl)
            unfold Go.Rel.stepOf
            go_simp
            exact hK _ _ (But.refl _ _) (hI) rfl
          · intro f a w' hI hf hanc hdesc hle hs' hd K hK
            obtain ⟨_, tg, rfl⟩ := hd 7 99 (by kernel_rfl)
            obtain ⟨_, t12, rfl⟩ := hd 12 104 (by kernel_rfl)
            obtain ⟨⟨A9, c9, cc⟩, _⟩ := rw_cells hI.2
            rw [HLT.out] at cc
            unfold Go.Rel.stepOf
            go_simp
            exact hK _ _ (But.refl _ _) hI ⟨_, _, rfl⟩
          · intro f a w' hI hf hanc hdesc hle hs' hd K hK
            obtain ⟨_, tg, rfl⟩ := hd 7 99 (by kernel_rfl)
            obtain ⟨_, t13, A13, c13, rfl⟩ := hd 13 105 (by kernel_rfl)
            unfold Go.Rel.stepOf
            go_simp
            exact hK _ _ (But.refl _ _) (hI) rfl
          · intro f a w' hI hf hanc hdesc hle hs' hd K hK
            obtain ⟨_, tg, rfl⟩ := hd 7 99 (by kernel_rfl)
            have f6 : a.tmps[6]? = some (.pointer (some ⟨bw, 0, none⟩)) := hs'.2.2 6 (by kernel_rfl)
            unfold Go.Rel.stepOf
            go_simp
            exact hK _ _ (But.refl _ _) (hI) rfl
          · intro f a w' hI hf hanc hdesc hle hs' hd K hK
            obtain ⟨_, tg, rfl⟩ := hd 7 99 (by kernel_rfl)
            obtain ⟨_, t15, rfl⟩ := hd 15 107 (by kernel_rfl)
            unfold Go.Rel.stepOf
            go_simp
            exact hK _ _ (But.refl _ _) (hI) rfl
          · intro f a w' hI hf hanc hdesc hle hs' hd K hK
            obtain ⟨_, tg, rfl⟩ := hd 7 99 (by kernel_rfl)
            obtain ⟨_, t16, rfl⟩ := hd 16 108 (by kernel_rfl)
            unfold Go.Rel.stepOf
            go_simp
            exact hK _ _ (But.refl _ _) (hI) rfl
          · intro f a w' hI hf hanc hdesc hle hs' hd K hK
            obtain ⟨_, tg, rfl⟩ := hd 7 99 (by kernel_rfl)
            obtain ⟨_, t17, rfl⟩ := hd 17 109 (by kernel_rfl)
            have cc := (rw_cells hI.2).2
            rw [HTT.out] at cc
            unfold Go.Rel.stepOf
            go_simp
            exact hK _ _ (But.refl _ _) (hI) rfl
          · intro f a w' hI hf hanc hdesc hle hs' hd K hK
            obtain ⟨_, tg, rfl⟩ := hd 7 99 (by kernel_rfl)
            obtain ⟨_, t14, rfl⟩ := hd 14 106 (by kernel_rfl)
            obtain ⟨_, t18, rfl⟩ := hd 18 110 (by kernel_rfl)
            have hwr : IntKind.i64.wrap (L : Int) = (L : Int) := IntWalk.i64_in _ (by omega)
            unfold Go.Rel.stepOf
            go_simp
            exact hK _ _ (But.refl _ _) (hI) rfl
          · intro f a w' hI hf hanc hdesc hle hs' hd K hK
            obtain ⟨_, tg, rfl⟩ := hd 7 99 (by kernel_rfl)
            obtain ⟨_, t9, rfl⟩ := hd 9 101 (by kernel_rfl)
            obtain ⟨_, t19, rfl⟩ := hd 19 111 (by kernel_rfl)
            unfold Go.Rel.stepOf
            go_simp
            exact hK _ _ (But.refl _ _) (hI) rfl
          · intro f a w' hI hf hanc hdesc hle hs' hd K hK
            obtain ⟨_, t7, rfl⟩ := hd 7 99 (by kernel_rfl)
            obtain ⟨_, t20, rfl⟩ := hd 20 112 (by kernel_rfl)
            unfold Go.Rel.stepOf
            go_simp
            exact hK _ _ (But.refl _ _) (hI) rfl
        case hend2 =>
          intro f a w4 hall hI hle hs' hR'
          have hI2 := Lib.hid hI
          have HBF2 : Hid (But S w2 w4) := Lib.hid (HBF.out.trans hle)
          clear hI hall hle
          obtain ⟨v92, s92, _⟩ := hR' 0 92 (by kernel_rfl)
          obtain ⟨v93, s93, _⟩ := hR' 1 93 (by kernel_rfl)
          obtain ⟨v94, s94, _⟩ := hR' 2 94 (by kernel_rfl)
          obtain ⟨v95, s95, _⟩ := hR' 3 95 (by kernel_rfl)
          obtain ⟨v96, s96, _⟩ := hR' 4 96 (by kernel_rfl)
          obtain ⟨v97, s97, _⟩ := hR' 5 97 (by kernel_rfl)
          obtain ⟨v98, s98, _⟩ := hR' 6 98 (by kernel_rfl)
          obtain ⟨v99, s99, _⟩ := hR' 7 99 (by kernel_rfl)
          obtain ⟨v100, s100, _⟩ := hR' 8 100 (by kernel_rfl)
          obtain ⟨v101, s101, _⟩ := hR' 9 101 (by kernel_rfl)
          obtain ⟨v102, s102, _⟩ := hR' 10 102 (by kernel_rfl)
          obtain ⟨v103, s103, _⟩ := hR' 11 103 (by kernel_rfl)
          obtain ⟨v104, s104, _⟩ := hR' 12 104 (by kernel_rfl)
          obtain ⟨v105, s105, _⟩ := hR' 13 105 (by kernel_rfl)
          obtain ⟨v106, s106, _⟩ := hR' 14 106 (by kernel_rfl)
          obtain ⟨v107, s107, _⟩ := hR' 15 107 (by kernel_rfl)
          obtain ⟨v108, s108, _⟩ := hR' 16 108 (by kernel_rfl)
          obtain ⟨v109, s109, _⟩ := hR' 17 109 (by kernel_rfl)
          obtain ⟨v110, s110, _⟩ := hR' 18 110 (by kernel_rfl)
          obtain ⟨v111, s111, _⟩ := hR' 19 111 (by kernel_rfl)
          obtain ⟨v112, s112, _⟩ := hR' 20 112 (by kernel_rfl)
          obtain ⟨_, s113, rfl⟩ := hR' 21 113 (by kernel_rfl)
          have e := hs'.shape
          simp only [List.toList_toArray, List.foldl, Go.Rel.reset, Array.getD_eq_getD_getElem?, s92, s93, s94, s95, s96, s97, s98, s99, s100, s101, s102, s103, s104, s105, s106, s107, s108, s109, s110, s111, s112, s113, Option.getD_some] at e
          simp at e
          clear hR' hs' s92 s93 s94 s95 s96 s97 s98 s99 s100 s101 s102 s103 s104 s105 s106 s107 s108 s109 s110 s111 s112 s113
          subst e
          go_wp2
          go_roundw
          case rel => exact ⟨k + 1, d', by omega, by omega, by go_num, hI2, HBF2⟩
          case measure => simp [intOf]; omega
    · have hge : ¬ ((k : Int) < (n1 : Int)) ∨ ((k : Int) < (n1 : Int) ∧ ¬ ((k : Int) < 60)) := by omega
      have HBF : Hid (Below w.heap.size w wr) := Lib.hid (HB2.out.trans (hbut.out.below HB2.out.size HSold.out))
      clear hlt
      rcases hge with q1 | ⟨q1, q2⟩
      all_goals
        have hwk := HWk.out wr
        have HWr := Lib.hid hwk
        clear hwk
        go_wp2_with fail
        refine HWr.out.mono ?_
        rintro e w4 ⟨rfl, hb4⟩
        go_wp2
        go_ret
        exact ⟨rfl, HBF.out.trans (hb4.mono HBF.out.size)⟩
end Go.Proofs.Ytonbojecgggheaa
