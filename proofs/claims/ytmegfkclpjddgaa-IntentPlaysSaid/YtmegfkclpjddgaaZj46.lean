/-
  Whatever is added, turned, let go and asked, the intentions are what the document says: the law IntentPlays, walked (layer 17).
-/
import Derived.Test.YtmegfkclpjddgaaZj44
import Derived.Test.YtmegfkclpjddgaaZj45
namespace Go.Proofs.Ytmegfkclpjddgaa
open Go.RowKit Go.Rel
set_option linter.unusedSimpArgs false
set_option linter.unusedVariables false

/-- Within a region of which operation n alone changes what was there, behind which Q holds; rows: which operations yield rows of intentions, and which. -/
structure PlR (n : Nat) (rows : Nat → Option (List Ir)) (W0 : World) (Q : World → Prop) (f : Nat → Bool) (e : Nat → Value) (w : World) : Prop where
  ahead : f n = false → Below W0.heap.size W0 w
  after_ : f n = true → Q w
  kr : ∀ j m, rows j = some m → f j = true → ∃ A c, e j = .slice A m.length c ∧ SK irC 5 w A m.length m
section
variable {ops : Array Oper} {n : Nat} {rows : Nat → Option (List Ir)} {W0 w w' : World} {Q : World → Prop} {f : Nat → Bool} {e e' : Nat → Value} {v : Value}
theorem PlR.start (e : Nat → Value) : PlR n rows W0 Q (fun _ => false) e { W0 with drawn := W0.drawn + 1 } :=
  ⟨fun _ => ⟨rfl, rfl, rfl, Nat.le_refl _, fun _ _ => rfl⟩, (fun h => by cases h), (fun _ _ _ h => by cases h)⟩
theorem PlR.keep {j : Nat} (h : PlR n rows W0 Q f e w) (hn : j ≠ n) (hr : rows j = none) (hp : Go.Rel.Put ops j e v e') : PlR n rows W0 Q (Go.Rel.upd f j) e' w := by
  refine ⟨by rw [ale_off hn]; exact h.ahead, by rw [ale_off hn]; exact h.after_, fun i m hi hf => ?_⟩
  have hij : i ≠ j := fun q => by rw [q, hr] at hi; cases hi
  rw [ale_off (Ne.symm hij)] at hf
  rw [hp.1 i hij]
  exact h.kr i m hi hf
theorem PlR.down (h : PlR n rows W0 Q f e w) (hn : f n = true) (hQ : ∀ w w', Q w → Below w.heap.size w w' → Q w') (hb : Below w.heap.size w w') : PlR n rows W0 Q f e w' :=
  ⟨fun z => (by rw [hn] at z; cases z), fun z => hQ _ _ (h.after_ z) hb, fun i m hi hf => by
    obtain ⟨A, c, h1, h2⟩ := h.kr i m hi hf
    exact ⟨A, c, h1, h2.below hb⟩⟩
theorem PlR.first (h : PlR n rows W0 Q f e w) (hr : rows n = none) (hz : ∀ i m, rows i = some m → f i = false) (hq : Q w') : PlR n rows W0 Q (Go.Rel.upd f n) e' w' :=
  ⟨(fun z => by rw [ale_on] at z; cases z), fun _ => hq, fun i m hi hf => by
    have hij : i ≠ n := fun q => by rw [q, hr] at hi; cases hi
    rw [ale_off (Ne.symm hij), hz i m hi] at hf; cases hf⟩
theorem PlR.row {j : Nat} {m : List Ir} {A : Option Addr} {c : Nat} (h : PlR n rows W0 Q f e w) (hn : f n = true) (hjn : j ≠ n) (hr : rows j = some m) (hQ : ∀ w w', Q w → Below w.heap.size w w' → Q w') (hb : Below w.heap.size w w') (hs : SK irC 5 w' A m.length m)
    (hd : ((ops[j]?).bind (·.dst)).isSome = true) (hp : Go.Rel.Put ops j e (.slice A m.length c) e') : PlR n rows W0 Q (Go.Rel.upd f j) e' w' := by
  have h1 := h.down hn hQ hb
  refine ⟨by rw [ale_off hjn]; exact h1.ahead, by rw [ale_off hjn]; exact h1.after_, fun i m2 hi hf => ?_⟩
  by_cases hij : i = j
  · subst hij
    rw [hr] at hi
    cases hi
    exact ⟨A, c, hp.2 hd, hs⟩
  · rw [ale_off (Ne.symm hij)] at hf
    rw [hp.1 i hij]
    exact h1.kr i m2 hi hf
end
def plRows (tl fm : List Ir) : Nat → Option (List Ir)
  | 15 => some fm
  | 19 => some tl
  | 25 => some fm
  | _ => none
theorem plRows_mem {tl fm : List Ir} {i : Nat} {m : List Ir} (h : plRows tl fm i = some m) : i = 15 ∨ i = 19 ∨ i = 25 := by
  unfold plRows at h
  split at h
  · exact .inl rfl
  · exact .inr (.inl rfl)
  · exact .inr (.inr rfl)
  · cases h
def iplE (Bp : Nat) (Bd : Nat) (b : Nat) (off : Nat) (n : Nat) (c : Nat) (k : Nat) (kind : Int) (src : ByteArray) (dst : ByteArray) (allow : Bool) (old : Nat) (ix : Nat) (lst : Nat) : Nat → Value
  | 0 | 9 | 30 => .pointer (some ⟨Bp, 0, none⟩)
  | 1 | 16 | 17 | 32 | 33 => .pointer (some ⟨Bd, 0, none⟩)
  | 2 | 10 | 20 => .slice (some ⟨b, off, none⟩) n c
  | 3 | 11 | 21 => .int .i64 (k : Int)
  | 4 | 12 | 22 => .pointer (some ⟨b, off + k * 6, none⟩)
  | 5 => .agg #[.int .i64 kind, .string src, .string dst, .bool allow, .int .u64 (old : Int), .int .u64 (ix : Int)]
  | 6 | 26 => .bool true
  | 7 | 8 | 27 | 28 | 29 | 36 | 37 => .bool false
  | 13 | 23 => .pointer (some ⟨b, off + k * 6 + 2, none⟩)
  | 14 | 24 => .string dst
  | 18 => .pointer (some ⟨Bd, 1, none⟩)
  | 31 | 35 => .int .u64 (lst : Int)
  | 34 => .pointer (some ⟨Bd, 2, none⟩)
  | _ => undef
def iplF (Bp : Nat) (Bd : Nat) (Ad : Option Addr) (cd : Nat) (m : List Ir) : Nat → Value
  | 0 => .pointer (some ⟨Bp, 0, none⟩)
  | 2 | 3 => .pointer (some ⟨Bd, 0, none⟩)
  | 4 => .pointer (some ⟨Bd, 1, none⟩)
  | 5 => .slice Ad m.length cd
  | 6 | 7 | 8 | 9 | 10 => .bool true
  | _ => undef
/-- Both intents, new. -/
theorem both_new {w w1 w2 : World} {g0 Bp Bt Bd m : Nat} (hp : InAt (fun k => g0 ≤ k) w1 Bp Bt ⟨m, [], 0⟩) (hg : w.heap.size = g0) (hb1 : Below g0 w w1) (hd : RiAt (· = Bd) w2 Bd ⟨m, [], 0⟩) (hBd : w1.heap.size = Bd) (hb2 : Below w1.heap.size w1 w2) :
    Both (fun k => g0 ≤ k) w2 Bp Bt ⟨m, [], 0⟩ Bd ⟨m, [], 0⟩ := by
  have h1 := hb1.size
  have h2 := hb2.size
  have h3 := hd.lt
  exact ⟨fun k => g0 ≤ k ∧ k < Bd, (· = Bd), (hp.narrow fun k hk hs => ⟨hs, by omega⟩).below hb2, hd, fun k hk => ⟨hk.1, by omega, by omega⟩, fun k hk => ⟨by omega, by omega⟩, fun k hk => by omega⟩
set_option maxHeartbeats 8000000 in
set_option maxRecDepth 100000 in
theorem plays_walk (m : Int) (hm : -9223372036854775808 ≤ m ∧ m ≤ 9223372036854775807) (A : Option Addr) (n c : Nat) (ss : List ISt) (w : World) (hS : SK stCs 6 w A n ss) (hok : ∀ s ∈ ss, s.Ok) (hn : n ≤ maxLen) :
    Calls Try.prog 3 #[.int .i64 m, .slice A n c] w fun e w' => e = .returned (.bool true) ∧ Below w.heap.size w w' := by
  unfold maxLen at hn
  have hn' : (n : Int) ≤ 9223372036854775807 := by omega
  obtain ⟨g0, hg0⟩ : ∃ g0, w.heap.size = g0 := ⟨_, rfl⟩
  have HN := Lib.hid (inew_any m w hm)
  rw [hg0] at HN ⊢
  have HNd : Hid (∀ w1, Calls Try.prog 11 #[.int .i64 m] w1 fun e w' => e = .returned (.pointer (some ⟨w1.heap.size, 0, none⟩)) ∧ RiAt (· = w1.heap.size) w' w1.heap.size ⟨mostT m, [], 0⟩ ∧ Below w1.heap.size w1 w') := Lib.hid fun w1 => rinew_any m w1 hm
  have HSS := Lib.hid hS
  have HSl := Lib.hid hS.1
  have HOk := Lib.hid hok
  have HG0 := Lib.hid hg0
  clear hm hS hok hn hg0
  go_enter Try.func3, Try.ntmps3
  go_wp2_with fail
  refine HN.out.mono ?_
  rintro e w1 ⟨Bp, Bt, rfl, hp, hb1⟩
  have HP1 := Lib.hid hp
  have HB1 := Lib.hid hb1
  clear HN hp hb1
  go_wp2_with fail
  refine (HNd.out w1).mono ?_
  rintro e w2 ⟨rfl, hd, hb2⟩
  obtain ⟨Bd, hBd⟩ : ∃ Bd, w1.heap.size = Bd := ⟨_, rfl⟩
  rw [hBd] at hd ⊢
  have HBo := Lib.hid (both_new HP1.out HG0.out HB1.out hd hBd hb2)
  have HB2 : Hid (Below g0 w w2) := Lib.hid (HB1.out.trans (hb2.mono (by rw [← HG0.out]; have := HB1.out.size; exact this)))
  clear HNd hd hb2 hBd HP1 HB1
  go_wp2
  go_loopw [7] (fun iv wr => ∃ (k : Nat) (t : Im), k ≤ n ∧ iv = .int .i64 (k : Int) ∧ Hid (Both (fun k => g0 ≤ k) wr Bp Bt t Bd t) ∧ Hid (Below g0 w wr)) (fun iv _ => n - (intOf iv).toNat)
  case atStart => exact ⟨0, _, Nat.zero_le _, rfl, HBo, HB2⟩
  case round =>
    obtain ⟨k, t, hk, rfl, hbo, hb⟩ := hrel
    have hz3 : g0 ≤ wr.heap.size := by have := hb.out.size; have := HG0.out; omega
    by_cases hlt : k < n ∧ k < 80
    · obtain ⟨h1, h2⟩ := hlt
      have hkl : k < ss.length := by rw [HSl.out]; exact h1
      have ht := HSS.out.below (w' := wr) (by rw [HG0.out]; exact hb.out)
      obtain ⟨b, off, rfl, hbl, hit⟩ := ht.at_ h1 hkl
      have hso := HOk.out ss[k] (List.getElem_mem _)
      obtain ⟨s, hs⟩ : ∃ s, ss[k] = s := ⟨_, rfl⟩
      rw [hs] at hit hso
      have HKb := Lib.hid (show ∀ wx, Below g0 w wx → ItAt stCs wx b (off + k * 6) s from fun wx hx => by
        obtain ⟨b', off', e, _, h2⟩ := (HSS.out.below (w' := wx) (by rw [HG0.out]; exact hx)).at_ h1 hkl
        cases e
        rw [hs] at h2
        exact h2)
      have HSt0 := Lib.hid (fun (W : World) (hW : Below wr.heap.size wr W) => step_any s W (hbo.out.below hW) hso)
      obtain ⟨t', ht'⟩ : ∃ t', s.after t = t' := ⟨_, rfl⟩
      rw [ht'] at HSt0
      obtain ⟨kind, src, dst, allow, old, ix⟩ := s
      have HDs : Hid (dst.size ≤ maxLen) := Lib.hid hso.dst
      have HK : Hid (∀ wx, But (fun k => g0 ≤ k) wr wx → ItAt stCs wx b (off + k * 6) ⟨kind, src, dst, allow, old, ix⟩) := Lib.hid fun wx hx => HKb.out wx (hb.out.trans (hx.below hz3 fun j hj e => by omega))
      have HSt : Hid (∀ W, Below wr.heap.size wr W → Calls Try.prog 12 #[.pointer (some ⟨Bp, 0, none⟩), .pointer (some ⟨Bd, 0, none⟩), .agg #[.int .i64 kind, .string src, .string dst, .bool allow, .int .u64 (old : Int), .int .u64 (ix : Int)]] W fun e w2 => e = .returned (.bool true) ∧ Both (fun k => g0 ≤ k) w2 Bp Bt t' Bd t' ∧ But (fun k => g0 ≤ k) W w2) := Lib.hid fun W hW => HSt0.out W hW
      have HQs : Hid (∀ w1 w2, (Both (fun k => g0 ≤ k) w1 Bp Bt t' Bd t' ∧ But (fun k => g0 ≤ k) wr w1) → Below w1.heap.size w1 w2 → (Both (fun k => g0 ≤ k) w2 Bp Bt t' Bd t' ∧ But (fun k => g0 ≤ k) wr w2)) := Lib.hid fun w1 w2 h9 h8 => ⟨h9.1.below h8, h9.2.trans (But.of_below h8)⟩
      obtain ⟨fm, hfm⟩ : ∃ fm, forI t'.l dst = fm := ⟨_, rfl⟩
      obtain ⟨lst, hlst⟩ : ∃ lst, t'.last = lst := ⟨_, rfl⟩
      have HFm := Lib.hid hfm
      have HLst := Lib.hid hlst
      have htl : t'.l.length ≤ 1000 := by
        have hx : ∀ W e w2, StepPost (fun k => g0 ≤ k) W Bp Bt Bd t' e w2 → t'.l.length ≤ 64 := fun W e w2 h9 => by
          obtain ⟨_, h8, _⟩ := h9
          obtain ⟨Sp, h7⟩ := h8.read
          exact Nat.le_trans h7.ok.len h7.ok.most.2
        have hok0 : ImOk t := by obtain ⟨Sp, h7⟩ := hbo.out.read; exact h7.ok
        have hok1 : ImOk t' := by
          rw [← ht']
          unfold ISt.after
          split
          · exact hok0.add hso.src hso.dst hso.ix
          · split
            · exact hok0.turn hso.ix
            · split
              · exact hok0.drop hso.ix
              · exact hok0
        exact Nat.le_trans (Nat.le_trans hok1.len hok1.most.2) (by decide)
      have HTl := Lib.hid htl
      have HFl : Hid (fm.length ≤ maxLen) := Lib.hid (by rw [← hfm]; have := for_length t'.l dst; unfold maxLen; omega)
      have HKn := Lib.hid h1
      have q1 : (k : Int) < (n : Int) := by omega
      have q2 : (k : Int) < 80 := by omega
      have q0 : (0 : Int) ≤ (k : Int) := by omega
      clear ht hit hso hs ht' hkl HKb HSt0 hfm hlst htl
      go_wp2_with fail
      have hre : ∀ w : World, (But (fun k => g0 ≤ k)) w w := (fun w => But.refl _ w)
      have hrd : ∀ (ops9 : Array Oper) (f9 : Nat → Bool) (e9 : Nat → Value) (w9 : World) (i9 : Nat) (v9 : Value) (e8 : Nat → Value), [6, 15, 19, 25].contains i9 = false → (PlR 6 (plRows t'.l fm) wr (fun w1 => Both (fun k => g0 ≤ k) w1 Bp Bt t' Bd t' ∧ But (fun k => g0 ≤ k) wr w1)) f9 e9 w9 → Go.Rel.Put ops9 i9 e9 v9 e8 → (PlR 6 (plRows t'.l fm) wr (fun w1 => Both (fun k => g0 ≤ k) w1 Bp Bt t' Bd t' ∧ But (fun k => g0 ≤ k) wr w1)) (Go.Rel.upd f9 i9) e8 w9 := (fun _ _ _ _ _ _ _ hj h hp => h.keep (fun q => by subst q; simp at hj) (by revert hj; unfold plRows; split <;> simp) hp)
      refine Go.Rel.wp_tabe (by kernel_rfl) (by kernel_rfl) (PlR 6 (plRows t'.l fm) wr (fun w1 => Both (fun k => g0 ≤ k) w1 Bp Bt t' Bd t' ∧ But (fun k => g0 ≤ k) wr w1)) (But (fun k => g0 ≤ k)) hre ((fun _ _ _ h k => h.trans k)) ((But.refl _ _).drew) PlR.start (iplE Bp Bd b off n c k kind src dst allow old ix lst) (fun | 15, v, w => True | 19, v, w => True | 25, v, w => True | _, _, _ => True) (fun i => ([15, 19, 25] : List Nat).contains i) (fun i => ([4, 5, 6, 12, 14, 15, 19, 22, 24, 25, 26, 31, 35, 36] : List Nat).contains i) (by kernel_rfl) (fun i v w w' h g => by revert h; split <;> exact id) [6, 15, 19, 25] (by decide) (hrd _) ?_ (Go.Rel.AllOf.get ?_) ?_
      · repeat (refine .cons (by first | exact Go.Rel.pure_sp rfl | exact Go.Rel.pure_yes (by kernel_rfl) (fun _ => by kernel_rfl) | exact Go.Rel.pure_no (by kernel_rfl) rfl) ?_)
        exact .nil
      · refine ⟨?_, ?_, ?_, ?_, ?_, ?_, ?_, ?_, ?_, ?_, ?_, ?_, ?_, ?_, trivial⟩
        · refine SpecE.gen (fun e => [(24, .slice (some ⟨b, off, none⟩) n c), (25, .int .i64 (k : Int))]) rfl rfl (fun _ => by kernel_rfl) fun f w' e hI hf hdesc hanc hle hX K hK => ?_
          have q0 : (0 : Int) ≤ (k : Int) := by omega
          have q1 := HKn.out
          have q2 : (k : Int) < (n : Int) := by omega
          go_simp
          exact hK _ _ (hre _) (fun e' hp => hrd _ f e w' 4 _ e' rfl hI hp) rfl
        · exact SpecE.ld (hrd _) hre (q := .pointer (some ⟨b, off + k * 6, none⟩)) (h := fun _ w' _ _ _ _ _ hle => by obtain ⟨y0, y1, y2, y3, y4, y5⟩ := st_cells (HK.out w' hle); go_simp; rfl)
        · refine SpecE.gen (fun e => [(22, .pointer (some ⟨Bp, 0, none⟩)), (23, .pointer (some ⟨Bd, 0, none⟩)), (27, .agg #[.int .i64 kind, .string src, .string dst, .bool allow, .int .u64 (old : Int), .int .u64 (ix : Int)])]) rfl rfl (fun _ => by kernel_rfl) fun f w' e hI hf hdesc hanc hle hX K hK => ?_
          go_simp
          have z15 : f 15 = false := hdesc 60 15 (by kernel_rfl)
          have z19 : f 19 = false := hdesc 60 19 (by kernel_rfl)
          have z25 : f 25 = false := hdesc 60 25 (by kernel_rfl)
          refine (HSt.out w' (hI.ahead hf)).mono ?_
          rintro e9 w9 ⟨rfl, h9, hb9⟩
          exact hK _ _ hb9 (fun e' hp => hI.first rfl (fun i m hi => by rcases plRows_mem hi with rfl | rfl | rfl <;> assumption) ⟨h9, (But.of_below (hI.ahead hf)).trans hb9⟩) rfl
        · refine SpecE.gen (fun e => [(32, .slice (some ⟨b, off, none⟩) n c), (33, .int .i64 (k : Int))]) rfl rfl (fun _ => by kernel_rfl) fun f w' e hI hf hdesc hanc hle hX K hK => ?_
          have q0 : (0 : Int) ≤ (k : Int) := by omega
          have q1 := HKn.out
          have q2 : (k : Int) < (n : Int) := by omega
          go_simp
          exact hK _ _ (hre _) (fun e' hp => hrd _ f e w' 12 _ e' rfl hI hp) rfl
        · exact SpecE.ld (hrd _) hre (q := .pointer (some ⟨b, off + k * 6 + 2, none⟩)) (h := fun _ w' _ _ _ _ _ hle => by obtain ⟨y0, y1, y2, y3, y4, y5⟩ := st_cells (HK.out w' hle); go_simp; rfl)
        · refine SpecE.gen (fun e => [(31, .pointer (some ⟨Bp, 0, none⟩)), (36, .string dst)]) rfl rfl (fun _ => by kernel_rfl) fun f w' e hI hf hdesc hanc hle hX K hK => ?_
          have z6 : f 6 = true := hanc 60 6 (by kernel_rfl)
          obtain ⟨Sp, k9⟩ := (hI.after_ z6).1.read
          go_simp
          refine (ifor_any dst k9 HDs.out).mono ?_
          rintro e9 w9 ⟨v9, rfl, r9, hb9⟩
          rw [HFm.out] at r9
          obtain ⟨A9, c9, rfl, s9, _⟩ := SK.of_row irC_len r9
          exact hK _ _ (But.of_below hb9) (fun e' hp => hI.row z6 (by decide) (show plRows t'.l fm 15 = some fm from rfl) HQs.out hb9 s9 rfl hp) trivial
        · refine SpecE.gen (fun e => [(40, .pointer (some ⟨Bd, 1, none⟩))]) rfl rfl (fun _ => by kernel_rfl) fun f w' e hI hf hdesc hanc hle hX K hK => ?_
          have z6 : f 6 = true := hanc 60 6 (by kernel_rfl)
          obtain ⟨Sd, Ad, cd, hok, hri⟩ := (hI.after_ z6).1.ref
          have c1 := hri.c1
          go_simp
          exact hK _ _ (But.refl _ _) (fun e' hp => hI.row z6 (by decide) (show plRows t'.l fm 19 = some t'.l from rfl) HQs.out (Below.refl _ _) hri.row rfl hp) trivial
        · refine SpecE.gen (fun e => [(42, .slice (some ⟨b, off, none⟩) n c), (43, .int .i64 (k : Int))]) rfl rfl (fun _ => by kernel_rfl) fun f w' e hI hf hdesc hanc hle hX K hK => ?_
          have q0 : (0 : Int) ≤ (k : Int) := by omega
          have q1 := HKn.out
          have q2 : (k : Int) < (n : Int) := by omega
          go_simp
          exact hK _ _ (hre _) (fun e' hp => hrd _ f e w' 22 _ e' rfl hI hp) rfl
        · exact SpecE.ld (hrd _) hre (q := .pointer (some ⟨b, off + k * 6 + 2, none⟩)) (h := fun _ w' _ _ _ _ _ hle => by obtain ⟨y0, y1, y2, y3, y4, y5⟩ := st_cells (HK.out w' hle); go_simp; rfl)
        · refine SpecE.gen (fun e => [(41, e 19), (46, .string dst)]) rfl rfl (fun _ => by kernel_rfl) fun f w' e hI hf hdesc hanc hle hX K hK => ?_
          have z6 : f 6 = true := hanc 60 6 (by kernel_rfl)
          obtain ⟨A8, c8, q8, s8⟩ := hI.kr 19 t'.l rfl (hanc 60 19 (by kernel_rfl))
          simp only [q8]
          go_simp
          refine (rifor_any A8 _ c8 t'.l dst w' s8 HTl.out HDs.out).mono ?_
          rintro e9 w9 ⟨v9, rfl, r9, hb9⟩
          rw [HFm.out] at r9
          obtain ⟨A9, c9, rfl, s9, _⟩ := SK.of_row irC_len r9
          exact hK _ _ (But.of_below hb9) (fun e' hp => hI.row z6 (by decide) (show plRows t'.l fm 25 = some fm from rfl) HQs.out hb9 s9 rfl hp) trivial
        · refine SpecE.gen (fun e => [(37, e 15), (47, e 25)]) rfl rfl (fun _ => by kernel_rfl) fun f w' e hI hf hdesc hanc hle hX K hK => ?_
          have z6 : f 6 = true := hanc 60 6 (by kernel_rfl)
          obtain ⟨A1, c1, q1, s1⟩ := hI.kr 15 fm rfl (hanc 60 15 (by kernel_rfl))
          obtain ⟨A2, c2, q2, s2⟩ := hI.kr 25 fm rfl (hanc 60 25 (by kernel_rfl))
          simp only [q1, q2]
          go_simp
          refine (risame_any A1 _ c1 fm A2 c2 w' s1 s2 HFl.out).mono ?_
          rintro e9 w9 ⟨rfl, hb9⟩
          exact hK _ _ (But.of_below hb9) (fun e' hp => (hI.down z6 HQs.out hb9).keep (by decide) rfl hp) rfl
        · refine SpecE.gen (fun e => [(52, .pointer (some ⟨Bp, 0, none⟩))]) rfl rfl (fun _ => by kernel_rfl) fun f w' e hI hf hdesc hanc hle hX K hK => ?_
          have z6 : f 6 = true := hanc 60 6 (by kernel_rfl)
          obtain ⟨Sp, k9⟩ := (hI.after_ z6).1.read
          go_simp
          refine (ilast_any k9).mono ?_
          rintro e9 w9 ⟨rfl, rfl⟩
          rw [HLst.out]
          exact hK _ _ (But.refl _ _) (fun e' hp => hI.keep (by decide) rfl hp) rfl
        · exact SpecE.ld (hrd _) hre (q := .pointer (some ⟨Bd, 2, none⟩)) (h := fun f w' _ hI _ _ hanc _ => by have z6 : f 6 = true := hanc 60 6 (by kernel_rfl); obtain ⟨Sd, Ad, cd, hok, hri⟩ := (hI.after_ z6).1.ref; have c2 := hri.c2; rw [HLst.out] at c2; go_simp; rfl)
        · refine SpecE.gen (fun e => [(53, .int .u64 (lst : Int)), (57, .int .u64 (lst : Int))]) rfl rfl (fun _ => by kernel_rfl) fun f w' e hI hf hdesc hanc hle hX K hK => ?_
          have hq : ((lst : Int) != (lst : Int)) = false := by simp
          go_simp
          exact hK _ _ (hre _) (fun e' hp => hrd _ f e w' 36 _ e' rfl hI hp) rfl
      · intro f w6 e hall hJ hle hv
        have HQ6 := Lib.hid (hJ.after_ (hall 6 (by decide)))
        have HO6 : Hid (Both (fun k => g0 ≤ k) w6 Bp Bt t' Bd t') := Lib.hid HQ6.out.1
        have HB6 : Hid (Below g0 w w6) := Lib.hid (hb.out.trans (HQ6.out.2.below hz3 fun j hj e => by omega))
        have v9 := hv 37 rfl
        simp only [Go.Rel.finL, List.setIfInBounds_toArray, List.set_cons_succ, List.set_cons_zero]
        rw [show e 37 = .bool false from v9]
        clear hv hall hJ hle v9
        go_wp2
        go_roundw
        case rel => exact ⟨k + 1, t', by omega, by go_num, HO6, HB6⟩
        case measure => simp [intOf]; omega
    · have q : ¬ ((k : Int) < (n : Int) ∧ (k : Int) < 80) := by omega
      obtain ⟨Sd, Ad, cd, -, hri⟩ := hbo.out.ref
      obtain ⟨Sp, hkp⟩ := hbo.out.read
      have HRf := Lib.hid hri
      obtain ⟨m, hm⟩ : ∃ m, t.l = m := ⟨_, rfl⟩
      have HTm := Lib.hid hm
      have HMl : Hid (m.length ≤ maxLen) := Lib.hid (by
        have h1 := hkp.ok.len
        have h2 := hkp.ok.most
        rw [← hm]
        unfold maxLen
        omega)
      have HCl : Hid (∀ w', Below wr.heap.size wr w' → Calls Try.prog 17 #[.pointer (some ⟨Bp, 0, none⟩)] w' fun e w2 => ∃ A c, e = .returned (.slice A m.length c) ∧ SK irC 5 w2 A m.length m ∧ Below w'.heap.size w' w2) := Lib.hid fun w' hw => by
        refine (ilist_any (hkp.below hw)).mono ?_
        rw [HTm.out]
        rintro e w2 ⟨v, e1, s1, b1⟩
        obtain ⟨A, c, rfl, s2, _⟩ := SK.of_row irC_len s1
        exact ⟨A, c, e1, s2, b1⟩
      clear hri hkp hm
      have HDone : Hid (∀ w6, Below wr.heap.size wr w6 → Below g0 w w6) := Lib.hid fun w6 hJ => hb.out.trans (hJ.mono hz3)
      rcases (show (¬ k < n) ∨ (k < n ∧ ¬ k < 80) by omega) with h1 | ⟨h1, h2⟩
      · have q1 : ¬ (k : Int) < (n : Int) := by omega
        clear q
        go_wp2
        have hre : ∀ w : World, ((fun a b : World => Below a.heap.size a b)) w w := (fun w => Below.refl _ w)
        have hrd : ∀ (f : Nat → Bool) w i, i ≠ 1 → (fun (_ : Nat → Bool) (w : World) => Below wr.heap.size wr w) f w → (fun (_ : Nat → Bool) (w : World) => Below wr.heap.size wr w) (Go.Rel.upd f i) w := (fun _ _ _ _ h => h)
        refine Go.Rel.wp_tab (by kernel_rfl) (by kernel_rfl) (fun (_ : Nat → Bool) (w : World) => Below wr.heap.size wr w) ((fun a b : World => Below a.heap.size a b)) hre ((fun _ _ _ h k => h.trans (k.mono h.size))) ((⟨rfl, rfl, rfl, Nat.le_refl _, fun _ _ => rfl⟩)) ⟨rfl, rfl, rfl, Nat.le_refl _, fun _ _ => rfl⟩ (iplF Bp Bd Ad cd m) (fun | 1, v, w => ∃ A c, v = .slice A m.length c ∧ SK irC 5 w A m.length m | _, _, _ => True) (fun i => ([1] : List Nat).contains i) (fun i => ([1, 5, 6, 8] : List Nat).contains i) (by kernel_rfl) (fun i v w w' h g => by revert h; split <;> intro h <;> first | exact h | trivial | (obtain ⟨A, c, e, k⟩ := h; exact ⟨A, c, e, k.below g⟩)) 1 rfl hrd ?_ (Go.Rel.AllOf.get ?_) ?_
        · repeat (refine .cons (by first | exact Go.Rel.pure_sp rfl | exact Go.Rel.pure_yes (by kernel_rfl) (fun _ => by kernel_rfl) | exact Go.Rel.pure_no (by kernel_rfl) rfl) ?_)
          exact .nil
        · refine ⟨?_, ?_, ?_, ?_, trivial⟩
          · refine SpecOk.call 17 #[.pointer (some ⟨Bp, 0, none⟩)] rfl (by kernel_rfl) (fun _ => by kernel_rfl) fun _ w' hI _ _ _ _ => ?_
            refine (HCl.out w' hI).mono ?_
            rintro e9 w9 ⟨A9, c9, rfl, s9, hb9⟩
            exact ⟨_, rfl, hb9, (hI.trans (hb9.mono hI.size)), ⟨A9, c9, rfl, s9⟩⟩
          · exact SpecOk.ld hrd hre (q := .pointer (some ⟨Bd, 1, none⟩)) (h := fun _ w' hI _ _ _ _ => by have hri := HRf.out.below hI; have c1 := hri.c1; rw [HTm.out] at c1; go_simp; rfl)
          · refine SpecOk.gen (fun e => [(61, e 1), (65, .slice Ad m.length cd)]) rfl rfl (fun _ => by kernel_rfl) fun f w' e hI hf hdesc hanc hle hX K hK => ?_
            obtain ⟨A3, c3, e3, s3⟩ := hX 1 rfl rfl
            have hri := HRf.out.below hI
            have s5 := hri.row
            rw [HTm.out] at s5
            go_simp
            refine (risame_any A3 _ c3 m Ad cd w' s3 s5 HMl.out).mono ?_
            rintro e9 w9 ⟨rfl, hb9⟩
            exact hK _ _ hb9 (hI.trans (hb9.mono hI.size)) rfl
          · refine SpecOk.call 18 #[] rfl (by kernel_rfl) (fun _ => by kernel_rfl) fun _ w' hI _ _ _ _ => ?_
            refine (works_any w').mono ?_
            rintro e9 w9 ⟨rfl, hb9⟩
            exact ⟨_, rfl, hb9, (hI.trans (hb9.mono hI.size)), rfl⟩
        · intro f w6 e hall hJ hle hv
          have HB6 := Lib.hid (HDone.out w6 hJ)
          have v9 := hv 10 rfl
          simp only [Go.Rel.finL, List.setIfInBounds_toArray, List.set_cons_succ, List.set_cons_zero]
          rw [show e 10 = .bool true from v9]
          clear hv hall hJ hle v9
          go_wp2
          go_ret
          exact ⟨rfl, HB6.out⟩
      · have q1 : (k : Int) < (n : Int) := by omega
        have q2 : ¬ (k : Int) < 80 := by omega
        clear q
        go_wp2
        have hre : ∀ w : World, ((fun a b : World => Below a.heap.size a b)) w w := (fun w => Below.refl _ w)
        have hrd : ∀ (f : Nat → Bool) w i, i ≠ 1 → (fun (_ : Nat → Bool) (w : World) => Below wr.heap.size wr w) f w → (fun (_ : Nat → Bool) (w : World) => Below wr.heap.size wr w) (Go.Rel.upd f i) w := (fun _ _ _ _ h => h)
        refine Go.Rel.wp_tab (by kernel_rfl) (by kernel_rfl) (fun (_ : Nat → Bool) (w : World) => Below wr.heap.size wr w) ((fun a b : World => Below a.heap.size a b)) hre ((fun _ _ _ h k => h.trans (k.mono h.size))) ((⟨rfl, rfl, rfl, Nat.le_refl _, fun _ _ => rfl⟩)) ⟨rfl, rfl, rfl, Nat.le_refl _, fun _ _ => rfl⟩ (iplF Bp Bd Ad cd m) (fun | 1, v, w => ∃ A c, v = .slice A m.length c ∧ SK irC 5 w A m.length m | _, _, _ => True) (fun i => ([1] : List Nat).contains i) (fun i => ([1, 5, 6, 8] : List Nat).contains i) (by kernel_rfl) (fun i v w w' h g => by revert h; split <;> intro h <;> first | exact h | trivial | (obtain ⟨A, c, e, k⟩ := h; exact ⟨A, c, e, k.below g⟩)) 1 rfl hrd ?_ (Go.Rel.AllOf.get ?_) ?_
        · repeat (refine .cons (by first | exact Go.Rel.pure_sp rfl | exact Go.Rel.pure_yes (by kernel_rfl) (fun _ => by kernel_rfl) | exact Go.Rel.pure_no (by kernel_rfl) rfl) ?_)
          exact .nil
        · refine ⟨?_, ?_, ?_, ?_, trivial⟩
          · refine SpecOk.call 17 #[.pointer (some ⟨Bp, 0, none⟩)] rfl (by kernel_rfl) (fun _ => by kernel_rfl) fun _ w' hI _ _ _ _ => ?_
            refine (HCl.out w' hI).mono ?_
            rintro e9 w9 ⟨A9, c9, rfl, s9, hb9⟩
            exact ⟨_, rfl, hb9, (hI.trans (hb9.mono hI.size)), ⟨A9, c9, rfl, s9⟩⟩
          · exact SpecOk.ld hrd hre (q := .pointer (some ⟨Bd, 1, none⟩)) (h := fun _ w' hI _ _ _ _ => by have hri := HRf.out.below hI; have c1 := hri.c1; rw [HTm.out] at c1; go_simp; rfl)
          · refine SpecOk.gen (fun e => [(61, e 1), (65, .slice Ad m.length cd)]) rfl rfl (fun _ => by kernel_rfl) fun f w' e hI hf hdesc hanc hle hX K hK => ?_
            obtain ⟨A3, c3, e3, s3⟩ := hX 1 rfl rfl
            have hri := HRf.out.below hI
            have s5 := hri.row
            rw [HTm.out] at s5
            go_simp
            refine (risame_any A3 _ c3 m Ad cd w' s3 s5 HMl.out).mono ?_
            rintro e9 w9 ⟨rfl, hb9⟩
            exact hK _ _ hb9 (hI.trans (hb9.mono hI.size)) rfl
          · refine SpecOk.call 18 #[] rfl (by kernel_rfl) (fun _ => by kernel_rfl) fun _ w' hI _ _ _ _ => ?_
            refine (works_any w').mono ?_
            rintro e9 w9 ⟨rfl, hb9⟩
            exact ⟨_, rfl, hb9, (hI.trans (hb9.mono hI.size)), rfl⟩
        · intro f w6 e hall hJ hle hv
          have HB6 := Lib.hid (HDone.out w6 hJ)
          have v9 := hv 10 rfl
          simp only [Go.Rel.finL, List.setIfInBounds_toArray, List.set_cons_succ, List.set_cons_zero]
          rw [show e 10 = .bool true from v9]
          clear hv hall hJ hle v9
          go_wp2
          go_ret
          exact ⟨rfl, HB6.out⟩
end Go.Proofs.Ytmegfkclpjddgaa
