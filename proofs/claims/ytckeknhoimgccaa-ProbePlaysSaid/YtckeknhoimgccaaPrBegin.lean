/-
  begin of the program's ring, walked (layer 12).
-/
import Derived.Test.YtckeknhoimgccaaPrSearch
namespace Go.Proofs.Ytckeknhoimgccaa
open Go.RowKit
set_option linter.unusedSimpArgs false
set_option linter.unusedVariables false

/-- What has been done of begin's first region. -/
structure BeJ (S : Nat → Prop) (w0 : World) (B : Nat) (vd : Value) (A : Option Addr) (c : Nat) (g : Rg) (d d2 : Dr) (p : List Int) (f : Nat → Bool) (w : World) : Prop where
  ring : f 15 = false → RgIs true S w B A c g
  dw : DwAt S w vd (bif f 11 then d2 else d)
  fin : f 15 = true → ∃ A c, RgIs true S w B A c ⟨p, g.at_⟩
  but : But (fun k => k = B ∨ Tgt vd k) w0 w
section
variable {S : Nat → Prop} {w0 w w' : World} {B L : Nat} {vd : Value} {A : Option Addr} {c : Nat} {g : Rg} {d d2 : Dr} {p : List Int} {f : Nat → Bool}
theorem bupd_off {f : Nat → Bool} {j m : Nat} (h : m ≠ j) : Go.Rel.upd f j m = f m := by
  unfold Go.Rel.upd
  have : (m == j) = false := by rw [beq_eq_false_iff_ne]; exact h
  rw [this, Bool.false_or]
theorem BeJ.read (h : BeJ S w0 B vd A c g d d2 p f w) {j : Nat} (h1 : 15 ≠ j) (h2 : 11 ≠ j) : BeJ S w0 B vd A c g d d2 p (Go.Rel.upd f j) w :=
  ⟨by rw [bupd_off h1]; exact h.ring, by rw [bupd_off h2]; exact h.dw, by rw [bupd_off h1]; exact h.fin, h.but⟩
theorem BeJ.below (h : BeJ S w0 B vd A c g d d2 p f w) (hb : Below w.heap.size w w') {j : Nat} (h1 : 15 ≠ j) (h2 : 11 ≠ j) : BeJ S w0 B vd A c g d d2 p (Go.Rel.upd f j) w' := by
  refine BeJ.read ⟨fun z => (h.ring z).below hb, h.dw.below hb, fun z => ?_, h.but.trans (But.of_below hb)⟩ h1 h2
  obtain ⟨A, c, hr⟩ := h.fin z
  exact ⟨A, c, hr.below hb⟩
theorem BeJ.ordered (h : BeJ S w0 B vd A c g d d2 p f w) (zS : f 15 = false) (hd : DwAt S w' vd d2) (hb : But (Tgt vd) w w') (hT : ∀ k, Tgt vd k → S k) (hne : ¬ Tgt vd B) : BeJ S w0 B vd A c g d d2 p (Go.Rel.upd f 11) w' :=
  ⟨fun z => (h.ring zS).but hb hT hne, hd, (fun z => by rw [bupd_off (by decide), zS] at z; cases z), h.but.trans (hb.mono fun k e => .inr e)⟩
theorem BeJ.store (h : BeJ S w0 B vd A c g d d2 p f w) (hL : g.row.length = L) (hp : p.length = L) (zS : f 15 = false) {A' : Option Addr} {c' : Nat} (h1 : RVn S w A' L (p.map nV)) (h2 : L ≤ c') (h3 : c' ≤ maxLen) (h4 : A' = none → c' = 0) :
    w.cell? ⟨B, 1, none⟩ = some (.slice A L c) ∧ w.frozen? ⟨B, 1, none⟩ = false ∧ But S w (w.setCell ⟨B, 1, none⟩ (.slice A' L c')) ∧ (¬ Tgt vd B → BeJ S w0 B vd A c g d d2 p (Go.Rel.upd f 15) (w.setCell ⟨B, 1, none⟩ (.slice A' L c'))) := by
  have hri := h.ring zS
  have hset : But (· = B) w (w.setCell ⟨B, 1, none⟩ (.slice A' L c')) := But.set_ _ w B 1 _ rfl
  refine ⟨by have := hri.cl; rw [hL] at this; exact this, hri.froz 1, hset.mono (fun k e => by rw [e]; exact hri.mine), fun hne => ⟨(fun z => by cases z), ?_, fun _ => ⟨A', c', ?_⟩, h.but.trans (hset.mono fun k e => .inl e)⟩⟩
  · rw [bupd_off (by decide)]
    exact h.dw.but hset (fun k e => by rw [e]; exact hri.mine) (fun k e ht => hne (e ▸ ht))
  · have h5 := hri.setRow (A' := A') (c' := c') (row := p) (by rw [hp]; exact h1) (by omega) h3 h4
    rw [hp] at h5
    exact h5
end
def beR (S : Nat → Prop) (B : Nat) (vd : Value) (A : Option Addr) (c : Nat) (L : Nat) (is : List Nat) (p : List Int) : Nat → Value → World → Prop
  | 0, v, _ => v = .pointer (some ⟨B, 0, none⟩)
  | 1, v, _ => v = .pointer (some ⟨B, 0, none⟩)
  | 2, v, _ => v = .pointer (some ⟨B, 0, none⟩)
  | 3, v, _ => v = .pointer (some ⟨B, 1, none⟩)
  | 4, v, _ => v = .slice A L c
  | 5, v, _ => v = vd
  | 6, v, _ => v = .pointer (some ⟨B, 0, none⟩)
  | 7, v, _ => v = .pointer (some ⟨B, 0, none⟩)
  | 8, v, _ => v = .pointer (some ⟨B, 1, none⟩)
  | 9, v, _ => v = .slice A L c
  | 10, v, _ => v = .int .i64 (L : Int)
  | 11, v, w => ∃ A c, v = .slice A L c ∧ RVn S w A L (is.map iV)
  | 12, v, w => ∃ A c, v = .slice A L c ∧ RVn S w A L (p.map nV) ∧ L ≤ c ∧ c ≤ maxLen ∧ (A = none → c = 0)
  | 13, v, _ => v = .pointer (some ⟨B, 0, none⟩)
  | 14, v, _ => v = .pointer (some ⟨B, 1, none⟩)
  | 15, v, _ => v = undef
  | _, _, _ => True
theorem beR_stable (S : Nat → Prop) (B : Nat) (vd : Value) (A : Option Addr) (c : Nat) (L : Nat) (is : List Nat) (p : List Int) : ∀ i v w w', beR S B vd A c L is p i v w → But S w w' → beR S B vd A c L is p i v w'
  | 0, _, _, _, h, _ | 1, _, _, _, h, _ | 2, _, _, _, h, _ | 3, _, _, _, h, _ | 4, _, _, _, h, _ | 5, _, _, _, h, _ | 6, _, _, _, h, _ | 7, _, _, _, h, _ | 8, _, _, _, h, _ | 9, _, _, _, h, _ | 10, _, _, _, h, _ | 13, _, _, _, h, _ | 14, _, _, _, h, _ | 15, _, _, _, h, _ => h
  | 11, _, _, _, ⟨A, c, e, h⟩, g => ⟨A, c, e, h.but g⟩
  | 12, _, _, _, h, g => by obtain ⟨A, c, e, h, h1⟩ := h; exact ⟨A, c, e, h.but g, h1⟩
  | _ + 16, _, _, _, h, _ => h

set_option maxHeartbeats 8000000 in
set_option maxRecDepth 100000 in
theorem begin_any {S : Nat → Prop} {B : Nat} {g : Rg} {d : Dr} (vd : Value) (w : World) (h : RgAt true S w B g) (hd : DwAt S w vd d) (hS : ∀ k, S k → k < w.heap.size) (hne : ¬ Tgt vd B) :
    Calls Try.prog 31 #[.pointer (some ⟨B, 0, none⟩), vd] w fun e w' => e = .returned (.tuple #[]) ∧ RgAt true S w' B (g.again d) ∧ DwAt S w' vd (d.afterO g.row.length) ∧ But (fun k => k = B ∨ Tgt vd k) w w' := by
  have HAok := Lib.hid (Rg.again_ok h.1 hd.1.1)
  obtain ⟨hok, A, c, hi⟩ := h
  have hf := Rg.few hok
  have hdo := order_length (g.row.length : Int) d
  have hone := order_once hd.1.1 (g.row.length : Int)
  have h64 : g.row.length ≤ 64 := by omega
  rw [sizeO_of h64] at hdo hone
  have HAg : Hid ((g.again d).row = pickL g.row (d.order g.row.length)) := Lib.hid rfl
  have hor := fun w' (hw : DwAt S w' vd d) => order_any S vd d (g.row.length : Int) w' hw
  obtain ⟨is, his⟩ : ∃ is, d.order (g.row.length : Int) = is := ⟨_, rfl⟩
  obtain ⟨d2, hd2⟩ : ∃ d2, d.afterO (g.row.length : Int) = d2 := ⟨_, rfl⟩
  obtain ⟨p, hp⟩ : ∃ p, pickL g.row is = p := ⟨_, rfl⟩
  obtain ⟨L, hL⟩ : ∃ L, g.row.length = L := ⟨_, rfl⟩
  have hpl : p.length = L := by rw [← hp, pickL_length, ← his, hdo, hL]
  have hisl : is.length = L := by rw [← his, hdo, hL]
  rw [his] at HAg hone
  rw [hp] at HAg
  rw [hd2] at hor ⊢
  rw [his] at hor
  rw [hL] at hf hor hone
  have HIn : Hid (∀ x ∈ is, x < L) := Lib.hid hone.2
  have HOr := Lib.hid hor
  have HPk : Hid (∀ (w' : World) (A2 : Option Addr) (c2 : Nat), RgIs true S w' B A c g → RV w' A2 L (is.map iV) → Calls Try.prog 33 #[.slice A L c, .slice A2 L c2] w' (IRow w' p)) := Lib.hid (fun w' A2 c2 hri hrv => by
    have := picked_any (S := S) (T := S) A L c g.row A2 L c2 is w' (by have := hri.lst (by omega); rw [hL] at this; exact this) hrv HIn.out (by omega)
    rw [hp] at this
    exact this)
  have HL := Lib.hid hL
  have HIs := Lib.hid hisl
  have HPl := Lib.hid hpl
  have HNe := Lib.hid hne
  have HSlt := Lib.hid hS
  have HT : Hid (S B ∧ ∀ k, Tgt vd k → S k) := Lib.hid ⟨hi.mine, fun k hk => hd.names k hk⟩
  have HJ0 : Hid (BeJ S w B vd A c g d d2 p (fun _ => false) { w with drawn := w.drawn + 1 }) := Lib.hid ⟨fun _ => hi.below ⟨rfl, rfl, rfl, Nat.le_refl _, fun _ _ => rfl⟩, hd.below ⟨rfl, rfl, rfl, Nat.le_refl _, fun _ _ => rfl⟩, (fun h => by cases h), (But.refl _ w).drew⟩
  clear hok hi hd hdo hone h64 hor his hd2 hp hL hpl hisl hne hS
  go_enter Try.func31, Try.ntmps31
  go_wp2
  refine Go.Rel.wp_region_states (by kernel_rfl) (by kernel_rfl) (by kernel_rfl) (by kernel_rfl) (BeJ S w B vd A c g d d2 p) (But S) (fun _ _ _ h k => h.trans k) ((But.refl _ _).drew) HJ0.out (beR S B vd A c L is p) (beR_stable S B vd A c L is p) ?hsteps ?hend
  case hsteps =>
    refine (.cons ?_ (.cons ?_ (.cons ?_ (.cons ?_ (.cons ?_ (.cons ?_ (.cons ?_ (.cons ?_ (.cons ?_ (.cons ?_ (.cons ?_ (.cons ?_ (.cons ?_ (.cons ?_ (.cons ?_ (.cons ?_ .nil))))))))))))))))
    · intro f a w' hI hf hanc hdesc hle hs' hd K hK
      have f0 : a.tmps[0]? = some (.pointer (some ⟨B, 0, none⟩)) := hs'.2.2 0 (by kernel_rfl)
      unfold Go.Rel.stepOf
      go_simp
      exact hK _ _ (But.refl _ _) (hI.read (j := 0) (by decide) (by decide)) rfl
    · intro f a w' hI hf hanc hdesc hle hs' hd K hK
      have f0 : a.tmps[0]? = some (.pointer (some ⟨B, 0, none⟩)) := hs'.2.2 0 (by kernel_rfl)
      unfold Go.Rel.stepOf
      go_simp
      exact hK _ _ (But.refl _ _) (hI.read (j := 1) (by decide) (by decide)) rfl
    · intro f a w' hI hf hanc hdesc hle hs' hd K hK
      obtain ⟨_, t1, rfl⟩ := hd 1 5 (by kernel_rfl)
      unfold Go.Rel.stepOf
      go_simp
      exact hK _ _ (But.refl _ _) (hI.read (j := 2) (by decide) (by decide)) rfl
    · intro f a w' hI hf hanc hdesc hle hs' hd K hK
      obtain ⟨_, t2, rfl⟩ := hd 2 6 (by kernel_rfl)
      unfold Go.Rel.stepOf
      go_simp
      exact hK _ _ (But.refl _ _) (hI.read (j := 3) (by decide) (by decide)) rfl
    · intro f a w' hI hf hanc hdesc hle hs' hd K hK
      obtain ⟨_, t3, rfl⟩ := hd 3 7 (by kernel_rfl)
      have zS : f 15 = false := hdesc 12 15 (by kernel_rfl)
      have cl : w'.cell? ⟨B, 1, none⟩ = some (.slice A L c) := by have := (hI.ring zS).cl; rw [HL.out] at this; exact this
      unfold Go.Rel.stepOf
      go_simp
      exact hK _ _ (But.refl _ _) (hI.read (j := 4) (by decide) (by decide)) rfl
    · intro f a w' hI hf hanc hdesc hle hs' hd K hK
      have f1 : a.tmps[1]? = some (vd) := hs'.2.2 1 (by kernel_rfl)
      unfold Go.Rel.stepOf
      go_simp
      exact hK _ _ (But.refl _ _) (hI.read (j := 5) (by decide) (by decide)) rfl
    · intro f a w' hI hf hanc hdesc hle hs' hd K hK
      have f0 : a.tmps[0]? = some (.pointer (some ⟨B, 0, none⟩)) := hs'.2.2 0 (by kernel_rfl)
      unfold Go.Rel.stepOf
      go_simp
      exact hK _ _ (But.refl _ _) (hI.read (j := 6) (by decide) (by decide)) rfl
    · intro f a w' hI hf hanc hdesc hle hs' hd K hK
      obtain ⟨_, t6, rfl⟩ := hd 6 10 (by kernel_rfl)
      unfold Go.Rel.stepOf
      go_simp
      exact hK _ _ (But.refl _ _) (hI.read (j := 7) (by decide) (by decide)) rfl
    · intro f a w' hI hf hanc hdesc hle hs' hd K hK
      obtain ⟨_, t7, rfl⟩ := hd 7 11 (by kernel_rfl)
      unfold Go.Rel.stepOf
      go_simp
      exact hK _ _ (But.refl _ _) (hI.read (j := 8) (by decide) (by decide)) rfl
    · intro f a w' hI hf hanc hdesc hle hs' hd K hK
      obtain ⟨_, t8, rfl⟩ := hd 8 12 (by kernel_rfl)
      have zS : f 15 = false := hdesc 12 15 (by kernel_rfl)
      have cl : w'.cell? ⟨B, 1, none⟩ = some (.slice A L c) := by have := (hI.ring zS).cl; rw [HL.out] at this; exact this
      unfold Go.Rel.stepOf
      go_simp
      exact hK _ _ (But.refl _ _) (hI.read (j := 9) (by decide) (by decide)) rfl
    · intro f a w' hI hf hanc hdesc hle hs' hd K hK
      obtain ⟨_, t9, rfl⟩ := hd 9 13 (by kernel_rfl)
      unfold Go.Rel.stepOf
      go_simp
      exact hK _ _ (But.refl _ _) (hI.read (j := 10) (by decide) (by decide)) rfl
    · intro f a w' hI hf hanc hdesc hle hs' hd K hK
      obtain ⟨_, t5, rfl⟩ := hd 5 9 (by kernel_rfl)
      obtain ⟨_, t10, rfl⟩ := hd 10 14 (by kernel_rfl)
      have zS : f 15 = false := hdesc 12 15 (by kernel_rfl)
      unfold Go.Rel.stepOf
      go_simp
      refine (HOr.out w' (by have := hI.dw; rw [hf] at this; exact this)).mono ?_
      rintro e w2 ⟨⟨A5, c5, rfl, hv5, _, hblk5⟩, hr5, hb5⟩
      rw [HIs.out] at hv5 ⊢
      exact hK _ _ (hb5.mono HT.out.2) (hI.ordered zS hr5 hb5 HT.out.2 HNe.out) ⟨_, _, rfl, hv5, fun b off e _ hs => by have := hblk5 b off e; have := HSlt.out b hs; have := hle.size; omega⟩
    · intro f a w' hI hf hanc hdesc hle hs' hd K hK
      obtain ⟨_, t4, rfl⟩ := hd 4 8 (by kernel_rfl)
      obtain ⟨_, t11, A11, c11, rfl, h11⟩ := hd 11 15 (by kernel_rfl)
      have zS : f 15 = false := hdesc 12 15 (by kernel_rfl)
      unfold Go.Rel.stepOf
      go_simp
      refine (HPk.out w' _ _ (hI.ring zS) h11.1).mono ?_
      rintro e w2 ⟨A5, c5, rfl, hv5, h1, h2, h3, hblk5, hb5⟩
      rw [HPl.out] at hv5 h1 ⊢
      exact hK _ _ (But.of_below hb5) (hI.below hb5 (by decide) (by decide)) ⟨_, _, rfl, ⟨hv5, fun b off e _ hs => by have := hblk5 b off e; have := HSlt.out b hs; have := hle.size; omega⟩, h1, h2, h3⟩
    · intro f a w' hI hf hanc hdesc hle hs' hd K hK
      obtain ⟨_, t0, rfl⟩ := hd 0 4 (by kernel_rfl)
      unfold Go.Rel.stepOf
      go_simp
      exact hK _ _ (But.refl _ _) (hI.read (j := 13) (by decide) (by decide)) rfl
    · intro f a w' hI hf hanc hdesc hle hs' hd K hK
      obtain ⟨_, t13, rfl⟩ := hd 13 17 (by kernel_rfl)
      unfold Go.Rel.stepOf
      go_simp
      exact hK _ _ (But.refl _ _) (hI.read (j := 14) (by decide) (by decide)) rfl
    · intro f a w' hI hf hanc hdesc hle hs' hd K hK
      obtain ⟨_, t14, rfl⟩ := hd 14 18 (by kernel_rfl)
      obtain ⟨_, t12, A12, c12, rfl, h12⟩ := hd 12 16 (by kernel_rfl)
      have zS := hf
      obtain ⟨x0, x1, x2, x3⟩ := h12
      obtain ⟨hc3, hf3, hb3, hJ3⟩ := hI.store HL.out HPl.out zS x0 x1 x2 x3
      unfold Go.Rel.stepOf
      go_simp
      exact hK _ _ hb3 (hJ3 HNe.out) rfl
  case hend =>
    intro f a w5 hall hJ hle hs' hR'
    have hd5 := hJ.dw
    rw [hall 11 (by decide)] at hd5
    obtain ⟨A5, c5, hri5⟩ := hJ.fin (hall 15 (by decide))
    have HRi5 := Lib.hid hri5
    have HD5 : Hid (DwAt S w5 vd d2) := Lib.hid hd5
    have HB5 := Lib.hid hJ.but
    clear hJ hall hle hri5 hd5
    obtain ⟨v4, s4, _⟩ := hR' 0 4 (by kernel_rfl)
    obtain ⟨v5, s5, _⟩ := hR' 1 5 (by kernel_rfl)
    obtain ⟨v6, s6, _⟩ := hR' 2 6 (by kernel_rfl)
    obtain ⟨v7, s7, _⟩ := hR' 3 7 (by kernel_rfl)
    obtain ⟨v8, s8, _⟩ := hR' 4 8 (by kernel_rfl)
    obtain ⟨v9, s9, _⟩ := hR' 5 9 (by kernel_rfl)
    obtain ⟨v10, s10, _⟩ := hR' 6 10 (by kernel_rfl)
    obtain ⟨v11, s11, _⟩ := hR' 7 11 (by kernel_rfl)
    obtain ⟨v12, s12, _⟩ := hR' 8 12 (by kernel_rfl)
    obtain ⟨v13, s13, _⟩ := hR' 9 13 (by kernel_rfl)
    obtain ⟨v14, s14, _⟩ := hR' 10 14 (by kernel_rfl)
    obtain ⟨v15, s15, _⟩ := hR' 11 15 (by kernel_rfl)
    obtain ⟨v16, s16, _⟩ := hR' 12 16 (by kernel_rfl)
    obtain ⟨v17, s17, _⟩ := hR' 13 17 (by kernel_rfl)
    obtain ⟨v18, s18, _⟩ := hR' 14 18 (by kernel_rfl)
    have e := hs'.shape
    simp only [List.toList_toArray, List.foldl, Go.Rel.reset, Array.getD_eq_getD_getElem?, s4, s5, s6, s7, s8, s9, s10, s11, s12, s13, s14, s15, s16, s17, s18, Option.getD_some] at e
    simp at e
    clear hR' hs' s4 s5 s6 s7 s8 s9 s10 s11 s12 s13 s14 s15 s16 s17 s18
    subst e
    have co : w5.cell? ⟨B, 2, none⟩ = some (.int .i64 (g.at_ : Int)) := HRi5.out.co
    have f2 : w5.frozen? ⟨B, 2, none⟩ = false := HRi5.out.froz 2
    have HFin : Hid (RgAt true S (w5.setCell ⟨B, 2, none⟩ (.int .i64 0)) B (g.again d)) := Lib.hid ⟨HAok.out, A5, c5, by
      have h1 := HRi5.out.setAt 0
      have e : g.again d = ⟨p, 0⟩ := by rw [← HAg.out]; rfl
      rw [e]
      exact h1⟩
    have HFd : Hid (DwAt S (w5.setCell ⟨B, 2, none⟩ (.int .i64 0)) vd d2) := Lib.hid (HD5.out.but (But.set_ (· = B) w5 B 2 _ rfl) (fun k e => by rw [e]; exact HT.out.1) (fun k e h => HNe.out (e ▸ h)))
    have HFb : Hid (But (fun k => k = B ∨ Tgt vd k) w (w5.setCell ⟨B, 2, none⟩ (.int .i64 0))) := Lib.hid (HB5.out.trans (But.set_ _ w5 B 2 _ (.inl rfl)))
    go_wp2
    go_end0
    exact ⟨rfl, HFin.out, HFd.out, HFb.out⟩
end Go.Proofs.Ytckeknhoimgccaa
