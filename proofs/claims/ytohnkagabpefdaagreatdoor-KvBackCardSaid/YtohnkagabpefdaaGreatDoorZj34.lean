/-
  The document's store: wrong, Set, Cas, Del, Lock, Unlock, walked (layer 16).
-/
import Derived.Test.YtohnkagabpefdaaGreatDoorZj32
import Derived.Test.YtohnkagabpefdaaGreatDoorZj33
namespace Go.Proofs.YtohnkagabpefdaaGreatDoor
open Go.RowKit
set_option linter.unusedSimpArgs false
set_option linter.unusedVariables false

/-- Del, with or without an index. -/
def kDelR (t : Tb Kp) (k : ByteArray) (cas : Bool) (old i : Nat) : Nat × Tb Kp := if cas then kDelCas t k old i else kDel t k i
/-- What is left of a modification behind the key and the value. -/
def modR (t : Tb Kp) (k : ByteArray) (i : Nat) (o : Option Nat) (n : Option Kp) : Nat × Tb Kp := match o with
  | some e => (e, t)
  | none => match n with
    | some v => putK t k v i
    | none => (0, t.dropT k i)
section
variable {t : Tb Kp} {k v : ByteArray} {i : Nat} {cs : List (Bool × Nat)} {n : Option Kp}
theorem modK_eq : modK t k i cs n = modR t k i (firstE ((keyB k.data.toList, 10) :: cs)) n := rfl
theorem modK_ok (h : wrongN k v = 0) : modK t k i (shortC v :: cs) n = modR t k i (firstE cs) n := by
  unfold wrongN at h
  split at h
  · next e =>
    split at h
    · next e2 => rw [modK_eq, firstE_cons, e, if_pos rfl, shortC, firstE_cons, decide_eq_true e2, if_pos rfl]
    · cases h
  · cases h
theorem modK_bad {x : Nat} (h : wrongN k v = x) (hx : x ≠ 0) : modK t k i (shortC v :: cs) n = (x, t) := by
  unfold wrongN at h
  split at h
  · next e =>
    split at h
    · exact absurd h.symm hx
    · next e2 => rw [← h, modK_eq, firstE_cons, e, if_pos rfl, shortC, firstE_cons, decide_eq_false e2, if_neg Bool.false_ne_true]; rfl
  · next e => rw [← h, modK_eq, firstE_cons, if_neg e]; rfl
theorem modK_ok0 (h : wrongN k ⟨#[]⟩ = 0) : modK t k i cs n = modR t k i (firstE cs) n := by
  rw [← modK_ok (cs := cs) h, modK_eq, modK_eq, firstE_cons, firstE_cons]
  rfl
theorem modK_bad0 {x : Nat} (h : wrongN k ⟨#[]⟩ = x) (hx : x ≠ 0) : modK t k i cs n = (x, t) := by
  rw [← modK_bad (cs := cs) h hx, modK_eq, modK_eq, firstE_cons, firstE_cons]
  rfl
theorem firstE_two (b c : Bool) (x y : Nat) : firstE [(b, x), (c, y)] = if b then (if c then none else some y) else some x := by
  rw [firstE_cons, firstE_cons, firstE_nil]
theorem firstE_one (b : Bool) (x : Nat) : firstE [(b, x)] = if b then none else some x := by
  rw [firstE_cons, firstE_nil]
end
theorem KrIs.entO {S : Nat → Prop} {w : World} {B : Nat} {A : Option Addr} {c : Nat} {t : Tb Kp} (h : KrIs S w B A c t) (key : ByteArray) : Calls Tryz.prog 11 #[.pointer (some ⟨B, 0, none⟩), .string key] w fun e w' => e = .returned (.tuple #[enV (entO t key), .bool (isO t key)]) ∧ Below w.heap.size w w' := krget_any key w h
theorem dropT_is {t : Tb Kp} {k : ByteArray} {i : Nat} (h : isO t k = true) : t.dropT k i = t.drop k i := by
  unfold Tb.dropT
  unfold isO at h
  rw [if_pos h]
theorem KrAt.below1 {S : Nat → Prop} {w W : World} {B : Nat} {t : Tb Kp} (h : KrAt (fun k => S k ∨ w.heap.size ≤ k) w B t) (hb : Below w.heap.size w W) : KrAt (fun k => S k ∨ w.heap.size ≤ k) W B t := by
  obtain ⟨a, A, c, h⟩ := h
  exact ⟨a, A, c, ((h.narrow (S' := fun k => (S k ∨ w.heap.size ≤ k) ∧ k < w.heap.size) fun k hk z => ⟨z, hk⟩).below hb).narrow fun k _ z => z.1⟩
set_option maxHeartbeats 2000000 in
theorem krset_any {S : Nat → Prop} {B : Nat} {t : Tb Kp} (key : ByteArray) (v : ByteArray) (i : Nat) (w : World) (h : KrAt S w B t) (hi : i < 18446744073709551616) (hk : key.size ≤ maxLen) (hv : v.size ≤ maxLen) :
    Calls Tryz.prog 22 #[.pointer (some ⟨B, 0, none⟩), .string key, .string v, .int .u64 (i : Int)] w fun e w' => e = .returned (.int .i64 ((kSet t key v i).1 : Int)) ∧ KrAt (fun k => S k ∨ w.heap.size ≤ k) w' B (kSet t key v i).2 ∧ But (· = B) w w' := by
  obtain ⟨hok, A, c, h⟩ := h
  have HW := Lib.hid (rwrong_any key v w hk hv)
  have HG := Lib.hid (h.entO key)
  have H : Hid (KrIs (fun k => S k ∧ k < w.heap.size) w B A c t) := Lib.hid (h.narrow fun k hk hs => ⟨hs, hk⟩)
  have HA : Hid (KrAt (fun k => S k ∨ w.heap.size ≤ k) w B t) := Lib.hid ⟨hok, A, c, h.narrow fun k _ z => .inl z⟩
  have HOk := Lib.hid hok
  have HKs := Lib.hid hk
  have HIx := Lib.hid hi
  have HV := Lib.hid hv
  obtain ⟨wn, hwn⟩ : ∃ wn, wrongN key v = wn := ⟨_, rfl⟩
  rw [hwn] at HW
  have HWn := Lib.hid hwn
  obtain ⟨md, hmd⟩ : ∃ md, kSet t key v i = md := ⟨_, rfl⟩
  rw [hmd]
  have HMd := Lib.hid hmd
  obtain ⟨gr, hgr⟩ : ∃ gr, entO t key = gr := ⟨_, rfl⟩
  obtain ⟨is, his⟩ : ∃ is, isO t key = is := ⟨_, rfl⟩
  rw [hgr, his] at HG
  unfold enV Kt.trV at HG
  have HGr := Lib.hid hgr
  have HIs := Lib.hid his
  clear hok h hk hi hwn hmd hgr his hv
  go_enter Tryz.func22, Tryz.ntmps22
  go_wp2_with fail
  refine HW.out.mono ?_
  rintro e w' ⟨rfl, rfl⟩
  by_cases hx : wn = 0
  case neg =>
    have q : ((wn : Int) != 0) = true := by rw [nat_bne0]; simp [hx]
    have HR : Hid (md = (wn, t)) := Lib.hid (by rw [← HMd.out]; exact modK_bad HWn.out hx)
    go_wp2
    go_ret
    rw [HR.out]
    exact ⟨rfl, HA.out, But.refl _ _⟩
  subst hx
  have q : (((0 : Nat) : Int) != 0) = false := rfl
  go_wp2_with fail
  refine HG.out.mono ?_
  rintro e w1 ⟨rfl, hb1⟩
  have HB1 := Lib.hid hb1
  have HB2 := Lib.hid (fun (cs : Array Value) => hb1.alloc hb1.size (.cells cs TEn))
  clear hb1 HG
  obtain ⟨W5, hW5⟩ : ∃ W5, w1.alloc (.cells #[.string key, .string v, .int .u64 (gr.val.ses : Int), .int .u64 (gr.val.lck : Int), .int .u64 (gr.made : Int), .int .u64 (gr.ix : Int)] TEn) = W5 := ⟨_, rfl⟩
  have hb5 : Below w.heap.size w W5 := hW5 ▸ HB2.out _
  have HC := Lib.hid (krput_any (⟨key, ⟨v, gr.val.ses, gr.val.lck⟩, gr.made, gr.ix⟩ : En) i W5 ⟨HOk.out, A, c, H.out.below hb5⟩ HIx.out HKs.out)
  have HR : Hid (md = putK t key ⟨v, gr.val.ses, gr.val.lck⟩ i) := Lib.hid (by rw [← HMd.out]; unfold kSet; rw [modK_ok HWn.out, HGr.out]; rfl)
  have HW5 := Lib.hid hW5
  have HB5 := Lib.hid hb5
  unfold enV Kt.trV at HC
  clear hW5 hb5
  go_wp2_with fail
  rw [HW5.out]
  refine HC.out.mono ?_
  rintro e w6 ⟨rfl, hk6, hb6⟩
  clear HC
  have H6 := Lib.hid (And.intro hk6 hb6)
  clear hk6 hb6
  go_wp2
  go_ret
  rw [HR.out]
  refine ⟨rfl, ?_, (But.of_below HB5.out).trans H6.out.2⟩
  obtain ⟨a1, a2, a3, a4⟩ := H6.out.1
  exact ⟨a1, a2, a3, a4.narrow fun k _ z => by
    have := HB5.out.size
    rcases z with z | z
    · exact .inl z.1
    · exact .inr (by omega)⟩
set_option maxHeartbeats 2000000 in
theorem krcas_any {S : Nat → Prop} {B : Nat} {t : Tb Kp} (key : ByteArray) (v : ByteArray) (old : Nat) (i : Nat) (w : World) (h : KrAt S w B t) (hi : i < 18446744073709551616) (hk : key.size ≤ maxLen) (hv : v.size ≤ maxLen) :
    Calls Tryz.prog 23 #[.pointer (some ⟨B, 0, none⟩), .string key, .string v, .int .u64 (old : Int), .int .u64 (i : Int)] w fun e w' => e = .returned (.int .i64 ((kCas t key v old i).1 : Int)) ∧ KrAt (fun k => S k ∨ w.heap.size ≤ k) w' B (kCas t key v old i).2 ∧ But (· = B) w w' := by
  obtain ⟨hok, A, c, h⟩ := h
  have HW := Lib.hid (rwrong_any key v w hk hv)
  have HG := Lib.hid (h.entO key)
  have H : Hid (KrIs (fun k => S k ∧ k < w.heap.size) w B A c t) := Lib.hid (h.narrow fun k hk hs => ⟨hs, hk⟩)
  have HA : Hid (KrAt (fun k => S k ∨ w.heap.size ≤ k) w B t) := Lib.hid ⟨hok, A, c, h.narrow fun k _ z => .inl z⟩
  have HOk := Lib.hid hok
  have HKs := Lib.hid hk
  have HIx := Lib.hid hi
  have HV := Lib.hid hv
  obtain ⟨wn, hwn⟩ : ∃ wn, wrongN key v = wn := ⟨_, rfl⟩
  rw [hwn] at HW
  have HWn := Lib.hid hwn
  obtain ⟨md, hmd⟩ : ∃ md, kCas t key v old i = md := ⟨_, rfl⟩
  rw [hmd]
  have HMd := Lib.hid hmd
  obtain ⟨gr, hgr⟩ : ∃ gr, entO t key = gr := ⟨_, rfl⟩
  obtain ⟨is, his⟩ : ∃ is, isO t key = is := ⟨_, rfl⟩
  rw [hgr, his] at HG
  unfold enV Kt.trV at HG
  have HGr := Lib.hid hgr
  have HIs := Lib.hid his
  clear hok h hk hi hwn hmd hgr his hv
  go_enter Tryz.func23, Tryz.ntmps23
  go_wp2_with fail
  refine HW.out.mono ?_
  rintro e w' ⟨rfl, rfl⟩
  by_cases hx : wn = 0
  case neg =>
    have q : ((wn : Int) != 0) = true := by rw [nat_bne0]; simp [hx]
    have HR : Hid (md = (wn, t)) := Lib.hid (by rw [← HMd.out]; exact modK_bad HWn.out hx)
    go_wp2
    go_ret
    rw [HR.out]
    exact ⟨rfl, HA.out, But.refl _ _⟩
  subst hx
  have q : (((0 : Nat) : Int) != 0) = false := rfl
  obtain ⟨c1, h1⟩ : ∃ c1, (old != 0) = c1 := ⟨_, rfl⟩
  obtain ⟨c2, h2⟩ : ∃ c2, (gr.ix == old) = c2 := ⟨_, rfl⟩
  have q1 : ((old : Int) != 0) = c1 := by rw [nat_bne0, h1]
  have q2 : ((old : Int) == 0) = !c1 := by rw [nat_beq0, ← h1]; cases e : old == 0 <;> simp_all [bne]
  have q3 : ((gr.ix : Int) != (old : Int)) = !c2 := by rw [nat_bne, ← h2, bne]
  have HCd : Hid (md = modR t key i (if (is == c1) && c2 then none else some 21) (some { gr.val with v := v }) ∧ (is = false → c1 = false → c2 = true)) := Lib.hid (by
    rw [← HMd.out]
    unfold kCas
    rw [modK_ok HWn.out, firstE_one, HIs.out, HGr.out, h1, h2]
    refine ⟨rfl, fun e1 e2 => ?_⟩
    rw [← h2, ← HGr.out]
    rw [← HIs.out] at e1
    unfold isO at e1
    have e3 : entO t key = noEn := by unfold entO; rw [Option.isSome_eq_false_iff, Option.isNone_iff_eq_none] at e1; rw [e1]; rfl
    rw [e3, ← h1] at *
    simp only [noEn, bne, beq_iff_eq, Bool.not_eq_false'] at e2 ⊢
    exact e2.symm)
  clear h1 h2
  go_wp2_with fail
  refine HG.out.mono ?_
  rintro e w1 ⟨rfl, hb1⟩
  have HB1 := Lib.hid hb1
  have HB2 := Lib.hid (fun (cs : Array Value) => hb1.alloc hb1.size (.cells cs TEn))
  clear hb1 HG
  cases c1 <;> cases is <;> cases c2
  · exact absurd (HCd.out.2 rfl rfl) (by decide)
  · obtain ⟨W5, hW5⟩ : ∃ W5, w1.alloc (.cells #[.string gr.key, .string gr.val.v, .int .u64 (gr.val.ses : Int), .int .u64 (gr.val.lck : Int), .int .u64 (gr.made : Int), .int .u64 (gr.ix : Int)] TEn) = W5 := ⟨_, rfl⟩
    have hb5 : Below w.heap.size w W5 := hW5 ▸ HB2.out _
    have HC := Lib.hid (krset_any key v i W5 ⟨HOk.out, A, c, H.out.below hb5⟩ HIx.out HKs.out HV.out)
    have HR : Hid (md = kSet t key v i) := Lib.hid (by rw [← HMd.out]; have h := HCd.out.1; rw [HMd.out, h]; unfold kSet; rw [modK_ok HWn.out, HGr.out]; rfl)
    have HW5 := Lib.hid hW5
    have HB5 := Lib.hid hb5
    clear hW5 hb5
    go_wp2_with fail
    rw [HW5.out]
    refine HC.out.mono ?_
    rintro e w6 ⟨rfl, hk6, hb6⟩
    clear HC
    have H6 := Lib.hid (And.intro hk6 hb6)
    clear hk6 hb6
    go_wp2
    go_ret
    rw [HR.out]
    refine ⟨rfl, ?_, (But.of_below HB5.out).trans H6.out.2⟩
    obtain ⟨a1, a2, a3, a4⟩ := H6.out.1
    exact ⟨a1, a2, a3, a4.narrow fun k _ z => by
      have := HB5.out.size
      rcases z with z | z
      · exact .inl z.1
      · exact .inr (by omega)⟩
  · have HR : Hid (md = (21, t)) := Lib.hid (by rw [HCd.out.1]; rfl)
    go_wp2
    go_ret
    rw [HR.out]
    exact ⟨rfl, HA.out.below1 (HB2.out _), But.of_below (HB2.out _)⟩
  · have HR : Hid (md = (21, t)) := Lib.hid (by rw [HCd.out.1]; rfl)
    go_wp2
    go_ret
    rw [HR.out]
    exact ⟨rfl, HA.out.below1 (HB2.out _), But.of_below (HB2.out _)⟩
  · have HR : Hid (md = (21, t)) := Lib.hid (by rw [HCd.out.1]; rfl)
    go_wp2
    go_ret
    rw [HR.out]
    exact ⟨rfl, HA.out.below1 (HB2.out _), But.of_below (HB2.out _)⟩
  · have HR : Hid (md = (21, t)) := Lib.hid (by rw [HCd.out.1]; rfl)
    go_wp2
    go_ret
    rw [HR.out]
    exact ⟨rfl, HA.out.below1 (HB2.out _), But.of_below (HB2.out _)⟩
  · have HR : Hid (md = (21, t)) := Lib.hid (by rw [HCd.out.1]; rfl)
    go_wp2
    go_ret
    rw [HR.out]
    exact ⟨rfl, HA.out.below1 (HB2.out _), But.of_below (HB2.out _)⟩
  · obtain ⟨W5, hW5⟩ : ∃ W5, w1.alloc (.cells #[.string gr.key, .string gr.val.v, .int .u64 (gr.val.ses : Int), .int .u64 (gr.val.lck : Int), .int .u64 (gr.made : Int), .int .u64 (gr.ix : Int)] TEn) = W5 := ⟨_, rfl⟩
    have hb5 : Below w.heap.size w W5 := hW5 ▸ HB2.out _
    have HC := Lib.hid (krset_any key v i W5 ⟨HOk.out, A, c, H.out.below hb5⟩ HIx.out HKs.out HV.out)
    have HR : Hid (md = kSet t key v i) := Lib.hid (by rw [← HMd.out]; have h := HCd.out.1; rw [HMd.out, h]; unfold kSet; rw [modK_ok HWn.out, HGr.out]; rfl)
    have HW5 := Lib.hid hW5
    have HB5 := Lib.hid hb5
    clear hW5 hb5
    go_wp2_with fail
    rw [HW5.out]
    refine HC.out.mono ?_
    rintro e w6 ⟨rfl, hk6, hb6⟩
    clear HC
    have H6 := Lib.hid (And.intro hk6 hb6)
    clear hk6 hb6
    go_wp2
    go_ret
    rw [HR.out]
    refine ⟨rfl, ?_, (But.of_below HB5.out).trans H6.out.2⟩
    obtain ⟨a1, a2, a3, a4⟩ := H6.out.1
    exact ⟨a1, a2, a3, a4.narrow fun k _ z => by
      have := HB5.out.size
      rcases z with z | z
      · exact .inl z.1
      · exact .inr (by omega)⟩
set_option maxHeartbeats 2000000 in
theorem krdel_any {S : Nat → Prop} {B : Nat} {t : Tb Kp} (key : ByteArray) (cas : Bool) (old : Nat) (i : Nat) (w : World) (h : KrAt S w B t) (hi : i < 18446744073709551616) (hk : key.size ≤ maxLen) :
    Calls Tryz.prog 25 #[.pointer (some ⟨B, 0, none⟩), .string key, .bool cas, .int .u64 (old : Int), .int .u64 (i : Int)] w fun e w' => e = .returned (.int .i64 ((kDelR t key cas old i).1 : Int)) ∧ KrAt (fun k => S k ∨ w.heap.size ≤ k) w' B (kDelR t key cas old i).2 ∧ But (· = B) w w' := by
  obtain ⟨hok, A, c, h⟩ := h
  have HW := Lib.hid (rwrong_any key ⟨#[]⟩ w hk (by decide))
  have HG := Lib.hid (h.entO key)
  have H : Hid (KrIs (fun k => S k ∧ k < w.heap.size) w B A c t) := Lib.hid (h.narrow fun k hk hs => ⟨hs, hk⟩)
  have HA : Hid (KrAt (fun k => S k ∨ w.heap.size ≤ k) w B t) := Lib.hid ⟨hok, A, c, h.narrow fun k _ z => .inl z⟩
  have HOk := Lib.hid hok
  have HKs := Lib.hid hk
  have HIx := Lib.hid hi
  obtain ⟨wn, hwn⟩ : ∃ wn, wrongN key ⟨#[]⟩ = wn := ⟨_, rfl⟩
  rw [hwn] at HW
  have HWn := Lib.hid hwn
  obtain ⟨md, hmd⟩ : ∃ md, kDelR t key cas old i = md := ⟨_, rfl⟩
  rw [hmd]
  have HMd := Lib.hid hmd
  obtain ⟨gr, hgr⟩ : ∃ gr, entO t key = gr := ⟨_, rfl⟩
  obtain ⟨is, his⟩ : ∃ is, isO t key = is := ⟨_, rfl⟩
  rw [hgr, his] at HG
  unfold enV Kt.trV at HG
  have HGr := Lib.hid hgr
  have HIs := Lib.hid his
  clear hok h hk hi hwn hmd hgr his
  go_enter Tryz.func25, Tryz.ntmps25
  go_wp2_with fail
  refine HW.out.mono ?_
  rintro e w' ⟨rfl, rfl⟩
  by_cases hx : wn = 0
  case neg =>
    have q : ((wn : Int) != 0) = true := by rw [nat_bne0]; simp [hx]
    have HR : Hid (md = (wn, t)) := Lib.hid (by rw [← HMd.out]; unfold kDelR; split <;> exact modK_bad0 HWn.out hx)
    go_wp2
    go_ret
    rw [HR.out]
    exact ⟨rfl, HA.out, But.refl _ _⟩
  subst hx
  have q : (((0 : Nat) : Int) != 0) = false := rfl
  obtain ⟨c2, h2⟩ : ∃ c2, (gr.ix == old) = c2 := ⟨_, rfl⟩
  have q3 : ((gr.ix : Int) != (old : Int)) = !c2 := by rw [nat_bne, ← h2, bne]
  have HCd : Hid (md = modR t key i (if is then (if !cas || c2 then none else some 21) else some 4) none) := Lib.hid (by
    rw [← HMd.out]
    unfold kDelR
    cases cas
    · unfold kDel
      rw [if_neg Bool.false_ne_true, modK_ok0 HWn.out, firstE_one, HIs.out]
      rfl
    · unfold kDelCas
      rw [if_pos rfl, modK_ok0 HWn.out, firstE_two, HIs.out, HGr.out, h2]
      rfl)
  clear h2
  go_wp2_with fail
  refine HG.out.mono ?_
  rintro e w1 ⟨rfl, hb1⟩
  have HB1 := Lib.hid hb1
  have HB2 := Lib.hid (fun (cs : Array Value) => hb1.alloc hb1.size (.cells cs TEn))
  clear hb1 HG
  cases is <;> cases cas <;> cases c2
  · have HR : Hid (md = (4, t)) := Lib.hid (by rw [HCd.out]; rfl)
    go_wp2
    go_ret
    rw [HR.out]
    exact ⟨rfl, HA.out.below1 (HB2.out _), But.of_below (HB2.out _)⟩
  · have HR : Hid (md = (4, t)) := Lib.hid (by rw [HCd.out]; rfl)
    go_wp2
    go_ret
    rw [HR.out]
    exact ⟨rfl, HA.out.below1 (HB2.out _), But.of_below (HB2.out _)⟩
  · have HR : Hid (md = (4, t)) := Lib.hid (by rw [HCd.out]; rfl)
    go_wp2
    go_ret
    rw [HR.out]
    exact ⟨rfl, HA.out.below1 (HB2.out _), But.of_below (HB2.out _)⟩
  · have HR : Hid (md = (4, t)) := Lib.hid (by rw [HCd.out]; rfl)
    go_wp2
    go_ret
    rw [HR.out]
    exact ⟨rfl, HA.out.below1 (HB2.out _), But.of_below (HB2.out _)⟩
  · obtain ⟨W5, hW5⟩ : ∃ W5, w1.alloc (.cells #[.string gr.key, .string gr.val.v, .int .u64 (gr.val.ses : Int), .int .u64 (gr.val.lck : Int), .int .u64 (gr.made : Int), .int .u64 (gr.ix : Int)] TEn) = W5 := ⟨_, rfl⟩
    have hb5 : Below w.heap.size w W5 := hW5 ▸ HB2.out _
    have HC := Lib.hid (krdrop_any key i W5 ⟨HOk.out, A, c, H.out.below hb5⟩ HIx.out)
    have HR : Hid (md = (0, t.drop key i)) := Lib.hid (by rw [HCd.out]; unfold modR; simp only [Bool.not_true, Bool.not_false, Bool.or_true, Bool.true_or, if_true]; rw [dropT_is HIs.out])
    have HW5 := Lib.hid hW5
    have HB5 := Lib.hid hb5
    clear hW5 hb5
    go_wp2_with fail
    rw [HW5.out]
    refine HC.out.mono ?_
    rintro e w6 ⟨rfl, hk6, hb6⟩
    clear HC
    have H6 := Lib.hid (And.intro hk6 hb6)
    clear hk6 hb6
    go_wp2
    go_ret
    rw [HR.out]
    refine ⟨rfl, ?_, (But.of_below HB5.out).trans H6.out.2⟩
    obtain ⟨a1, a2, a3, a4⟩ := H6.out.1
    exact ⟨a1, a2, a3, a4.narrow fun k _ z => by
      have := HB5.out.size
      rcases z with z | z
      · exact .inl z.1
      · exact .inr (by omega)⟩
  · obtain ⟨W5, hW5⟩ : ∃ W5, w1.alloc (.cells #[.string gr.key, .string gr.val.v, .int .u64 (gr.val.ses : Int), .int .u64 (gr.val.lck : Int), .int .u64 (gr.made : Int), .int .u64 (gr.ix : Int)] TEn) = W5 := ⟨_, rfl⟩
    have hb5 : Below w.heap.size w W5 := hW5 ▸ HB2.out _
    have HC := Lib.hid (krdrop_any key i W5 ⟨HOk.out, A, c, H.out.below hb5⟩ HIx.out)
    have HR : Hid (md = (0, t.drop key i)) := Lib.hid (by rw [HCd.out]; unfold modR; simp only [Bool.not_true, Bool.not_false, Bool.or_true, Bool.true_or, if_true]; rw [dropT_is HIs.out])
    have HW5 := Lib.hid hW5
    have HB5 := Lib.hid hb5
    clear hW5 hb5
    go_wp2_with fail
    rw [HW5.out]
    refine HC.out.mono ?_
    rintro e w6 ⟨rfl, hk6, hb6⟩
    clear HC
    have H6 := Lib.hid (And.intro hk6 hb6)
    clear hk6 hb6
    go_wp2
    go_ret
    rw [HR.out]
    refine ⟨rfl, ?_, (But.of_below HB5.out).trans H6.out.2⟩
    obtain ⟨a1, a2, a3, a4⟩ := H6.out.1
    exact ⟨a1, a2, a3, a4.narrow fun k _ z => by
      have := HB5.out.size
      rcases z with z | z
      · exact .inl z.1
      · exact .inr (by omega)⟩
  · have HR : Hid (md = (21, t)) := Lib.hid (by rw [HCd.out]; rfl)
    go_wp2
    go_ret
    rw [HR.out]
    exact ⟨rfl, HA.out.below1 (HB2.out _), But.of_below (HB2.out _)⟩
  · obtain ⟨W5, hW5⟩ : ∃ W5, w1.alloc (.cells #[.string gr.key, .string gr.val.v, .int .u64 (gr.val.ses : Int), .int .u64 (gr.val.lck : Int), .int .u64 (gr.made : Int), .int .u64 (gr.ix : Int)] TEn) = W5 := ⟨_, rfl⟩
    have hb5 : Below w.heap.size w W5 := hW5 ▸ HB2.out _
    have HC := Lib.hid (krdrop_any key i W5 ⟨HOk.out, A, c, H.out.below hb5⟩ HIx.out)
    have HR : Hid (md = (0, t.drop key i)) := Lib.hid (by rw [HCd.out]; unfold modR; simp only [Bool.not_true, Bool.not_false, Bool.or_true, Bool.true_or, if_true]; rw [dropT_is HIs.out])
    have HW5 := Lib.hid hW5
    have HB5 := Lib.hid hb5
    clear hW5 hb5
    go_wp2_with fail
    rw [HW5.out]
    refine HC.out.mono ?_
    rintro e w6 ⟨rfl, hk6, hb6⟩
    clear HC
    have H6 := Lib.hid (And.intro hk6 hb6)
    clear hk6 hb6
    go_wp2
    go_ret
    rw [HR.out]
    refine ⟨rfl, ?_, (But.of_below HB5.out).trans H6.out.2⟩
    obtain ⟨a1, a2, a3, a4⟩ := H6.out.1
    exact ⟨a1, a2, a3, a4.narrow fun k _ z => by
      have := HB5.out.size
      rcases z with z | z
      · exact .inl z.1
      · exact .inr (by omega)⟩
set_option maxHeartbeats 2000000 in
theorem krlock_any {S : Nat → Prop} {B : Nat} {t : Tb Kp} (key : ByteArray) (v : ByteArray) (s : Nat) (i : Nat) (w : World) (h : KrAt S w B t) (hi : i < 18446744073709551616) (hk : key.size ≤ maxLen) (hv : v.size ≤ maxLen) :
    Calls Tryz.prog 18 #[.pointer (some ⟨B, 0, none⟩), .string key, .string v, .int .u64 (s : Int), .int .u64 (i : Int)] w fun e w' => e = .returned (.int .i64 ((kLock t key v s i).1 : Int)) ∧ KrAt (fun k => S k ∨ w.heap.size ≤ k) w' B (kLock t key v s i).2 ∧ But (· = B) w w' := by
  obtain ⟨hok, A, c, h⟩ := h
  have HW := Lib.hid (rwrong_any key v w hk hv)
  have HG := Lib.hid (h.entO key)
  have H : Hid (KrIs (fun k => S k ∧ k < w.heap.size) w B A c t) := Lib.hid (h.narrow fun k hk hs => ⟨hs, hk⟩)
  have HA : Hid (KrAt (fun k => S k ∨ w.heap.size ≤ k) w B t) := Lib.hid ⟨hok, A, c, h.narrow fun k _ z => .inl z⟩
  have HOk := Lib.hid hok
  have HKs := Lib.hid hk
  have HIx := Lib.hid hi
  have HV := Lib.hid hv
  obtain ⟨wn, hwn⟩ : ∃ wn, wrongN key v = wn := ⟨_, rfl⟩
  rw [hwn] at HW
  have HWn := Lib.hid hwn
  obtain ⟨md, hmd⟩ : ∃ md, kLock t key v s i = md := ⟨_, rfl⟩
  rw [hmd]
  have HMd := Lib.hid hmd
  obtain ⟨gr, hgr⟩ : ∃ gr, entO t key = gr := ⟨_, rfl⟩
  obtain ⟨is, his⟩ : ∃ is, isO t key = is := ⟨_, rfl⟩
  rw [hgr, his] at HG
  unfold enV Kt.trV at HG
  have HGr := Lib.hid hgr
  have HIs := Lib.hid his
  clear hok h hk hi hwn hmd hgr his hv
  go_enter Tryz.func18, Tryz.ntmps18
  go_wp2_with fail
  refine HW.out.mono ?_
  rintro e w' ⟨rfl, rfl⟩
  by_cases hx : wn = 0
  case neg =>
    have q : ((wn : Int) != 0) = true := by rw [nat_bne0]; simp [hx]
    have HR : Hid (md = (wn, t)) := Lib.hid (by rw [← HMd.out]; exact modK_bad HWn.out hx)
    go_wp2
    go_ret
    rw [HR.out]
    exact ⟨rfl, HA.out, But.refl _ _⟩
  subst hx
  have q : (((0 : Nat) : Int) != 0) = false := rfl
  obtain ⟨s0, h0⟩ : ∃ s0, (s == 0) = s0 := ⟨_, rfl⟩
  obtain ⟨a, ha⟩ : ∃ a, (gr.val.ses == 0) = a := ⟨_, rfl⟩
  obtain ⟨b, hb⟩ : ∃ b, (gr.val.ses == s) = b := ⟨_, rfl⟩
  obtain ⟨m, hm⟩ : ∃ m, (gr.val.lck + 1) % 18446744073709551616 = m := ⟨_, rfl⟩
  have q0 : ((s : Int) == 0) = s0 := by rw [nat_beq0, h0]
  have q1 : ((gr.val.ses : Int) == 0) = a := by rw [nat_beq0, ha]
  have q2 : ((gr.val.ses : Int) != 0) = !a := by rw [nat_bne0, ← ha, bne]
  have q3 : ((gr.val.ses : Int) != (s : Int)) = !b := by rw [nat_bne, ← hb, bne]
  have rw_ : IntKind.u64.wrap ((gr.val.lck : Int) + 1) = (m : Int) := by rw [← hm]; simp [IntKind.wrap, IntKind.bits, IntKind.signed]
  have HCd : Hid (md = modR t key i (if !s0 then (if a || b then none else some 22) else some 2) (some ⟨v, s, if b then gr.val.lck else m⟩) ∧ (a = true → b = true → s0 = true)) := Lib.hid (by
    refine ⟨?_, fun e1 e2 => ?_⟩
    · rw [← HMd.out]
      unfold kLock
      rw [modK_ok HWn.out, firstE_two, HGr.out, ha, hb, hm, bne, h0]
    · rw [← h0]
      rw [← ha, beq_iff_eq] at e1
      rw [← hb, beq_iff_eq] at e2
      rw [beq_iff_eq, ← e2, e1])
  clear h0 ha hb hm
  cases s0 with
  | true =>
    have HR : Hid (md = (2, t)) := Lib.hid (by rw [HCd.out.1]; rfl)
    go_wp2
    go_ret
    rw [HR.out]
    exact ⟨rfl, HA.out, But.refl _ _⟩
  | false =>
    go_wp2_with fail
    refine HG.out.mono ?_
    rintro e w1 ⟨rfl, hb1⟩
    have HB1 := Lib.hid hb1
    have HB2 := Lib.hid (fun (cs : Array Value) => hb1.alloc hb1.size (.cells cs TEn))
    clear hb1 HG
    cases a <;> cases b
    · have HR : Hid (md = (22, t)) := Lib.hid (by rw [HCd.out.1]; rfl)
      go_wp2
      go_ret
      rw [HR.out]
      exact ⟨rfl, HA.out.below1 (HB2.out _), But.of_below (HB2.out _)⟩
    · obtain ⟨W5, hW5⟩ : ∃ W5, w1.alloc (.cells #[.string key, .string v, .int .u64 (s : Int), .int .u64 (gr.val.lck : Int), .int .u64 (gr.made : Int), .int .u64 (gr.ix : Int)] TEn) = W5 := ⟨_, rfl⟩
      have hb5 : Below w.heap.size w W5 := hW5 ▸ HB2.out _
      have HC := Lib.hid (krput_any (⟨key, ⟨v, s, gr.val.lck⟩, gr.made, gr.ix⟩ : En) i W5 ⟨HOk.out, A, c, H.out.below hb5⟩ HIx.out HKs.out)
      have HR : Hid (md = putK t key ⟨v, s, gr.val.lck⟩ i) := Lib.hid (by rw [HCd.out.1]; rfl)
      have HW5 := Lib.hid hW5
      have HB5 := Lib.hid hb5
      unfold enV Kt.trV at HC
      clear hW5 hb5
      go_wp2_with fail
      rw [HW5.out]
      refine HC.out.mono ?_
      rintro e w6 ⟨rfl, hk6, hb6⟩
      clear HC
      have H6 := Lib.hid (And.intro hk6 hb6)
      clear hk6 hb6
      go_wp2
      go_ret
      rw [HR.out]
      refine ⟨rfl, ?_, (But.of_below HB5.out).trans H6.out.2⟩
      obtain ⟨a1, a2, a3, a4⟩ := H6.out.1
      exact ⟨a1, a2, a3, a4.narrow fun k _ z => by
        have := HB5.out.size
        rcases z with z | z
        · exact .inl z.1
        · exact .inr (by omega)⟩
    · obtain ⟨W5, hW5⟩ : ∃ W5, w1.alloc (.cells #[.string key, .string v, .int .u64 (s : Int), .int .u64 (m : Int), .int .u64 (gr.made : Int), .int .u64 (gr.ix : Int)] TEn) = W5 := ⟨_, rfl⟩
      have hb5 : Below w.heap.size w W5 := hW5 ▸ HB2.out _
      have HC := Lib.hid (krput_any (⟨key, ⟨v, s, m⟩, gr.made, gr.ix⟩ : En) i W5 ⟨HOk.out, A, c, H.out.below hb5⟩ HIx.out HKs.out)
      have HR : Hid (md = putK t key ⟨v, s, m⟩ i) := Lib.hid (by rw [HCd.out.1]; rfl)
      have HW5 := Lib.hid hW5
      have HB5 := Lib.hid hb5
      unfold enV Kt.trV at HC
      clear hW5 hb5
      go_wp2_with fail
      rw [HW5.out]
      refine HC.out.mono ?_
      rintro e w6 ⟨rfl, hk6, hb6⟩
      clear HC
      have H6 := Lib.hid (And.intro hk6 hb6)
      clear hk6 hb6
      go_wp2
      go_ret
      rw [HR.out]
      refine ⟨rfl, ?_, (But.of_below HB5.out).trans H6.out.2⟩
      obtain ⟨a1, a2, a3, a4⟩ := H6.out.1
      exact ⟨a1, a2, a3, a4.narrow fun k _ z => by
        have := HB5.out.size
        rcases z with z | z
        · exact .inl z.1
        · exact .inr (by omega)⟩
    · exact absurd (HCd.out.2 rfl rfl) (by decide)
set_option maxHeartbeats 2000000 in
theorem krunlock_any {S : Nat → Prop} {B : Nat} {t : Tb Kp} (key : ByteArray) (v : ByteArray) (s : Nat) (i : Nat) (w : World) (h : KrAt S w B t) (hi : i < 18446744073709551616) (hk : key.size ≤ maxLen) (hv : v.size ≤ maxLen) :
    Calls Tryz.prog 28 #[.pointer (some ⟨B, 0, none⟩), .string key, .string v, .int .u64 (s : Int), .int .u64 (i : Int)] w fun e w' => e = .returned (.int .i64 ((kUnlock t key v s i).1 : Int)) ∧ KrAt (fun k => S k ∨ w.heap.size ≤ k) w' B (kUnlock t key v s i).2 ∧ But (· = B) w w' := by
  obtain ⟨hok, A, c, h⟩ := h
  have HW := Lib.hid (rwrong_any key v w hk hv)
  have HG := Lib.hid (h.entO key)
  have H : Hid (KrIs (fun k => S k ∧ k < w.heap.size) w B A c t) := Lib.hid (h.narrow fun k hk hs => ⟨hs, hk⟩)
  have HA : Hid (KrAt (fun k => S k ∨ w.heap.size ≤ k) w B t) := Lib.hid ⟨hok, A, c, h.narrow fun k _ z => .inl z⟩
  have HOk := Lib.hid hok
  have HKs := Lib.hid hk
  have HIx := Lib.hid hi
  have HV := Lib.hid hv
  obtain ⟨wn, hwn⟩ : ∃ wn, wrongN key v = wn := ⟨_, rfl⟩
  rw [hwn] at HW
  have HWn := Lib.hid hwn
  obtain ⟨md, hmd⟩ : ∃ md, kUnlock t key v s i = md := ⟨_, rfl⟩
  rw [hmd]
  have HMd := Lib.hid hmd
  obtain ⟨gr, hgr⟩ : ∃ gr, entO t key = gr := ⟨_, rfl⟩
  obtain ⟨is, his⟩ : ∃ is, isO t key = is := ⟨_, rfl⟩
  rw [hgr, his] at HG
  unfold enV Kt.trV at HG
  have HGr := Lib.hid hgr
  have HIs := Lib.hid his
  clear hok h hk hi hwn hmd hgr his hv
  go_enter Tryz.func28, Tryz.ntmps28
  go_wp2_with fail
  refine HW.out.mono ?_
  rintro e w' ⟨rfl, rfl⟩
  by_cases hx : wn = 0
  case neg =>
    have q : ((wn : Int) != 0) = true := by rw [nat_bne0]; simp [hx]
    have HR : Hid (md = (wn, t)) := Lib.hid (by rw [← HMd.out]; exact modK_bad HWn.out hx)
    go_wp2
    go_ret
    rw [HR.out]
    exact ⟨rfl, HA.out, But.refl _ _⟩
  subst hx
  have q : (((0 : Nat) : Int) != 0) = false := rfl
  obtain ⟨s0, h0⟩ : ∃ s0, (s == 0) = s0 := ⟨_, rfl⟩
  obtain ⟨b, hb⟩ : ∃ b, (gr.val.ses == s) = b := ⟨_, rfl⟩
  have q0 : ((s : Int) == 0) = s0 := by rw [nat_beq0, h0]
  have q3 : ((gr.val.ses : Int) != (s : Int)) = !b := by rw [nat_bne, ← hb, bne]
  have HCd : Hid (md = modR t key i (if is then (if !s0 && b then none else some 22) else some 4) (some ⟨v, 0, gr.val.lck⟩) ∧ (is = true → gr.key = key)) := Lib.hid (by
    refine ⟨?_, fun e1 => ?_⟩
    · rw [← HMd.out]
      unfold kUnlock
      rw [modK_ok HWn.out, firstE_two, HGr.out, HIs.out, hb, bne, h0]
    · rw [← HIs.out] at e1
      unfold isO at e1
      obtain ⟨x, hx⟩ := Option.isSome_iff_exists.1 e1
      rw [← HGr.out]
      unfold entO
      rw [hx]
      exact (getR_mem hx).2)
  clear h0 hb
  go_wp2_with fail
  refine HG.out.mono ?_
  rintro e w1 ⟨rfl, hb1⟩
  have HB1 := Lib.hid hb1
  have HB2 := Lib.hid (fun (cs : Array Value) => hb1.alloc hb1.size (.cells cs TEn))
  clear hb1 HG
  cases is <;> cases s0 <;> cases b
  · have HR : Hid (md = (4, t)) := Lib.hid (by rw [HCd.out.1]; rfl)
    go_wp2
    go_ret
    rw [HR.out]
    exact ⟨rfl, HA.out.below1 (HB2.out _), But.of_below (HB2.out _)⟩
  · have HR : Hid (md = (4, t)) := Lib.hid (by rw [HCd.out.1]; rfl)
    go_wp2
    go_ret
    rw [HR.out]
    exact ⟨rfl, HA.out.below1 (HB2.out _), But.of_below (HB2.out _)⟩
  · have HR : Hid (md = (4, t)) := Lib.hid (by rw [HCd.out.1]; rfl)
    go_wp2
    go_ret
    rw [HR.out]
    exact ⟨rfl, HA.out.below1 (HB2.out _), But.of_below (HB2.out _)⟩
  · have HR : Hid (md = (4, t)) := Lib.hid (by rw [HCd.out.1]; rfl)
    go_wp2
    go_ret
    rw [HR.out]
    exact ⟨rfl, HA.out.below1 (HB2.out _), But.of_below (HB2.out _)⟩
  · have HR : Hid (md = (22, t)) := Lib.hid (by rw [HCd.out.1]; rfl)
    go_wp2
    go_ret
    rw [HR.out]
    exact ⟨rfl, HA.out.below1 (HB2.out _), But.of_below (HB2.out _)⟩
  · obtain ⟨W5, hW5⟩ : ∃ W5, w1.alloc (.cells #[.string gr.key, .string v, .int .u64 0, .int .u64 (gr.val.lck : Int), .int .u64 (gr.made : Int), .int .u64 (gr.ix : Int)] TEn) = W5 := ⟨_, rfl⟩
    have hb5 : Below w.heap.size w W5 := hW5 ▸ HB2.out _
    have HC := Lib.hid (krput_any (⟨gr.key, ⟨v, 0, gr.val.lck⟩, gr.made, gr.ix⟩ : En) i W5 ⟨HOk.out, A, c, H.out.below hb5⟩ HIx.out (by rw [HCd.out.2 rfl]; exact HKs.out))
    have HR : Hid (md = putK t gr.key ⟨v, 0, gr.val.lck⟩ i) := Lib.hid (by rw [HCd.out.1]; show putK t key _ i = _; rw [HCd.out.2 rfl])
    have HW5 := Lib.hid hW5
    have HB5 := Lib.hid hb5
    unfold enV Kt.trV at HC
    clear hW5 hb5
    go_wp2_with fail
    rw [HW5.out]
    refine HC.out.mono ?_
    rintro e w6 ⟨rfl, hk6, hb6⟩
    clear HC
    have H6 := Lib.hid (And.intro hk6 hb6)
    clear hk6 hb6
    go_wp2
    go_ret
    rw [HR.out]
    refine ⟨rfl, ?_, (But.of_below HB5.out).trans H6.out.2⟩
    obtain ⟨a1, a2, a3, a4⟩ := H6.out.1
    exact ⟨a1, a2, a3, a4.narrow fun k _ z => by
      have := HB5.out.size
      rcases z with z | z
      · exact .inl z.1
      · exact .inr (by omega)⟩
  · have HR : Hid (md = (22, t)) := Lib.hid (by rw [HCd.out.1]; rfl)
    go_wp2
    go_ret
    rw [HR.out]
    exact ⟨rfl, HA.out.below1 (HB2.out _), But.of_below (HB2.out _)⟩
  · have HR : Hid (md = (22, t)) := Lib.hid (by rw [HCd.out.1]; rfl)
    go_wp2
    go_ret
    rw [HR.out]
    exact ⟨rfl, HA.out.below1 (HB2.out _), But.of_below (HB2.out _)⟩
end Go.Proofs.YtohnkagabpefdaaGreatDoor
