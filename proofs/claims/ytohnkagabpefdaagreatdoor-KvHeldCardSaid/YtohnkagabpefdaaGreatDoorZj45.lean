/-
  Who holds an entry holds it: what any step by others makes of it, in plain words (layer 16).
-/
import Derived.Test.YtohnkagabpefdaaGreatDoorZj40
import Derived.Test.YtohnkagabpefdaaGreatDoorZj44
namespace Go.Proofs.YtohnkagabpefdaaGreatDoor
open Go Go.RowKit

theorem getR_off {α : Type} {l : List (Rw α)} {k q : ByteArray} (h : k ≠ q) : getR (offR l k) q = getR l q := by
  induction l with
  | nil => rfl
  | cons x l ih =>
    unfold offR at ih ⊢
    by_cases e : x.key = k
    · rw [List.filter_cons_of_neg (by rw [text_same.2 e]; simp), ih, getR_cons, if_neg (by rw [e]; exact h)]
    · rw [List.filter_cons_of_pos (by rw [text_other.2 e]; rfl), getR_cons, getR_cons, ih]
section
variable {t : Tb Kp} {k q : ByteArray} {i : Nat} {cs : List (Bool × Nat)} {n : Option Kp}
theorem dropT_ne (h : k ≠ q) : getR (t.dropT k i).l q = getR t.l q := by
  unfold Tb.dropT
  split
  · exact getR_off h
  · rfl
theorem putK_ne {v : Kp} (h : k ≠ q) : getR (putK t k v i).2.l q = getR t.l q := by
  unfold putK
  split
  · rfl
  · exact getR_lay_ne (r := t.row k v i) h t.l false
theorem mod_ne (h : k ≠ q) : getR (modK t k i cs n).2.l q = getR t.l q := by
  unfold modK
  split
  · rfl
  · cases n with
    | none => exact dropT_ne h
    | some v => exact putK_ne h
theorem mod_put {v : Kp} {x : En} (hx : getR t.l k = some x) : getR (modK t k i cs (some v)).2.l k = some x ∨ ∃ m j, getR (modK t k i cs (some v)).2.l k = some ⟨k, v, m, j⟩ := by
  cases h : firstE ((keyB k.data.toList, 10) :: cs) with
  | some e => rw [modK_err h]; exact .inl hx
  | none =>
    rw [modK_put h]
    unfold putK
    by_cases hf : t.fullB k = true
    · rw [if_pos hf]; exact .inl hx
    · rw [if_neg hf]; exact .inr ⟨_, _, getR_lay (r := t.row k v i) t.l⟩
theorem mod_none (h : firstE cs ≠ none) : (modK t k i cs n).2 = t := by
  unfold modK
  rw [firstE_cons]
  cases keyB k.data.toList
  · rfl
  · rw [if_pos rfl]
    cases e : firstE cs with
    | none => exact absurd e h
    | some x => rfl
end
/-- A session holds a key's entry, and has locked it once. -/
def HeldK (t : Tb Kp) (key : ByteArray) (mine : Nat) : Prop := ∃ x, getR t.l key = some x ∧ x.val.ses = mine ∧ x.val.lck = 1
theorem HeldK.same {t t' : Tb Kp} {key : ByteArray} {mine : Nat} (h : HeldK t key mine) (e : getR t'.l key = getR t.l key) : HeldK t' key mine := by
  unfold HeldK
  rw [e]
  exact h
theorem HeldK.turn {t : Tb Kp} {key v : ByteArray} {mine i : Nat} {cs : List (Bool × Nat)} (h : HeldK t key mine) : HeldK (modK t key i cs (some { (entO t key).val with v := v })).2 key mine := by
  obtain ⟨x, hx, h1, h2⟩ := h
  have he : entO t key = x := by unfold entO; rw [hx]; rfl
  rw [he]
  rcases mod_put (i := i) (cs := cs) (v := { x.val with v := v }) hx with e | ⟨m, j, e⟩
  · exact ⟨x, e, h1, h2⟩
  · exact ⟨_, e, h1, h2⟩
theorem firstE_not {cs : List (Bool × Nat)} {b : Bool} {x : Nat} (hm : (b, x) ∈ cs) (hb : b = false) : firstE cs ≠ none := by
  unfold firstE
  intro h
  have := List.find?_eq_none.1 (Option.map_eq_none_iff.1 h) (b, x) hm
  simp [hb] at this
/-- Whatever another session does, but for letting the key go, it is held on. -/
theorem HeldK.after {t : Tb Kp} {key : ByteArray} {mine : Nat} (h : HeldK t key mine) (ok : KvOk t) (hm : mine ≠ 0) (s : KSt) (hs : s.Ok) (h1 : s.ses ≠ mine) (h2 : s.key = key → s.kind ≠ 2 ∧ s.kind ≠ 3) : HeldK (s.after t) key mine := by
  have hx := h
  obtain ⟨x, hx, hxs, -⟩ := hx
  have he : entO t key = x := by unfold entO; rw [hx]; rfl
  unfold KSt.after
  by_cases hk : s.key = key
  · obtain ⟨n2, n3⟩ := h2 hk
    rw [hk, if_neg n2, if_neg n3]
    split
    · exact h.turn
    split
    · exact h.turn
    split
    · unfold kLock
      rw [he, mod_none (firstE_not (b := x.val.ses == 0 || x.val.ses == s.ses) (x := 22) (by simp) (by rw [hxs]; simp [hm, Ne.symm h1]))]
      exact h
    split
    · unfold kUnlock
      rw [he, mod_none (firstE_not (b := s.ses != 0 && x.val.ses == s.ses) (x := 22) (by simp) (by rw [hxs]; simp [Ne.symm h1]))]
      exact h
    split
    · refine h.same ?_
      unfold kFree
      refine (unheld_all hs.ix (heldBy t s.ses) ok fun q hq => ?_).2.2 key fun hq => ?_
      · rw [heldBy_eq] at hq
        obtain ⟨y, hy, rfl⟩ := heldL_mem hq
        obtain ⟨j, hj, rfl⟩ := List.getElem_of_mem hy
        unfold isO
        rw [getR_at ok.ok.rise hj]
        rfl
      · rw [heldBy_eq] at hq
        unfold heldL at hq
        obtain ⟨y, hy, e⟩ := List.mem_map.1 hq
        obtain ⟨hy1, hy2⟩ := List.mem_filter.1 hy
        obtain ⟨j, hj, rfl⟩ := List.getElem_of_mem hy1
        have := getR_at ok.ok.rise hj
        rw [e, hx] at this
        cases this
        simp only [Bool.and_eq_true, beq_iff_eq] at hy2
        exact h1 (hy2.2.symm.trans hxs)
    · exact h
  · split
    · exact h.same (mod_ne hk)
    split
    · exact h.same (mod_ne hk)
    split
    · exact h.same (mod_ne hk)
    split
    · exact h.same (mod_ne hk)
    split
    · exact h.same (mod_ne hk)
    split
    · exact h.same (mod_ne hk)
    split
    · refine h.same ?_
      unfold kFree
      refine (unheld_all hs.ix (heldBy t s.ses) ok fun q hq => ?_).2.2 key fun hq => ?_
      · rw [heldBy_eq] at hq
        obtain ⟨y, hy, rfl⟩ := heldL_mem hq
        obtain ⟨j, hj, rfl⟩ := List.getElem_of_mem hy
        unfold isO
        rw [getR_at ok.ok.rise hj]
        rfl
      · rw [heldBy_eq] at hq
        unfold heldL at hq
        obtain ⟨y, hy, e⟩ := List.mem_map.1 hq
        obtain ⟨hy1, hy2⟩ := List.mem_filter.1 hy
        obtain ⟨j, hj, rfl⟩ := List.getElem_of_mem hy1
        have := getR_at ok.ok.rise hj
        rw [e, hx] at this
        cases this
        simp only [Bool.and_eq_true, beq_iff_eq] at hy2
        exact h1 (hy2.2.symm.trans hxs)
    · exact h
/-- The first lock. -/
theorem HeldK.first {m : Nat} {key v : ByteArray} {mine i : Nat} (h : (kLock ⟨m, [], 0⟩ key v mine i).1 = 0) : HeldK (kLock ⟨m, [], 0⟩ key v mine i).2 key mine ∧ mine ≠ 0 := by
  have he : entO ⟨m, [], 0⟩ key = noEn := rfl
  unfold kLock at h ⊢
  rw [he] at h ⊢
  unfold modK at h ⊢
  split at h
  · next x hx =>
    unfold firstE at hx
    obtain ⟨y, hy, rfl⟩ := Option.map_eq_some_iff.1 hx
    have := List.mem_of_find?_eq_some hy
    simp only [List.mem_cons, List.not_mem_nil, or_false, shortC] at this
    rcases this with rfl | rfl | rfl | rfl <;> cases h
  · next hx =>
    have hm : mine ≠ 0 := by
      intro e
      refine absurd hx (firstE_not (b := mine != 0) (x := 2) (by simp) (by rw [e]; rfl))
    refine ⟨?_, hm⟩
    change (putK _ _ _ _).1 = 0 at h
    change HeldK (putK _ _ _ _).2 key mine
    unfold putK at h ⊢
    split at h
    · cases h
    · next hf =>
      rw [if_neg hf]
      refine ⟨_, getR_lay (r := Tb.row ⟨m, [], 0⟩ key _ i) [], rfl, ?_⟩
      have : ((noEn.val.ses == mine) : Bool) = false := by rw [beq_eq_false_iff_ne]; exact fun e => hm e.symm
      show (if _ then _ else _) = 1
      rw [this]
      rfl
end Go.Proofs.YtohnkagabpefdaaGreatDoor
/-
  Who holds an entry holds it: the law sodalitylaw16.KvHeld, walked.
-/
namespace Go.Proofs.YtohnkagabpefdaaGreatDoor
open Go.RowKit Go.Rel
set_option linter.unusedSimpArgs false
set_option linter.unusedVariables false

set_option maxHeartbeats 8000000 in
set_option maxRecDepth 100000 in
theorem held_walk (key : ByteArray) (mine : Nat) (A : Option Addr) (n c : Nat) (ss : List KSt) (w : World) (hky : key.size ≤ maxLen) (hmi : mine < 18446744073709551616) (hS : SK stCs 6 w A n ss) (hok : ∀ s ∈ ss, s.Ok) (hn : n ≤ maxLen) (hM : MaxIs w) :
    Calls Tryz.prog 5 #[.string key, .int .u64 (mine : Int), .slice A n c] w fun e w' => e = .returned (.bool true) ∧ Below w.heap.size w w' := by
  unfold maxLen at hn
  have hn' : (n : Int) ≤ 9223372036854775807 := by omega
  obtain ⟨g0, hg0⟩ : ∃ g0, w.heap.size = g0 := ⟨_, rfl⟩
  have HN := Lib.hid (knew_any 30 w (by decide))
  rw [hg0] at HN ⊢
  have HNd : Hid (∀ w1, Calls Tryz.prog 8 #[.int .i64 30] w1 fun e w' => e = .returned (.pointer (some ⟨w1.heap.size, 0, none⟩)) ∧ KrAt (· = w1.heap.size) w' w1.heap.size ⟨mostT 30, [], 0⟩ ∧ Below w1.heap.size w1 w') := Lib.hid fun w1 => krnew_any 30 w1 (by decide)
  have HSS := Lib.hid hS
  have HSl := Lib.hid hS.1
  have HOk := Lib.hid hok
  have HM := Lib.hid hM
  have HG0 := Lib.hid hg0
  have HKy := Lib.hid hky
  have HMi := Lib.hid hmi
  obtain ⟨lk, hlk⟩ : ∃ lk, kLock ⟨mostT 30, [], 0⟩ key ⟨#[120]⟩ mine 1 = lk := ⟨_, rfl⟩
  have HF : Hid (lk.1 = 0 → HeldK lk.2 key mine ∧ mine ≠ 0) := Lib.hid fun e => by rw [← hlk] at e ⊢; exact HeldK.first e
  have HLk := Lib.hid hlk
  clear hS hok hn hg0 hM hky hmi hlk
  go_enter Tryz.func5, Tryz.ntmps5
  go_wp2_with fail
  refine HN.out.mono ?_
  rintro e w1 ⟨Bp, Bt, rfl, hp, hb1⟩
  have HP1 := Lib.hid hp
  have HB1 := Lib.hid hb1
  clear HN hp hb1
  go_wp2_with fail
  refine (HNd.out w1).mono ?_
  rintro e w2 ⟨rfl, hd, hb2⟩
  obtain ⟨Bd, hBd⟩ : ∃ Bd, w1.heap.size = Bd := ⟨_, rfl⟩
  rw [hBd] at hd ⊢
  have hbo := both_new HM.out HG0.out HP1.out HB1.out hd hBd hb2
  have HB2 : Hid (Below g0 w w2) := Lib.hid (HB1.out.trans (hb2.mono (by rw [← HG0.out]; have := HB1.out.size; exact this)))
  obtain ⟨Sp, k1, k2, -, k4⟩ := hbo.left
  have HLp := Lib.hid (klock_any key ⟨#[120]⟩ mine 1 k1 k2 (by decide) HKy.out (by decide) HMi.out)
  rw [HLk.out] at HLp
  have HLeft := Lib.hid k4
  clear HNd hd hb2 hBd HP1 HB1 hbo k1 k2 k4
  go_wp2_with fail
  refine HLp.out.mono ?_
  rintro e w3 ⟨rfl, hk3, hb3⟩
  obtain ⟨hbo3, hbt3⟩ := HLeft.out w3 lk.2 _ (fun _ => False) hk3 (fun k z => z) (fun k z => z.elim) hb3
  have hbo3' := hbo3.wide (O' := fun k => g0 ≤ k) (fun k z => z.1) (fun z => by have := HM.out.lt; have := HG0.out; omega)
  have HB3 : Hid (Below g0 w w3) := Lib.hid (HB2.out.trans (hbt3.below (by have := HB2.out.size; have := HG0.out; omega) fun k hk hs => by omega))
  obtain ⟨Sd, q1, q4⟩ := hbo3'.right
  have HLd := Lib.hid (krlock_any key ⟨#[120]⟩ mine 1 w3 q1 (by decide) HKy.out (by decide))
  rw [HLk.out] at HLd
  have HRight := Lib.hid q4
  clear HLp HLeft hk3 hb3 hbo3 hbt3 hbo3' q1 q4
  by_cases hl0 : lk.1 = 0
  case neg =>
    have z1 : ((lk.1 : Int) != 0) = true := by rw [nat_bne0]; simp [hl0]
    clear hl0
    go_wp2_with fail
    refine HLd.out.mono ?_
    rintro e w4 ⟨rfl, hk4, hb4⟩
    obtain ⟨hbo4, hbt4⟩ := HRight.out w4 lk.2 _ (fun _ => False) hk4 (fun k z => z) (fun k z => z.elim) hb4
    have HB4 : Hid (Below g0 w w4) := Lib.hid (HB3.out.trans (hbt4.below (by have := HB3.out.size; have := HG0.out; omega) fun k hk hs => by omega))
    have HWk := Lib.hid (works_any w4 hbo4.mx.1)
    clear HLd HRight hk4 hb4 hbo4 hbt4
    go_wp2_with fail
    refine HWk.out.mono ?_
    rintro e w5 ⟨rfl, hb5⟩
    have HB5 : Hid (Below g0 w w5) := Lib.hid (HB4.out.trans (hb5.mono (by have := HB4.out.size; have := HG0.out; omega)))
    clear hb5 HWk
    go_wp2
    go_ret
    exact ⟨rfl, HB5.out⟩
  have z1 : ((lk.1 : Int) != 0) = false := by rw [hl0]; rfl
  obtain ⟨hh0, hmine⟩ := HF.out hl0
  have HH0 := Lib.hid hh0
  have HMine := Lib.hid hmine
  clear hl0 hh0 hmine
  go_wp2_with fail
  refine HLd.out.mono ?_
  rintro e w4 ⟨rfl, hk4, hb4⟩
  obtain ⟨hbo4, hbt4⟩ := HRight.out w4 lk.2 _ (fun _ => False) hk4 (fun k z => z) (fun k z => z.elim) hb4
  have HB4 : Hid (Below g0 w w4) := Lib.hid (HB3.out.trans (hbt4.below (by have := HB3.out.size; have := HG0.out; omega) fun k hk hs => by omega))
  have HBo4 := Lib.hid (hbo4.wide (O' := fun k => g0 ≤ k) (fun k z => z.1) (fun z => by have := HM.out.lt; have := HG0.out; omega))
  clear HLd HRight hk4 hb4 hbo4 hbt4 HB3
  go_wp2
  go_loopw [9] (fun iv wr => ∃ (k : Nat) (t : Tb Kp), k ≤ n ∧ iv = .int .i64 (k : Int) ∧ Hid (Both (fun k => g0 ≤ k) wr Bp Bt t Bd t) ∧ Hid (Below g0 w wr) ∧ Hid (HeldK t key mine)) (fun iv _ => n - (intOf iv).toNat)
  case atStart => exact ⟨0, _, Nat.zero_le _, rfl, HBo4, HB4, HH0⟩
  case round =>
    obtain ⟨k, t, hk, rfl, hbo, hb, hh⟩ := hrel
    have hgw : g0 ≤ wr.heap.size := by have := hb.out.size; have := HG0.out; omega
    rcases (show (¬ k < n) ∨ (k < n ∧ ¬ k < 60) ∨ (k < n ∧ k < 60) by omega) with h1 | ⟨h1, h2⟩ | ⟨h1, h2⟩
    case inr.inr =>
      have hkl : k < ss.length := by rw [HSl.out]; exact h1
      have ht := HSS.out.below (w' := wr) (by rw [HG0.out]; exact hb.out)
      obtain ⟨b, off, rfl, hbl, hit⟩ := ht.at_ h1 hkl
      have hso := HOk.out ss[k] (List.getElem_mem _)
      obtain ⟨s, hs⟩ : ∃ s, ss[k] = s := ⟨_, rfl⟩
      rw [hs] at hit hso
      have HSo := Lib.hid hso
      obtain ⟨c0, c1, c2, c3, c4, c5⟩ := st_cells hit
      obtain ⟨W3, hW3⟩ : ∃ W3, wr.alloc (.cells #[.int .i64 s.kind, .string s.key, .string s.val, .int .u64 (s.old : Int), .int .u64 (s.ses : Int), .int .u64 (s.ix : Int)] TS) = W3 := ⟨_, rfl⟩
      have HBo3 : Hid (Both (fun k => g0 ≤ k) W3 Bp Bt t Bd t) := Lib.hid (by rw [← hW3]; exact hbo.out.below (below1 _ _ _))
      have HB3 : Hid (Below g0 w W3) := Lib.hid (by rw [← hW3]; exact hb.out.trans ((below1 _ _ _).mono hgw))
      have HBoA : Hid (∀ u : Unit, Both (fun k => g0 ≤ k) (wr.alloc (.cells #[.int .i64 s.kind, .string s.key, .string s.val, .int .u64 (s.old : Int), .int .u64 (s.ses : Int), .int .u64 (s.ix : Int)] TS)) Bp Bt t Bd t) := Lib.hid fun _ => hbo.out.below (below1 _ _ _)
      have HBA : Hid (∀ u : Unit, Below g0 w (wr.alloc (.cells #[.int .i64 s.kind, .string s.key, .string s.val, .int .u64 (s.old : Int), .int .u64 (s.ses : Int), .int .u64 (s.ix : Int)] TS))) := Lib.hid fun _ => hb.out.trans ((below1 _ _ _).mono hgw)
      have HW3 := Lib.hid hW3
      obtain ⟨a1, ha1⟩ : ∃ a1, (s.ses == mine) = a1 := ⟨_, rfl⟩
      obtain ⟨a2, ha2⟩ : ∃ a2, (s.key.toList == key.toList) = a2 := ⟨_, rfl⟩
      obtain ⟨a3, ha3⟩ : ∃ a3, (s.kind == 2) = a3 := ⟨_, rfl⟩
      obtain ⟨a4, ha4⟩ : ∃ a4, (s.kind == 3) = a4 := ⟨_, rfl⟩
      have r1 : ((s.ses : Int) == (mine : Int)) = a1 := by rw [nat_beq, ha1]
      have HNs' : Hid (a1 = false → s.ses ≠ mine) := Lib.hid fun e z => by rw [e, z, beq_self_eq_true] at ha1; cases ha1
      have HKd' : Hid ((a2 && (a3 || a4)) = false → s.key = key → s.kind ≠ 2 ∧ s.kind ≠ 3) := Lib.hid fun e z => by
        rw [show a2 = true by rw [← ha2]; exact text_same.2 z, Bool.true_and, Bool.or_eq_false_iff] at e
        exact ⟨(fun y => by rw [y, e.1] at ha3; cases ha3), (fun y => by rw [y, e.2] at ha4; cases ha4)⟩
      have HA2 := Lib.hid ha2
      have q1 : (k : Int) < (n : Int) := by omega
      have q2 : (k : Int) < 60 := by omega
      have q0 : (0 : Int) ≤ (k : Int) := by omega
      clear ht hit hso hs hkl hW3 ha1 hgw
      cases a1 with
      | true =>
        go_wp2
        go_roundw
        case rel => exact ⟨k + 1, t, by omega, by go_num, HBoA.out (), HBA.out (), hh⟩
        case measure => simp [intOf]; omega
      | false =>
        have HNs : Hid (s.ses ≠ mine) := Lib.hid (HNs'.out rfl)
        cases a2 with
        | false =>
          have HKd : Hid (true = true → s.key = key → s.kind ≠ 2 ∧ s.kind ≠ 3) := Lib.hid fun _ => HKd'.out rfl
          have HSt := Lib.hid (step_any s W3 HBo3.out HSo.out)
          unfold stV at HSt
          obtain ⟨t', ht'⟩ : ∃ t', s.after t = t' := ⟨_, rfl⟩
          rw [ht'] at HSt
          have HH' : Hid (HeldK t' key mine) := Lib.hid (by
            obtain ⟨Sp, kp⟩ := HBo3.out.read
            rw [← ht']
            exact hh.out.after kp.ok HMine.out s HSo.out HNs.out (HKd.out (by decide)))
          clear ht'
          go_wp2_with fail
          rw [HW3.out]
          refine HSt.out.mono ?_
          rintro e w4 ⟨rfl, hb4, hbt⟩
          have HB4 : Hid (Below g0 w w4) := Lib.hid (HB3.out.trans (hbt.below (by have := HB3.out.size; have := HG0.out; omega) fun k hk hs => by omega))
          obtain ⟨Sp, hkp⟩ := hb4.read
          obtain ⟨x, hx, hx1, hx2⟩ := HH'.out
          obtain ⟨r, hr⟩ : ∃ r, entO t' key = r := ⟨_, rfl⟩
          have hrx : r = x := by rw [← hr]; unfold entO; rw [hx]; rfl
          have hisx : isO t' key = true := by unfold isO; rw [hx]; rfl
          have HG := Lib.hid (kget_any key hkp)
          rw [hisx, hr] at HG
          have s1 : ((r.val.ses : Int) != (mine : Int)) = false := by rw [nat_bne, hrx, hx1]; simp
          have s2 : ((r.val.lck : Int) != 1) = false := by rw [hrx, hx2]; rfl
          have HO4 := Lib.hid hb4
          unfold enV Kt.trV at HG
          clear HSt hb4 hbt hkp hx hx1 hx2 hr hrx hisx
          go_wp2_with fail
          refine HG.out.mono ?_
          rintro e w5 ⟨rfl, hb5⟩
          have HO5 := Lib.hid (HO4.out.below (hb5.alloc hb5.size (.cells #[.string r.key, .string r.val.v, .int .u64 (r.val.ses : Int), .int .u64 (r.val.lck : Int), .int .u64 (r.made : Int), .int .u64 (r.ix : Int)] TEn)))
          have HB5 : Hid (Below g0 w (w5.alloc (.cells #[.string r.key, .string r.val.v, .int .u64 (r.val.ses : Int), .int .u64 (r.val.lck : Int), .int .u64 (r.made : Int), .int .u64 (r.ix : Int)] TEn))) := Lib.hid (HB4.out.trans ((hb5.alloc hb5.size _).mono (by have := HB4.out.size; have := HG0.out; omega)))
          clear hb5 HG
          go_wp2
          go_roundw
          case rel => exact ⟨k + 1, t', by omega, by go_num, HO5, HB5, HH'⟩
          case measure => simp [intOf]; omega
        | true =>
          cases a3 with
          | true =>
            go_wp2
            go_roundw
            case rel => exact ⟨k + 1, t, by omega, by go_num, HBoA.out (), HBA.out (), hh⟩
            case measure => simp [intOf]; omega
          | false =>
            cases a4 with
            | true =>
              go_wp2
              go_roundw
              case rel => exact ⟨k + 1, t, by omega, by go_num, HBoA.out (), HBA.out (), hh⟩
              case measure => simp [intOf]; omega
            | false =>
              have HKd : Hid (true = true → s.key = key → s.kind ≠ 2 ∧ s.kind ≠ 3) := Lib.hid fun _ => HKd'.out rfl
              have HSt := Lib.hid (step_any s W3 HBo3.out HSo.out)
              unfold stV at HSt
              obtain ⟨t', ht'⟩ : ∃ t', s.after t = t' := ⟨_, rfl⟩
              rw [ht'] at HSt
              have HH' : Hid (HeldK t' key mine) := Lib.hid (by
                obtain ⟨Sp, kp⟩ := HBo3.out.read
                rw [← ht']
                exact hh.out.after kp.ok HMine.out s HSo.out HNs.out (HKd.out (by decide)))
              clear ht'
              go_wp2_with fail
              rw [HW3.out]
              refine HSt.out.mono ?_
              rintro e w4 ⟨rfl, hb4, hbt⟩
              have HB4 : Hid (Below g0 w w4) := Lib.hid (HB3.out.trans (hbt.below (by have := HB3.out.size; have := HG0.out; omega) fun k hk hs => by omega))
              obtain ⟨Sp, hkp⟩ := hb4.read
              obtain ⟨x, hx, hx1, hx2⟩ := HH'.out
              obtain ⟨r, hr⟩ : ∃ r, entO t' key = r := ⟨_, rfl⟩
              have hrx : r = x := by rw [← hr]; unfold entO; rw [hx]; rfl
              have hisx : isO t' key = true := by unfold isO; rw [hx]; rfl
              have HG := Lib.hid (kget_any key hkp)
              rw [hisx, hr] at HG
              have s1 : ((r.val.ses : Int) != (mine : Int)) = false := by rw [nat_bne, hrx, hx1]; simp
              have s2 : ((r.val.lck : Int) != 1) = false := by rw [hrx, hx2]; rfl
              have HO4 := Lib.hid hb4
              unfold enV Kt.trV at HG
              clear HSt hb4 hbt hkp hx hx1 hx2 hr hrx hisx
              go_wp2_with fail
              refine HG.out.mono ?_
              rintro e w5 ⟨rfl, hb5⟩
              have HO5 := Lib.hid (HO4.out.below (hb5.alloc hb5.size (.cells #[.string r.key, .string r.val.v, .int .u64 (r.val.ses : Int), .int .u64 (r.val.lck : Int), .int .u64 (r.made : Int), .int .u64 (r.ix : Int)] TEn)))
              have HB5 : Hid (Below g0 w (w5.alloc (.cells #[.string r.key, .string r.val.v, .int .u64 (r.val.ses : Int), .int .u64 (r.val.lck : Int), .int .u64 (r.made : Int), .int .u64 (r.ix : Int)] TEn))) := Lib.hid (HB4.out.trans ((hb5.alloc hb5.size _).mono (by have := HB4.out.size; have := HG0.out; omega)))
              clear hb5 HG
              go_wp2
              go_roundw
              case rel => exact ⟨k + 1, t', by omega, by go_num, HO5, HB5, HH'⟩
              case measure => simp [intOf]; omega
    all_goals
      have HWk := Lib.hid (works_any wr hbo.out.mx.1)
      first
        | (have q1 : ¬ (k : Int) < (n : Int) := by omega
           go_wp2_with fail
           refine HWk.out.mono ?_
           rintro e w5 ⟨rfl, hb5⟩
           have HB5 : Hid (Below g0 w w5) := Lib.hid (hb.out.trans (hb5.mono hgw))
           clear hb5 HWk
           go_wp2
           go_ret
           exact ⟨rfl, HB5.out⟩)
        | (have q1 : (k : Int) < (n : Int) := by omega
           have q2 : ¬ (k : Int) < 60 := by omega
           go_wp2_with fail
           refine HWk.out.mono ?_
           rintro e w5 ⟨rfl, hb5⟩
           have HB5 : Hid (Below g0 w w5) := Lib.hid (hb.out.trans (hb5.mono hgw))
           clear hb5 HWk
           go_wp2
           go_ret
           exact ⟨rfl, HB5.out⟩)
end Go.Proofs.YtohnkagabpefdaaGreatDoor
