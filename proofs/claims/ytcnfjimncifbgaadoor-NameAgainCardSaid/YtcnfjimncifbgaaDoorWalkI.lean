/-
  The walks of name.keep at the closures of With and Without (layer 1): a loop that appends to a row of the call's own.
-/
import Derived.Test.YtcnfjimncifbgaaDoorWalkG
import Derived.OwnWalk
import Derived.Laws.AppendOwnNone
namespace Go.Proofs.YtcnfjimncifbgaaDoor
open Go.RowKit Go.ChangeShapes Go.WideShapes Go.ChangeAt
set_option linter.unusedSimpArgs false

theorem str_info : (Tryd.prog.info? 9).map (fun i => (i.zero, i.size, i.bytes)) = some (some (.string ⟨#[]⟩), 1, 16) := by kernel_rfl

/-- Greater, as the model says it. -/
theorem more_eq (x s : ByteArray) : (!Op.bytesLess x.toList s.toList && !(x.toList == s.toList)) = ltS s x := by
  have e1 : Op.bytesLess x.toList s.toList = ltS x s := rfl
  rw [e1]
  cases h1 : ltS x s with
  | true => rw [ltS_asymm h1]; rfl
  | false =>
    cases h2 : (x.toList == s.toList) with
    | true =>
      rw [same_list] at h2
      subst h2
      rw [ltS_irr]; rfl
    | false =>
      rw [other_list] at h2
      cases h3 : ltS s x with
      | true => rfl
      | false => exact absurd (ltS_tri h1 h3) h2

/-! ### The closures -/
theorem less_any (x s : ByteArray) (g : Nat) (w : World) (hc : w.cell? ⟨g, 0, none⟩ = some (.string s)) :
    Calls Tryd.prog 43 #[.string x, .pointer (some ⟨g, 0, none⟩)] w fun e w' => e = .returned (.bool (ltS x s)) ∧ w = w' := by
  go_enter Tryd.func43, Tryd.ntmps43
  go_wp2
  go_ret
  exact ⟨rfl, rfl⟩
theorem more_any (x s : ByteArray) (g : Nat) (w : World) (hc : w.cell? ⟨g, 0, none⟩ = some (.string s)) :
    Calls Tryd.prog 44 #[.string x, .pointer (some ⟨g, 0, none⟩)] w fun e w' => e = .returned (.bool (ltS s x)) ∧ w = w' := by
  go_enter Tryd.func44, Tryd.ntmps44
  go_wp2
  go_ret
  exact ⟨ret_bool (more_eq x s), rfl⟩
theorem unlike_any (x s : ByteArray) (g : Nat) (w : World) (hc : w.cell? ⟨g, 0, none⟩ = some (.string s)) :
    Calls Tryd.prog 45 #[.string x, .pointer (some ⟨g, 0, none⟩)] w fun e w' => e = .returned (.bool (x.toList != s.toList)) ∧ w = w' := by
  go_enter Tryd.func45, Tryd.ntmps45
  go_wp2
  go_ret
  exact ⟨rfl, rfl⟩

/-! ### The loop -/
def Kept (f : ByteArray → Bool) (l : List ByteArray) (k : Nat) : List ByteArray := (l.take k).filter f
theorem Kept.zero (f : ByteArray → Bool) (l : List ByteArray) : Kept f l 0 = [] := by simp [Kept]
theorem Kept.hit {f : ByteArray → Bool} {l : List ByteArray} {k : Nat} (hk : k < l.length) (hf : f l[k] = true) : Kept f l (k + 1) = Kept f l k ++ [l[k]] := by
  rw [Kept, List.take_succ_eq_append_getElem hk, List.filter_append]
  simp [Kept, hf]
theorem Kept.miss {f : ByteArray → Bool} {l : List ByteArray} {k : Nat} (hk : k < l.length) (hf : f l[k] = false) : Kept f l (k + 1) = Kept f l k := by
  rw [Kept, List.take_succ_eq_append_getElem hk, List.filter_append]
  simp [Kept, hf]
theorem Kept.all {f : ByteArray → Bool} {l : List ByteArray} {k : Nat} (hk : l.length ≤ k) : Kept f l k = l.filter f := by rw [Kept, List.take_of_length_le hk]
theorem Kept.le (f : ByteArray → Bool) (l : List ByteArray) (k : Nat) : (Kept f l k).length ≤ k := Nat.le_trans (List.length_filter_le _ _) (List.length_take_le _ _)
/-- What the loop has: its row of the call's own. -/
def Keeps (w : World) (f : ByteArray → Bool) (l : List ByteArray) (k : Nat) (v : Value) (wr : World) : Prop :=
  wr.ownsRow w.heap.size 9 1 v (Kept f l k).length ((Kept f l k).map Value.string) ∧ Below w.heap.size w wr
theorem Keeps.start (w : World) (f : ByteArray → Bool) (l : List ByteArray) : Keeps w f l 0 (.slice none 0 0) w := by
  refine ⟨?_, Below.refl _ _⟩
  rw [Kept.zero]
  exact World.ownsRow_nil _ _ _ _
theorem Keeps.miss {w wr : World} {f : ByteArray → Bool} {l : List ByteArray} {k : Nat} {v : Value} (h : Keeps w f l k v wr) (hk : k < l.length) (hf : f l[k] = false) : Keeps w f l (k + 1) v wr := by
  unfold Keeps
  rw [Kept.miss hk hf]
  exact h
theorem Keeps.hit {w wr w1 : World} {f : ByteArray → Bool} {l : List ByteArray} {k : Nat} {v v' : Value} {o : Obj} (h : Keeps w f l k v wr) (hk : k < l.length) (hf : f l[k] = true)
    (hown : w1.ownsRow w.heap.size 9 1 v' ((Kept f l k).length + 1) ((Kept f l k).map Value.string ++ [.string l[k]])) (hg : (wr.alloc o).grownBy w1 v.ownBlock) : Keeps w f l (k + 1) v' w1 := by
  unfold Keeps
  rw [Kept.hit hk hf]
  refine ⟨by simpa using hown, ?_⟩
  have hs := h.2.size
  exact (h.2.alloc hs o).grown hg (by simp; omega) (fun j hj => (h.1.lt j hj).1)

set_option maxHeartbeats 1000000 in
theorem keep_less (A : Option Addr) (n c : Nat) (xs : List ByteArray) (s : ByteArray) (g : Nat) (w : World) (h : RS w A n xs) (hn : n ≤ 1000) (hp : w.cell? ⟨g, 0, none⟩ = some (.string s)) :
    Calls Tryd.prog 40 #[.slice A n c, .func (.func 43) #[] #[.pointer (some ⟨g, 0, none⟩)]] w fun e w' => ∃ v, e = .returned v ∧ Keeps w (fun x => ltS x s) xs n v w' := by
  obtain ⟨i0, hi, hz0, hz1, hz2⟩ := info_parts str_info
  have hl := h.1
  have hg0 : g < w.heap.size := cell_lt hp
  go_enter Tryd.func40, Tryd.ntmps40
  go_wp2
  go_loopw [5, 10] (fun v i wr => ∃ k : Nat, k ≤ n ∧ i = .int .i64 k ∧ Keeps w (fun x => ltS x s) xs k v wr) (fun _ i _ => n - (intOf i).toNat)
  case atStart => exact ⟨0, Nat.zero_le _, rfl, Keeps.start _ _ _⟩
  case round =>
    obtain ⟨k, hk, rfl, hh⟩ := hrel
    by_cases hlt : k < n
    · have q : k < xs.length := by omega
      obtain ⟨b, off, rfl, hb1, hc⟩ := (h.below hh.2).2 (by omega)
      have hcell := hc k q
      have hp' : wr.cell? ⟨g, 0, none⟩ = some (.string s) := (hh.2.cell (p := ⟨g, 0, none⟩) hg0).trans hp
      have cc := less_any xs[k] s g wr hp'
      cases hf : ltS xs[k] s with
      | false =>
        rw [hf] at cc
        have HS := Lib.hid (hh.miss q hf)
        clear hc hh hf h hp hp'
        go_wp2_with (go_at_call 43; refine cc.mono ?_; rintro e w' ⟨rfl, rfl⟩)
        go_roundw
        case rel => exact ⟨k + 1, by omega, by go_num, HS.out⟩
        case measure => simp [intOf]; omega
      | true =>
        rw [hf] at cc
        have hown := hh.1
        have HH := Lib.hid hh
        have HF := Lib.hid hf
        have HK := Kept.le (fun x => ltS x s) xs k
        have HZ := hh.2.size
        clear hc hh hf h hp hp'
        go_wp2_with (first
          | (go_at_call 43; refine cc.mono ?_; rintro e w' ⟨rfl, rfl⟩)
          | (at_builtin; refine wpList_append_own _ rfl _ _ 25 rfl w.heap.size 9 i0 (.string ⟨#[]⟩) 1 16 Tryd.underlying25 hi hz0 hz1 hz2 rfl (by decide) _ _ _ rfl (hown.alloc _) ⟨_, 0, none⟩ 1 1 [.string xs[k]] rfl rfl ?c1 ?c2 ?c3 ?c4 ?c5 ?_))
        case c1 =>
          intro j u hj
          match j, hj with
          | 0, hj => simp at hj; subst hj; simp [Addr.add]
        case c2 => intro u hu; simp at hu; subst hu; rfl
        case c3 => unfold maxLen; omega
        case c4 => omega
        case c5 => simp; omega
        · intro v' w1 hown' hgrow _
          have R := Lib.hid (HH.out.hit q HF.out hown' hgrow)
          clear hown' hgrow hown
          go_wp2
          go_roundw
          case rel => exact ⟨k + 1, by omega, by go_num, R.out⟩
          case measure => simp [intOf]; omega
    · obtain rfl : k = n := by omega
      have HS := Lib.hid hh
      clear hh h hp
      go_wp2
      go_ret
      exact ⟨_, rfl, HS.out⟩

set_option maxHeartbeats 1000000 in
theorem keep_more (A : Option Addr) (n c : Nat) (xs : List ByteArray) (s : ByteArray) (g : Nat) (w : World) (h : RS w A n xs) (hn : n ≤ 1000) (hp : w.cell? ⟨g, 0, none⟩ = some (.string s)) :
    Calls Tryd.prog 40 #[.slice A n c, .func (.func 44) #[] #[.pointer (some ⟨g, 0, none⟩)]] w fun e w' => ∃ v, e = .returned v ∧ Keeps w (fun x => ltS s x) xs n v w' := by
  obtain ⟨i0, hi, hz0, hz1, hz2⟩ := info_parts str_info
  have hl := h.1
  have hg0 : g < w.heap.size := cell_lt hp
  go_enter Tryd.func40, Tryd.ntmps40
  go_wp2
  go_loopw [5, 10] (fun v i wr => ∃ k : Nat, k ≤ n ∧ i = .int .i64 k ∧ Keeps w (fun x => ltS s x) xs k v wr) (fun _ i _ => n - (intOf i).toNat)
  case atStart => exact ⟨0, Nat.zero_le _, rfl, Keeps.start _ _ _⟩
  case round =>
    obtain ⟨k, hk, rfl, hh⟩ := hrel
    by_cases hlt : k < n
    · have q : k < xs.length := by omega
      obtain ⟨b, off, rfl, hb1, hc⟩ := (h.below hh.2).2 (by omega)
      have hcell := hc k q
      have hp' : wr.cell? ⟨g, 0, none⟩ = some (.string s) := (hh.2.cell (p := ⟨g, 0, none⟩) hg0).trans hp
      have cc := more_any xs[k] s g wr hp'
      cases hf : ltS s xs[k] with
      | false =>
        rw [hf] at cc
        have HS := Lib.hid (hh.miss q hf)
        clear hc hh hf h hp hp'
        go_wp2_with (go_at_call 44; refine cc.mono ?_; rintro e w' ⟨rfl, rfl⟩)
        go_roundw
        case rel => exact ⟨k + 1, by omega, by go_num, HS.out⟩
        case measure => simp [intOf]; omega
      | true =>
        rw [hf] at cc
        have hown := hh.1
        have HH := Lib.hid hh
        have HF := Lib.hid hf
        have HK := Kept.le (fun x => ltS s x) xs k
        have HZ := hh.2.size
        clear hc hh hf h hp hp'
        go_wp2_with (first
          | (go_at_call 44; refine cc.mono ?_; rintro e w' ⟨rfl, rfl⟩)
          | (at_builtin; refine wpList_append_own _ rfl _ _ 25 rfl w.heap.size 9 i0 (.string ⟨#[]⟩) 1 16 Tryd.underlying25 hi hz0 hz1 hz2 rfl (by decide) _ _ _ rfl (hown.alloc _) ⟨_, 0, none⟩ 1 1 [.string xs[k]] rfl rfl ?c1 ?c2 ?c3 ?c4 ?c5 ?_))
        case c1 =>
          intro j u hj
          match j, hj with
          | 0, hj => simp at hj; subst hj; simp [Addr.add]
        case c2 => intro u hu; simp at hu; subst hu; rfl
        case c3 => unfold maxLen; omega
        case c4 => omega
        case c5 => simp; omega
        · intro v' w1 hown' hgrow _
          have R := Lib.hid (HH.out.hit q HF.out hown' hgrow)
          clear hown' hgrow hown
          go_wp2
          go_roundw
          case rel => exact ⟨k + 1, by omega, by go_num, R.out⟩
          case measure => simp [intOf]; omega
    · obtain rfl : k = n := by omega
      have HS := Lib.hid hh
      clear hh h hp
      go_wp2
      go_ret
      exact ⟨_, rfl, HS.out⟩

set_option maxHeartbeats 1000000 in
theorem keep_unlike (A : Option Addr) (n c : Nat) (xs : List ByteArray) (s : ByteArray) (g : Nat) (w : World) (h : RS w A n xs) (hn : n ≤ 1000) (hp : w.cell? ⟨g, 0, none⟩ = some (.string s)) :
    Calls Tryd.prog 40 #[.slice A n c, .func (.func 45) #[] #[.pointer (some ⟨g, 0, none⟩)]] w fun e w' => ∃ v, e = .returned v ∧ Keeps w (fun x => x.toList != s.toList) xs n v w' := by
  obtain ⟨i0, hi, hz0, hz1, hz2⟩ := info_parts str_info
  have hl := h.1
  have hg0 : g < w.heap.size := cell_lt hp
  go_enter Tryd.func40, Tryd.ntmps40
  go_wp2
  go_loopw [5, 10] (fun v i wr => ∃ k : Nat, k ≤ n ∧ i = .int .i64 k ∧ Keeps w (fun x => x.toList != s.toList) xs k v wr) (fun _ i _ => n - (intOf i).toNat)
  case atStart => exact ⟨0, Nat.zero_le _, rfl, Keeps.start _ _ _⟩
  case round =>
    obtain ⟨k, hk, rfl, hh⟩ := hrel
    by_cases hlt : k < n
    · have q : k < xs.length := by omega
      obtain ⟨b, off, rfl, hb1, hc⟩ := (h.below hh.2).2 (by omega)
      have hcell := hc k q
      have hp' : wr.cell? ⟨g, 0, none⟩ = some (.string s) := (hh.2.cell (p := ⟨g, 0, none⟩) hg0).trans hp
      have cc := unlike_any xs[k] s g wr hp'
      cases hf : (xs[k].toList != s.toList) with
      | false =>
        rw [hf] at cc
        have HS := Lib.hid (hh.miss q hf)
        clear hc hh hf h hp hp'
        go_wp2_with (go_at_call 45; refine cc.mono ?_; rintro e w' ⟨rfl, rfl⟩)
        go_roundw
        case rel => exact ⟨k + 1, by omega, by go_num, HS.out⟩
        case measure => simp [intOf]; omega
      | true =>
        rw [hf] at cc
        have hown := hh.1
        have HH := Lib.hid hh
        have HF := Lib.hid hf
        have HK := Kept.le (fun x => x.toList != s.toList) xs k
        have HZ := hh.2.size
        clear hc hh hf h hp hp'
        go_wp2_with (first
          | (go_at_call 45; refine cc.mono ?_; rintro e w' ⟨rfl, rfl⟩)
          | (at_builtin; refine wpList_append_own _ rfl _ _ 25 rfl w.heap.size 9 i0 (.string ⟨#[]⟩) 1 16 Tryd.underlying25 hi hz0 hz1 hz2 rfl (by decide) _ _ _ rfl (hown.alloc _) ⟨_, 0, none⟩ 1 1 [.string xs[k]] rfl rfl ?c1 ?c2 ?c3 ?c4 ?c5 ?_))
        case c1 =>
          intro j u hj
          match j, hj with
          | 0, hj => simp at hj; subst hj; simp [Addr.add]
        case c2 => intro u hu; simp at hu; subst hu; rfl
        case c3 => unfold maxLen; omega
        case c4 => omega
        case c5 => simp; omega
        · intro v' w1 hown' hgrow _
          have R := Lib.hid (HH.out.hit q HF.out hown' hgrow)
          clear hown' hgrow hown
          go_wp2
          go_roundw
          case rel => exact ⟨k + 1, by omega, by go_num, R.out⟩
          case measure => simp [intOf]; omega
    · obtain rfl : k = n := by omega
      have HS := Lib.hid hh
      clear hh h hp
      go_wp2
      go_ret
      exact ⟨_, rfl, HS.out⟩
end Go.Proofs.YtcnfjimncifbgaaDoor
