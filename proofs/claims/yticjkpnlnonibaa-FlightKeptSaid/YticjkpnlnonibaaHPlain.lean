/-
  Plain lemmas on packets in flight (layer 7). Nothing of any program stands here.
-/
import Derived.Test.YticjkpnlnonibaaKMem
import Derived.Test.YticjkpnlnonibaaRelMore
import Derived.Test.YticjkpnlnonibaaRelI
namespace Go.Proofs.Yticjkpnlnonibaa

/-- A packet: whence, whither, its bytes, and where these lie. -/
structure Pk where
  fr : Int
  to : Int
  body : List UInt8
  A : Option Addr
  c : Nat
/-- A packet in flight. -/
structure It where
  id : Nat
  p : Pk
def Pk.strip (p : Pk) : Int × Int × List UInt8 := (p.fr, p.to, p.body)
def It.strip (x : It) : Nat × Int × Int × List UInt8 := (x.id, x.p.strip)
/-- The flight: its packets, the last number, how many may be. -/
structure Fl where
  L : List It
  sent : Nat
  most : Nat
def capOf (most : Int) : Nat := if most < 1 then 1 else if 256 < most then 256 else most.toNat
theorem capOf_pos (m : Int) : 1 ≤ capOf m ∧ capOf m ≤ 256 := by unfold capOf; split <;> (try split) <;> omega
def pickOf (n : Nat) (pick : Int) : Nat := (pick % (n : Int)).toNat
theorem pickOf_lt {n : Nat} (h : 0 < n) (pick : Int) : pickOf n pick < n := by
  unfold pickOf
  have := Int.emod_lt_of_pos pick (show (0 : Int) < n by omega)
  have := Int.emod_nonneg pick (show (n : Int) ≠ 0 by omega)
  omega
theorem pickOf_int {n : Nat} (h : 0 < n) (pick : Int) : ((pickOf n pick : Nat) : Int) = pick % (n : Int) := by
  unfold pickOf
  have := Int.emod_nonneg pick (show (n : Int) ≠ 0 by omega)
  omega
theorem tmod_lt' (x : Int) {n : Int} (h : 0 < n) : x.tmod n < n ∧ -n < x.tmod n := by
  have h1 := Int.tmod_lt_of_pos x h
  refine ⟨h1, ?_⟩
  have h2 := Int.tmod_lt_of_pos (-x) h
  rw [Int.neg_tmod] at h2
  omega
theorem pick_twice {n : Nat} (h : 0 < n) (x : Int) : (x.tmod n + n).tmod n = ((pickOf n x : Nat) : Int) := by
  rw [pickOf_int h]
  have hb := tmod_lt' x (show (0 : Int) < n by omega)
  rw [Int.tmod_eq_emod_of_nonneg (by omega), Int.add_emod_right]
  have : x = (n : Int) * x.tdiv n + x.tmod n := (Int.mul_tdiv_add_tmod x n).symm
  conv => rhs; rw [this]
  rw [Int.add_emod, Int.mul_emod_right, Int.zero_add, Int.emod_emod]
theorem pick_once {n : Nat} (h : 0 < n) (x : Int) : (if x.tmod n < 0 then x.tmod n + n else x.tmod n) = ((pickOf n x : Nat) : Int) := by
  rw [← pick_twice h x]
  have hb := tmod_lt' x (show (0 : Int) < n by omega)
  generalize x.tmod n = r at hb ⊢
  split
  · exact (Int.tmod_eq_of_lt (by omega) (by omega)).symm
  · rw [Int.tmod_eq_emod_of_nonneg (by omega), Int.add_emod_right, Int.emod_eq_of_lt (by omega) (by omega)]
def Fl.full (s : Fl) : Bool := decide (s.most ≤ s.L.length)
def Fl.new (m : Int) : Fl := ⟨[], 0, capOf m⟩
def Fl.fly (s : Fl) (p : Pk) : Fl := ⟨s.L ++ [⟨s.sent + 1, p⟩], s.sent + 1, s.most⟩
def Fl.may (s : Fl) (p : Pk) : Bool := !s.full && decide (p.body.length ≤ 1400)
def Fl.out (s : Fl) (pick : Int) : Fl := ⟨s.L.eraseIdx (pickOf s.L.length pick), s.sent, s.most⟩
def Fl.lose (s : Fl) (to : Int) : Fl := ⟨s.L.filter fun x => x.p.to != to, s.sent, s.most⟩
/-- Small, and no body too long. -/
structure Fl.ok (s : Fl) : Prop where
  len : s.L.length ≤ s.most
  most : 1 ≤ s.most ∧ s.most ≤ 256
  body : ∀ x ∈ s.L, x.p.body.length ≤ 1400
theorem Fl.ok.new (m : Int) : (Fl.new m).ok := ⟨Nat.zero_le _, capOf_pos m, fun x h => by cases h⟩
theorem Fl.ok.fly {s : Fl} (h : s.ok) {p : Pk} (hf : s.full = false) (hp : p.body.length ≤ 1400) : (s.fly p).ok := by
  refine ⟨?_, h.most, fun x hx => ?_⟩
  · unfold Fl.full at hf
    simp only [decide_eq_false_iff_not] at hf
    show (s.L ++ [_]).length ≤ s.most
    rw [List.length_append, List.length_singleton]
    omega
  · rcases List.mem_append.1 hx with h1 | h1
    · exact h.body x h1
    · obtain rfl := List.mem_singleton.1 h1
      exact hp
theorem Fl.ok.out {s : Fl} (h : s.ok) (pick : Int) : (s.out pick).ok :=
  ⟨Nat.le_trans (List.length_eraseIdx_le _ _) h.len, h.most, fun x hx => h.body x (List.mem_of_mem_eraseIdx hx)⟩
theorem Fl.ok.lose {s : Fl} (h : s.ok) (to : Int) : (s.lose to).ok :=
  ⟨Nat.le_trans (List.length_filter_le _ _) h.len, h.most, fun x hx => h.body x (List.mem_filter.1 hx).1⟩
/-- Both tell the same. -/
structure Fl.same (s t : Fl) : Prop where
  L : s.L.map It.strip = t.L.map It.strip
  sent : s.sent = t.sent
  most : s.most = t.most
theorem Fl.same.len {s t : Fl} (h : s.same t) : s.L.length = t.L.length := by
  have := congrArg List.length h.L
  simpa using this
theorem Fl.same.new (m : Int) : (Fl.new m).same (Fl.new m) := ⟨rfl, rfl, rfl⟩
theorem Fl.same.full {s t : Fl} (h : s.same t) : s.full = t.full := by unfold Fl.full; rw [h.len, h.most]
theorem Fl.same.at_ {s t : Fl} (h : s.same t) (k : Nat) (hk : k < s.L.length) (hk' : k < t.L.length) : s.L[k].strip = t.L[k].strip := by
  have h1 : (s.L.map It.strip)[k]'(by simpa using hk) = (t.L.map It.strip)[k]'(by simpa using hk') := by simp only [h.L]
  simpa using h1
theorem Fl.same.fly {s t : Fl} (h : s.same t) {p q : Pk} (hp : p.strip = q.strip) : (s.fly p).same (t.fly q) := by
  refine ⟨?_, by simp [Fl.fly, h.sent], h.most⟩
  unfold Fl.fly
  rw [List.map_append, List.map_append, h.L]
  simp [It.strip, hp, h.sent]
theorem erase_strip (l : List It) (k : Nat) : (l.eraseIdx k).map It.strip = (l.map It.strip).eraseIdx k := by
  rw [List.eraseIdx_eq_take_drop_succ, List.eraseIdx_eq_take_drop_succ, List.map_append, List.map_take, List.map_drop]
theorem Fl.same.out {s t : Fl} (h : s.same t) (pick : Int) : (s.out pick).same (t.out pick) := by
  refine ⟨?_, h.sent, h.most⟩
  unfold Fl.out
  rw [erase_strip, erase_strip, h.L, h.len]
theorem strip_to {x y : It} (h : x.strip = y.strip) : x.p.to = y.p.to := by
  unfold It.strip Pk.strip at h
  simp only [Prod.mk.injEq] at h
  exact h.2.2.1
theorem filter_strip (to : Int) : ∀ l : List It, (l.filter fun x => x.p.to != to).map It.strip = (l.map It.strip).filter fun q => q.2.2.1 != to
  | [] => rfl
  | x :: l => by
    simp only [List.map_cons, List.filter_cons]
    have e : (It.strip x).2.2.1 = x.p.to := rfl
    rw [e]
    split
    · rw [List.map_cons, filter_strip to l]
    · exact filter_strip to l
theorem Fl.same.lose {s t : Fl} (h : s.same t) (to : Int) : (s.lose to).same (t.lose to) := by
  refine ⟨?_, h.sent, h.most⟩
  unfold Fl.lose
  rw [filter_strip, filter_strip, h.L]
theorem Fl.same.trans {s t u : Fl} (h : s.same t) (k : t.same u) : s.same u := ⟨h.L.trans k.L, h.sent.trans k.sent, h.most.trans k.most⟩
end Go.Proofs.Yticjkpnlnonibaa
