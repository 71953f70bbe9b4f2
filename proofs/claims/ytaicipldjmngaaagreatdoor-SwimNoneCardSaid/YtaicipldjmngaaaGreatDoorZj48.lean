import Derived.Test.YtaicipldjmngaaaGreatDoorZj47
import Derived.Test.YtaicipldjmngaaaGreatDoorZj6
import Derived.IntWalk
namespace Go.Proofs.YtaicipldjmngaaaGreatDoor.dr
end Go.Proofs.YtaicipldjmngaaaGreatDoor.dr
namespace Go.Proofs.YtaicipldjmngaaaGreatDoor.pr
open Go.Proofs.YtaicipldjmngaaaGreatDoor.dr
open Go.RowKit
set_option linter.unusedSimpArgs false
set_option linter.unusedVariables false
def IRw (w : World) (xs : List Int) (e : Ending) (w' : World) : Prop :=
  ∃ A c, e = .returned (.slice A xs.length c) ∧ RV w' A xs.length (xs.map nV) ∧ xs.length ≤ c ∧ c ≤ maxLen ∧ (A = none → c = 0) ∧ (∀ b off, A = some ⟨b, off, none⟩ → w.heap.size ≤ b)
theorem IRow.rw {w w1 w' : World} {xs : List Int} {e : Ending} (h : IRow w1 xs e w') (hs : w.heap.size ≤ w1.heap.size) : IRw w xs e w' ∧ Below w1.heap.size w1 w' := by
  obtain ⟨A, c, e, h1, h2, h3, h4, h5, h6⟩ := h
  exact ⟨⟨A, c, e, h1, h2, h3, h4, fun b off e => Nat.le_trans hs (h5 b off e)⟩, h6⟩
def butL (live : List Int) (x : Int) : List Int := live.filter fun y => !(y == x)
end Go.Proofs.YtaicipldjmngaaaGreatDoor.pr

namespace Go.Proofs.YtaicipldjmngaaaGreatDoor.dr
end Go.Proofs.YtaicipldjmngaaaGreatDoor.dr
namespace Go.Proofs.YtaicipldjmngaaaGreatDoor.pr
open Go.Proofs.YtaicipldjmngaaaGreatDoor.dr
open Go.RowKit
set_option linter.unusedSimpArgs false
set_option linter.unusedVariables false
structure AdOk (S : Nat → Prop) (w0 : World) (B : Nat) (A : Option Addr) (c : Nat) (g : Rg) (n : Int) (i L : Nat) : Prop where
  ring : RgIs true S w0 B A c g
  len : g.row.length = L
  le : i ≤ L
  few : L ≤ 8
  lt : ∀ k, S k → k < w0.heap.size
def AdS (B base : Nat) : Nat → Prop := fun k => k = B ∨ base ≤ k
structure AdJ (S : Nat → Prop) (w0 : World) (B : Nat) (A : Option Addr) (c : Nat) (g : Rg) (n : Int) (i L : Nat) (f : Nat → Bool) (a : Act) (w : World) : Prop where
  bel : f 22 = false → Below w0.heap.size w0 w
  built : f 9 = true → f 10 = false → ∀ v, a.tmps[46]? = some v → ∃ X, v = .slice (some ⟨X, 0, none⟩) 1 1 ∧ w.heap[X]? = some (.cells #[.int .i64 n] 3 (0, 0))
  one : f 10 = true → f 19 = false → ∀ v, a.tmps[47]? = some v → w.ownsRow w0.heap.size 3 1 v (i + 1) ((g.row.take i ++ [n]).map nV)
  two : f 19 = true → f 22 = false → ∀ v, a.tmps[56]? = some v → w.ownsRow w0.heap.size 3 1 v (L + 1) ((putAt g.row i n).map nV)
  fin : f 22 = true → (∃ A c, RgIs true S w B A c ⟨putAt g.row i n, g.at_⟩) ∧ But (· = B) w0 w
section
variable {S : Nat → Prop} {w0 : World} {B : Nat} {A : Option Addr} {c : Nat} {g : Rg} {n : Int} {i L : Nat} {f : Nat → Bool} {a : Act} {w : World}
theorem AdOk.rv (h : AdOk S w0 B A c g n i L) : RV w0 A L (g.row.map nV) := by have := h.ring.row.1; rw [h.len] at this; exact this
theorem AdOk.lc (h : AdOk S w0 B A c g n i L) : L ≤ c := h.len ▸ h.ring.le
theorem AdOk.none_ (h : AdOk S w0 B A c g n i L) (e : A = none) : L = 0 := by have := h.ring.nil e; have := h.lc; omega
theorem put_at {a : Act} {t : Nat} {v u : Value} (h : (a.put (some t) v).tmps[t]? = some u) : u = v := by
  rw [show (a.put (some t) v).tmps = a.tmps.setIfInBounds t v from rfl, Array.getElem?_setIfInBounds_self] at h
  split at h
  · exact (Option.some.inj h).symm
  · cases h
theorem put_off {a : Act} {t s : Nat} {v : Value} (h : t ≠ s) : (a.put (some t) v).tmps[s]? = a.tmps[s]? := by
  rw [show (a.put (some t) v).tmps = a.tmps.setIfInBounds t v from rfl, Array.getElem?_setIfInBounds_ne h]
theorem upd_off {j m : Nat} (h : j ≠ m) : Go.Rel.upd f j m = f m := by
  unfold Go.Rel.upd
  have : (m == j) = false := by rw [beq_eq_false_iff_ne]; exact fun e => h e.symm
  rw [this, Bool.false_or]
theorem upd_on (j : Nat) : Go.Rel.upd f j j = true := by unfold Go.Rel.upd; simp
theorem AdJ.keep (h : AdJ S w0 B A c g n i L f a w) {j t : Nat} (hj : j ≠ 9 ∧ j ≠ 10 ∧ j ≠ 19 ∧ j ≠ 22) (ht : t ≠ 46 ∧ t ≠ 47 ∧ t ≠ 56) (v : Value) : AdJ S w0 B A c g n i L (Go.Rel.upd f j) (a.put (some t) v) w := by
  obtain ⟨j1, j2, j3, j4⟩ := hj
  obtain ⟨t1, t2, t3⟩ := ht
  refine ⟨?_, ?_, ?_, ?_, ?_⟩
  · rw [upd_off j4]; exact h.bel
  · rw [upd_off j1, upd_off j2, put_off t1]; exact h.built
  · rw [upd_off j2, upd_off j3, put_off t2]; exact h.one
  · rw [upd_off j3, upd_off j4, put_off t3]; exact h.two
  · rw [upd_off j4]; exact h.fin
theorem AdJ.cl (h : AdJ S w0 B A c g n i L f a w) (HOK : AdOk S w0 B A c g n i L) (z : f 22 = false) : w.cell? ⟨B, 1, none⟩ = some (.slice A L c) := by
  have h1 := (HOK.ring.below (h.bel z)).cl
  rw [HOK.len] at h1
  exact h1
theorem AdJ.start (HOK : AdOk S w0 B A c g n i L) : AdJ S w0 B A c g n i L (fun _ => false) a { w0 with drawn := w0.drawn + 1 } :=
  ⟨fun _ => ⟨rfl, rfl, rfl, Nat.le_refl _, fun _ _ => rfl⟩, (fun h => by cases h), (fun h => by cases h), (fun h => by cases h), (fun h => by cases h)⟩
theorem AdJ.first (h : AdJ S w0 B A c g n i L f a w) (HOK : AdOk S w0 B A c g n i L) (fB : f 9 = true) (f1 : f 10 = false) (z2 : f 19 = false) (zS : f 22 = false) {u : Value} (hu : a.tmps[46]? = some u) (ty : TypeId) :
    ∃ v' w', (Builtin.append_ #[58, 58] ty #[.slice A i i, u]).run Tryz.prog w = .ok v' w' ∧ But (AdS B w0.heap.size) w w' ∧ AdJ S w0 B A c g n i L (Go.Rel.upd f 10) (a.put (some 47) v') w' := by
  have hb := h.bel zS
  obtain ⟨X, rfl, hX⟩ := h.built fB f1 u hu
  have hrv := (HOK.rv.below hb).take HOK.le
  have hfew := HOK.few
  have hle := HOK.le
  have h2 : RV w (some ⟨X, 0, none⟩) 1 [.int .i64 n] := ⟨rfl, fun _ => ⟨X, 0, rfl, block_lt hX, fun j hj => by
    obtain rfl : j = 0 := by simpa using hj
    rw [cell_of_row _ _ _ _ _ _ hX]
    rfl⟩⟩
  obtain ⟨v', w', hr, ho, hb'⟩ := run_append_full w ty A i ((g.row.map nV).take i) hrv (fun e => by have := HOK.none_ e; omega) (some ⟨X, 0, none⟩) 1 1 [.int .i64 n] h2 (fun u hu => by obtain rfl := List.mem_singleton.1 hu; rfl) (by omega) (by omega)
  have hbb : Below w0.heap.size w0 w' := hb.trans (hb'.mono hb.size)
  refine ⟨v', w', hr, But.of_below hb', fun _ => hbb, ?_, fun _ _ v hv => ?_, ?_, ?_⟩
  · rw [upd_on]; exact fun _ h => by cases h
  · rw [put_at hv, List.map_append, List.map_take]
    exact bown_base ho hb.size
  · rw [upd_off (by decide), z2]; exact fun h => by cases h
  · rw [upd_off (by decide), zS]; exact fun h => by cases h
theorem AdJ.store (h : AdJ S w0 B A c g n i L f a w) (HOK : AdOk S w0 B A c g n i L) (f1 : f 10 = true) (f2 : f 19 = true) (fS : f 22 = false) {u : Value} (hu : a.tmps[56]? = some u) :
    ∃ A' c', u = .slice A' (L + 1) c' ∧ w.cell? ⟨B, 1, none⟩ = some (.slice A L c) ∧ w.frozen? ⟨B, 1, none⟩ = false ∧ But (AdS B w0.heap.size) w (w.setCell ⟨B, 1, none⟩ (.slice A' (L + 1) c')) ∧ AdJ S w0 B A c g n i L (Go.Rel.upd f 22) (a.put none undef) (w.setCell ⟨B, 1, none⟩ (.slice A' (L + 1) c')) := by
  have hb := h.bel fS
  have ho := h.two f2 fS u hu
  obtain ⟨A', c', rfl, hR, hnil, hnc, hm, hbase⟩ := RV.own ho
  have hri := HOK.ring.below hb
  have hset : But (· = B) w (w.setCell ⟨B, 1, none⟩ (.slice A' (L + 1) c')) := But.set_ _ w B 1 _ rfl
  have hlen : (putAt g.row i n).length = L + 1 := by rw [putAt_length, HOK.len]
  refine ⟨A', c', rfl, h.cl HOK fS, hri.froz 1, hset.mono (fun k e => .inl e), ?_, ?_, ?_, ?_, fun _ => ⟨⟨A', c', ?_⟩, (But.of_below hb).trans hset⟩⟩
  · rw [upd_on]; exact fun h => by cases h
  · rw [upd_off (by decide), upd_off (by decide)]; rw [f1]; exact fun _ h => by cases h
  · rw [upd_off (by decide), upd_off (by decide), f2]; exact fun _ h => by cases h
  · rw [upd_on]; exact fun _ h => by cases h
  · have h1 := hri.setRow (A' := A') (c' := c') (row := putAt g.row i n) (by
      rw [hlen]
      exact ⟨hR, fun b off e _ hs => by have := hbase b off e; have := HOK.lt b hs; omega⟩) (by omega) hm hnil
    rw [hlen] at h1
    exact h1
end
end Go.Proofs.YtaicipldjmngaaaGreatDoor.pr

namespace Go.Proofs.YtaicipldjmngaaaGreatDoor.dr
end Go.Proofs.YtaicipldjmngaaaGreatDoor.dr
namespace Go.Proofs.YtaicipldjmngaaaGreatDoor.pr
open Go.Proofs.YtaicipldjmngaaaGreatDoor.dr
open Go.RowKit
set_option linter.unusedSimpArgs false
set_option linter.unusedVariables false
structure ReOk (S : Nat → Prop) (w0 : World) (B : Nat) (A : Option Addr) (c : Nat) (g : Rg) (ip L : Nat) : Prop where
  ring : RgIs true S w0 B A c g
  len : g.row.length = L
  le : ip + 1 ≤ L
  few : L ≤ 8
  lt : ∀ k, S k → k < w0.heap.size
def ReJ (S : Nat → Prop) (w0 : World) (B : Nat) (g : Rg) (ip : Nat) (f : Nat → Bool) (w : World) : Prop :=
  (f 20 = false → Below w0.heap.size w0 w) ∧ (f 20 = true → (∃ A c, RgIs true S w B A c ⟨g.row.eraseIdx ip, g.at_⟩) ∧ But (· = B) w0 w)
section
variable {S : Nat → Prop} {w0 : World} {B : Nat} {A : Option Addr} {c : Nat} {g : Rg} {ip L : Nat} {f : Nat → Bool} {w : World}
theorem ReOk.rv (h : ReOk S w0 B A c g ip L) : RV w0 A L (g.row.map nV) := by have := h.ring.row.1; rw [h.len] at this; exact this
theorem ReOk.lc (h : ReOk S w0 B A c g ip L) : L ≤ c := h.len ▸ h.ring.le
theorem ReOk.none_ (h : ReOk S w0 B A c g ip L) (e : A = none) : L = 0 := by have := h.ring.nil e; have := h.lc; omega
theorem ReJ.cl (HOK : ReOk S w0 B A c g ip L) (h : ReJ S w0 B g ip f w) (z : f 20 = false) : w.cell? ⟨B, 1, none⟩ = some (.slice A L c) := by
  have h1 := (HOK.ring.below (h.1 z)).cl
  rw [HOK.len] at h1
  exact h1
theorem ReJ.start (w0 : World) : ReJ S w0 B g ip (fun _ => false) { w0 with drawn := w0.drawn + 1 } :=
  ⟨fun _ => ⟨rfl, rfl, rfl, Nat.le_refl _, fun _ _ => rfl⟩, (fun h => by cases h)⟩
theorem ReJ.append (HOK : ReOk S w0 B A c g ip L) (h : ReJ S w0 B g ip f w) (z : f 20 = false) (ty : TypeId) :
    ∃ A' c' w', (Builtin.append_ #[58, 58] ty #[.slice A ip ip, .slice (tailA A (ip + 1) L) (L - (ip + 1)) (L - (ip + 1))]).run Tryz.prog w = .ok (.slice A' (L - 1) c') w' ∧ But S w w' ∧ ReJ S w0 B g ip (Go.Rel.upd f 17) w' ∧
      (RVn S w' A' (L - 1) ((g.row.eraseIdx ip).map nV) ∧ L - 1 ≤ c' ∧ c' ≤ maxLen ∧ (A' = none → c' = 0)) := by
  have hb := h.1 z
  have hle := HOK.le
  have hfew := HOK.few
  have hrv := HOK.rv.below hb
  have hhead := hrv.take (k := ip) (by omega)
  have htail := hrv.tail (lo := ip + 1) hle
  have he : (g.row.eraseIdx ip).map nV = (g.row.map nV).take ip ++ (g.row.map nV).drop (ip + 1) := by rw [List.eraseIdx_eq_take_drop_succ, List.map_append, List.map_take, List.map_drop]
  have hJ : ∀ w', Below w0.heap.size w0 w' → ReJ S w0 B g ip (Go.Rel.upd f 17) w' := fun w' hb' => ⟨fun _ => hb', fun h => by
    have : Go.Rel.upd f 17 20 = f 20 := rfl
    rw [this, z] at h
    cases h⟩
  have hnone : A = none → ip = 0 := fun e => by have := HOK.none_ e; omega
  rcases Nat.eq_zero_or_pos (L - (ip + 1)) with e0 | e0
  · rw [e0] at htail ⊢
    have hy : (g.row.map nV).drop (ip + 1) = [] := List.eq_nil_of_length_eq_zero htail.1
    have hi1 : ip = L - 1 := by omega
    refine ⟨A, ip, w, ?_, But.refl _ _, hJ w hb, ?_, by omega, by unfold maxLen; omega, hnone⟩
    · rw [← hi1]
      exact run_append_nothing w ty A ip ⟨_, hhead⟩ hnone _
    · rw [he, hy, List.append_nil, ← hi1]
      refine ⟨hhead, fun b off e hn => ?_⟩
      have hrow := HOK.ring.row.2 b off e (by have := HOK.len; omega)
      exact hrow
  · obtain ⟨v', w', hr, ho, hb'⟩ := run_append_full w ty A ip _ hhead hnone _ (L - (ip + 1)) (L - (ip + 1)) _ htail (fun u hu => nV_one g.row u (List.mem_of_mem_drop hu)) e0 (by omega)
    rw [show ip + (L - (ip + 1)) = L - 1 by omega, ← he] at ho
    obtain ⟨A', c', rfl, hR, hnil, hnc, hm, hbase⟩ := RV.own ho
    refine ⟨A', c', w', hr, But.of_below hb', hJ w' (hb.trans (hb'.mono hb.size)), ⟨hR, fun b off e _ hs => ?_⟩, hnc, hm, hnil⟩
    have h1 := hbase b off e
    have h2 := HOK.lt b hs
    have h3 := hb.size
    omega
theorem ReJ.store (HOK : ReOk S w0 B A c g ip L) (h : ReJ S w0 B g ip f w) (z : f 20 = false) {A' : Option Addr} {c' : Nat} (h1 : RVn S w A' (L - 1) ((g.row.eraseIdx ip).map nV)) (h2 : L - 1 ≤ c') (h3 : c' ≤ maxLen) (h4 : A' = none → c' = 0) :
    w.cell? ⟨B, 1, none⟩ = some (.slice A L c) ∧ w.frozen? ⟨B, 1, none⟩ = false ∧ But S w (w.setCell ⟨B, 1, none⟩ (.slice A' (L - 1) c')) ∧ ReJ S w0 B g ip (Go.Rel.upd f 20) (w.setCell ⟨B, 1, none⟩ (.slice A' (L - 1) c')) := by
  have hb := h.1 z
  have hri := HOK.ring.below hb
  have hset : But (· = B) w (w.setCell ⟨B, 1, none⟩ (.slice A' (L - 1) c')) := But.set_ _ w B 1 _ rfl
  have hlen : (g.row.eraseIdx ip).length = L - 1 := by rw [List.length_eraseIdx_of_lt (by rw [HOK.len]; exact HOK.le), HOK.len]
  refine ⟨ReJ.cl HOK h z, hri.froz 1, hset.mono (fun k e => by rw [e]; exact HOK.ring.mine), (fun h => by cases h), fun _ => ⟨⟨A', c', ?_⟩, (But.of_below hb).trans hset⟩⟩
  have h5 := hri.setRow (A' := A') (c' := c') (row := g.row.eraseIdx ip) (by rw [hlen]; exact h1) (by omega) h3 h4
  rw [hlen] at h5
  exact h5
end
end Go.Proofs.YtaicipldjmngaaaGreatDoor.pr
