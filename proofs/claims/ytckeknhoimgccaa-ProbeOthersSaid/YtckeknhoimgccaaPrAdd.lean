/-
  Add of the program's ring, walked (layer 12).
-/
import Derived.Test.YtckeknhoimgccaaPrApp
import Derived.Test.YtckeknhoimgccaaEBelow
namespace Go.Proofs.Ytckeknhoimgccaa
open Go.RowKit
set_option linter.unusedSimpArgs false
set_option linter.unusedVariables false

/-- What is so as the region of Add begins. -/
structure AdOk (S : Nat → Prop) (w0 : World) (B : Nat) (A : Option Addr) (c : Nat) (g : Rg) (n : Int) (i L : Nat) : Prop where
  ring : RgIs true S w0 B A c g
  len : g.row.length = L
  le : i ≤ L
  few : L ≤ 8
  lt : ∀ k, S k → k < w0.heap.size
/-- What may change. -/
def AdS (B base : Nat) : Nat → Prop := fun k => k = B ∨ base ≤ k
/-- What has been done. -/
structure AdJ (S : Nat → Prop) (w0 : World) (B : Nat) (A : Option Addr) (c : Nat) (g : Rg) (n : Int) (i L : Nat) (f : Nat → Bool) (a : Act) (w : World) : Prop where
  bel : f 22 = false → Below w0.heap.size w0 w
  built : f 9 = true → f 10 = false → ∀ v, a.tmps[46]? = some v → ∃ X, v = .slice (some ⟨X, 0, none⟩) 1 1 ∧ w.heap[X]? = some (.cells #[.int .i64 n] 3 (0, 0))
  one : f 10 = true → f 19 = false → ∀ v, a.tmps[47]? = some v → w.ownsRow w0.heap.size 3 1 v (i + 1) ((g.row.take i ++ [n]).map nV)
  two : f 19 = true → f 22 = false → ∀ v, a.tmps[56]? = some v → w.ownsRow w0.heap.size 3 1 v (L + 1) ((putAt g.row i n).map nV)
  fin : f 22 = true → (∃ A c, RgIs true S w B A c ⟨putAt g.row i n, g.at_⟩) ∧ But (· = B) w0 w
section
variable {S : Nat → Prop} {w0 : World} {B : Nat} {A : Option Addr} {c : Nat} {g : Rg} {n : Int} {i L : Nat} {f : Nat → Bool} {a : Act} {w : World}
theorem AdOk.rv (h : AdOk S w0 B A c g n i L) : RV w0 A L (g.row.map nV) := by have := h.ring.row.1; rw [h.len] at this; exact this
theorem AdOk.le' (h : AdOk S w0 B A c g n i L) : i ≤ L := h.le
theorem AdOk.lc (h : AdOk S w0 B A c g n i L) : L ≤ c := h.len ▸ h.ring.le
theorem AdOk.none_ (h : AdOk S w0 B A c g n i L) (e : A = none) : L = 0 := by have := h.ring.nil e; have := h.lc; omega
theorem put_at {a : Act} {t : Nat} {v u : Value} (h : (a.put (some t) v).tmps[t]? = some u) : u = v := by
  rw [show (a.put (some t) v).tmps = a.tmps.setIfInBounds t v from rfl, Array.getElem?_setIfInBounds_self] at h
  split at h
  · exact (Option.some.inj h).symm
  · cases h
theorem put_off {a : Act} {t s : Nat} {v : Value} (h : t ≠ s) : (a.put (some t) v).tmps[s]? = a.tmps[s]? := by
  rw [show (a.put (some t) v).tmps = a.tmps.setIfInBounds t v from rfl, Array.getElem?_setIfInBounds_ne h]
theorem upd_off {j m : Nat} (h : j ≠ m) : Go.Rel.upd f j m = f m := by
  unfold Go.Rel.upd
  have : (m == j) = false := by rw [beq_eq_false_iff_ne]; exact fun e => h e.symm
  rw [this, Bool.false_or]
theorem upd_on (j : Nat) : Go.Rel.upd f j j = true := by unfold Go.Rel.upd; simp
theorem AdJ.keep (h : AdJ S w0 B A c g n i L f a w) {j t : Nat} (hj : j ≠ 9 ∧ j ≠ 10 ∧ j ≠ 19 ∧ j ≠ 22) (ht : t ≠ 46 ∧ t ≠ 47 ∧ t ≠ 56) (v : Value) : AdJ S w0 B A c g n i L (Go.Rel.upd f j) (a.put (some t) v) w := by
  obtain ⟨j1, j2, j3, j4⟩ := hj
  obtain ⟨t1, t2, t3⟩ := ht
  refine ⟨?_, ?_, ?_, ?_, ?_⟩
  · rw [upd_off j4]; exact h.bel
  · rw [upd_off j1, upd_off j2, put_off t1]; exact h.built
  · rw [upd_off j2, upd_off j3, put_off t2]; exact h.one
  · rw [upd_off j3, upd_off j4, put_off t3]; exact h.two
  · rw [upd_off j4]; exact h.fin
theorem AdJ.cl (h : AdJ S w0 B A c g n i L f a w) (HOK : AdOk S w0 B A c g n i L) (z : f 22 = false) : w.cell? ⟨B, 1, none⟩ = some (.slice A L c) := by
  have h1 := (HOK.ring.below (h.bel z)).cl
  rw [HOK.len] at h1
  exact h1
theorem AdJ.start (HOK : AdOk S w0 B A c g n i L) : AdJ S w0 B A c g n i L (fun _ => false) a { w0 with drawn := w0.drawn + 1 } :=
  ⟨fun _ => ⟨rfl, rfl, rfl, Nat.le_refl _, fun _ _ => rfl⟩, (fun h => by cases h), (fun h => by cases h), (fun h => by cases h), (fun h => by cases h)⟩
theorem AdJ.built_ (HOK : AdOk S w0 B A c g n i L) (h : AdJ S w0 B A c g n i L f a w) (z1 : f 10 = false) (z2 : f 19 = false) (zS : f 22 = false) : AdJ S w0 B A c g n i L (Go.Rel.upd f 9) (a.put (some 46) (.slice (some ⟨w.heap.size, 0, none⟩) 1 1)) (w.alloc (.cells #[.int .i64 n] 3)) := by
  have hb := h.bel zS
  refine ⟨fun _ => hb.alloc hb.size _, fun _ _ v hv => ⟨w.heap.size, put_at hv, heap_alloc_new w _⟩, ?_, ?_, ?_⟩
  · rw [upd_off (by decide), z1]; exact fun h => by cases h
  · rw [upd_off (by decide), z2]; exact fun h => by cases h
  · rw [upd_off (by decide), zS]; exact fun h => by cases h
theorem AdJ.first (h : AdJ S w0 B A c g n i L f a w) (HOK : AdOk S w0 B A c g n i L) (fB : f 9 = true) (f1 : f 10 = false) (z2 : f 19 = false) (zS : f 22 = false) {u : Value} (hu : a.tmps[46]? = some u) (ty : TypeId) :
    ∃ v' w', (Builtin.append_ #[27, 27] ty #[.slice A i i, u]).run Try.prog w = .ok v' w' ∧ But (AdS B w0.heap.size) w w' ∧ AdJ S w0 B A c g n i L (Go.Rel.upd f 10) (a.put (some 47) v') w' := by
  have hb := h.bel zS
  obtain ⟨X, rfl, hX⟩ := h.built fB f1 u hu
  have hrv := (HOK.rv.below hb).take HOK.le
  have hfew := HOK.few
  have hle := HOK.le
  have h2 : RV w (some ⟨X, 0, none⟩) 1 [.int .i64 n] := ⟨rfl, fun _ => ⟨X, 0, rfl, block_lt hX, fun j hj => by
    obtain rfl : j = 0 := by simpa using hj
    rw [cell_of_row _ _ _ _ _ _ hX]
    rfl⟩⟩
  obtain ⟨v', w', hr, ho, hb'⟩ := run_append_full w ty A i ((g.row.map nV).take i) hrv (fun e => by have := HOK.none_ e; omega) (some ⟨X, 0, none⟩) 1 1 [.int .i64 n] h2 (fun u hu => by obtain rfl := List.mem_singleton.1 hu; rfl) (by omega) (by omega)
  have hbb : Below w0.heap.size w0 w' := hb.trans (hb'.mono hb.size)
  refine ⟨v', w', hr, But.of_below hb', fun _ => hbb, ?_, fun _ _ v hv => ?_, ?_, ?_⟩
  · rw [upd_on]; exact fun _ h => by cases h
  · rw [put_at hv, List.map_append, List.map_take]
    exact bown_base ho hb.size
  · rw [upd_off (by decide), z2]; exact fun h => by cases h
  · rw [upd_off (by decide), zS]; exact fun h => by cases h
theorem AdJ.second (h : AdJ S w0 B A c g n i L f a w) (HOK : AdOk S w0 B A c g n i L) (f1 : f 10 = true) (f2 : f 19 = false) (zS : f 22 = false) {u : Value} (hu : a.tmps[47]? = some u) (ty : TypeId) :
    ∃ v' w', (Builtin.append_ #[27, 27] ty #[u, .slice (tailA A i L) (L - i) (L - i)]).run Try.prog w = .ok v' w' ∧ But (AdS B w0.heap.size) w w' ∧ AdJ S w0 B A c g n i L (Go.Rel.upd f 19) (a.put (some 56) v') w' := by
  have hb := h.bel zS
  have ho := h.one f1 f2 u hu
  have hrv := (HOK.rv.below hb).tail HOK.le
  have hfew := HOK.few
  have hle := HOK.le
  obtain ⟨v', w', hr, ho', hb'⟩ := run_append_row w ty w0.heap.size u (i + 1) _ ho hb.size (tailA A i L) (L - i) _ hrv (fun e => by have := HOK.none_ (tailA_none e); omega) (fun u hu => nV_one g.row u (List.mem_of_mem_drop hu)) (by omega)
  refine ⟨v', w', hr, ⟨hb'.os, hb'.tape, hb'.output, hb'.size, fun k hk hn => hb'.block k (Nat.lt_of_not_le fun e => hn (.inr e))⟩, fun _ => hb.trans hb', ?_, ?_, fun _ _ v hv => ?_, ?_⟩
  · rw [upd_off (by decide), upd_off (by decide), f1]; exact fun _ h => by cases h
  · rw [upd_on]; exact fun _ h => by cases h
  · rw [put_at hv]
    have e : (g.row.take i ++ [n]).map nV ++ (g.row.map nV).drop i = (putAt g.row i n).map nV := by simp [putAt, List.map_take, List.map_drop]
    rw [e, show i + 1 + (L - i) = L + 1 by omega] at ho'
    exact ho'
  · rw [upd_off (by decide), zS]; exact fun h => by cases h
theorem AdJ.store (h : AdJ S w0 B A c g n i L f a w) (HOK : AdOk S w0 B A c g n i L) (f1 : f 10 = true) (f2 : f 19 = true) (fS : f 22 = false) {u : Value} (hu : a.tmps[56]? = some u) :
    ∃ A' c', u = .slice A' (L + 1) c' ∧ w.cell? ⟨B, 1, none⟩ = some (.slice A L c) ∧ w.frozen? ⟨B, 1, none⟩ = false ∧ But (AdS B w0.heap.size) w (w.setCell ⟨B, 1, none⟩ (.slice A' (L + 1) c')) ∧ AdJ S w0 B A c g n i L (Go.Rel.upd f 22) (a.put none undef) (w.setCell ⟨B, 1, none⟩ (.slice A' (L + 1) c')) := by
  have hb := h.bel fS
  have ho := h.two f2 fS u hu
  obtain ⟨A', c', rfl, hR, hnil, hnc, hm, hbase⟩ := RV.own ho
  have hri := HOK.ring.below hb
  have hset : But (· = B) w (w.setCell ⟨B, 1, none⟩ (.slice A' (L + 1) c')) := But.set_ _ w B 1 _ rfl
  have hlen : (putAt g.row i n).length = L + 1 := by rw [putAt_length, HOK.len]
  refine ⟨A', c', rfl, h.cl HOK fS, hri.froz 1, hset.mono (fun k e => .inl e), ?_, ?_, ?_, ?_, fun _ => ⟨⟨A', c', ?_⟩, (But.of_below hb).trans hset⟩⟩
  · rw [upd_on]; exact fun h => by cases h
  · rw [upd_off (by decide), upd_off (by decide)]; rw [f1]; exact fun _ h => by cases h
  · rw [upd_off (by decide), upd_off (by decide), f2]; exact fun _ h => by cases h
  · rw [upd_on]; exact fun _ h => by cases h
  · have h1 := hri.setRow (A' := A') (c' := c') (row := putAt g.row i n) (by
      rw [hlen]
      exact ⟨hR, fun b off e _ hs => by have := hbase b off e; have := HOK.lt b hs; omega⟩) (by omega) hm hnil
    rw [hlen] at h1
    exact h1
end
def adR (S : Nat → Prop) (B : Nat) (A : Option Addr) (c : Nat) (n : Int) (ip : Nat) (L : Nat) : Nat → Value → World → Prop
  | 0, v, _ => v = .pointer (some ⟨B, 0, none⟩)
  | 1, v, _ => v = .pointer (some ⟨B, 0, none⟩)
  | 2, v, _ => v = .pointer (some ⟨B, 0, none⟩)
  | 3, v, _ => v = .pointer (some ⟨B, 1, none⟩)
  | 4, v, _ => v = .slice A L c
  | 5, v, _ => v = .int .i64 (ip : Int)
  | 6, v, _ => v = .int .i64 (ip : Int)
  | 7, v, _ => v = .slice A ip ip
  | 8, v, _ => v = .int .i64 n
  | 9, v, w => True
  | 10, v, w => True
  | 11, v, _ => v = .pointer (some ⟨B, 0, none⟩)
  | 12, v, _ => v = .pointer (some ⟨B, 0, none⟩)
  | 13, v, _ => v = .pointer (some ⟨B, 1, none⟩)
  | 14, v, _ => v = .slice A L c
  | 15, v, _ => v = .int .i64 (ip : Int)
  | 16, v, _ => v = .int .i64 (L : Int)
  | 17, v, _ => v = .int .i64 (L : Int)
  | 18, v, _ => v = .slice (tailA A ip L) (L - ip) (L - ip)
  | 19, v, w => True
  | 20, v, _ => v = .pointer (some ⟨B, 0, none⟩)
  | 21, v, _ => v = .pointer (some ⟨B, 1, none⟩)
  | 22, v, _ => v = undef
  | _, _, _ => True
theorem adR_stable (S : Nat → Prop) (B : Nat) (A : Option Addr) (c : Nat) (n : Int) (ip : Nat) (L : Nat) : ∀ i v w w', adR S B A c n ip L i v w → But S w w' → adR S B A c n ip L i v w'
  | 0, _, _, _, h, _ | 1, _, _, _, h, _ | 2, _, _, _, h, _ | 3, _, _, _, h, _ | 4, _, _, _, h, _ | 5, _, _, _, h, _ | 6, _, _, _, h, _ | 7, _, _, _, h, _ | 8, _, _, _, h, _ | 11, _, _, _, h, _ | 12, _, _, _, h, _ | 13, _, _, _, h, _ | 14, _, _, _, h, _ | 15, _, _, _, h, _ | 16, _, _, _, h, _ | 17, _, _, _, h, _ | 18, _, _, _, h, _ | 20, _, _, _, h, _ | 21, _, _, _, h, _ | 22, _, _, _, h, _ => h
  | 9, _, _, _, h, g => trivial
  | 10, _, _, _, h, g => trivial
  | 19, _, _, _, h, g => trivial
  | _ + 23, _, _, _, h, _ => h

theorem addno_ring (v vd : Value) (n : Int) (w : World) (h : NoRg w v) : Calls Try.prog 11 #[v, .int .i64 n, vd] w fun e w' => e = .returned (.bool false) ∧ w = w' := by
  have HM := Lib.hid (made_no v w h)
  clear h
  go_enter Try.func11, Try.ntmps11
  go_wp2_with fail
  refine HM.out.mono ?_
  rintro e w' ⟨rfl, rfl⟩
  go_wp2
  go_ret
  exact ⟨rfl, rfl⟩
set_option maxHeartbeats 1000000 in
theorem add_no {S : Nat → Prop} {B : Nat} {g : Rg} (vd : Value) (n : Int) (w : World) (h : RgAt true S w B g) (ht : g.takes n = false) : Calls Try.prog 11 #[.pointer (some ⟨B, 0, none⟩), .int .i64 n, vd] w fun e w' => e = .returned (.bool false) ∧ w = w' := by
  obtain ⟨hok, A, c, hi⟩ := h
  have HM := Lib.hid (made_yes w hi)
  have HC := Lib.hid (contains_any A g.row.length c g.row n w (hi.lst (Rg.few hok)))
  have cl : w.cell? ⟨B, 1, none⟩ = some (.slice A g.row.length c) := hi.cl
  obtain ⟨L, hL⟩ : ∃ L, g.row.length = L := ⟨_, rfl⟩
  rw [hL] at HC cl
  have hcase : n < 0 ∨ (0 ≤ n ∧ 8 ≤ n) ∨ (0 ≤ n ∧ n < 8 ∧ g.row.contains n = true) := by
    by_cases h1 : 0 ≤ n ∧ n < 8
    · refine .inr (.inr ⟨h1.1, h1.2, ?_⟩)
      cases hc : g.row.contains n with
      | true => rfl
      | false =>
        unfold Rg.takes nodeOk at ht
        rw [hc] at ht
        simp [h1] at ht
    · omega
  clear hi hok hL ht
  rcases hcase with h1 | ⟨h1, h2⟩ | ⟨h1, h2, h3⟩
  · go_enter Try.func11, Try.ntmps11
    go_wp2_with fail
    refine HM.out.mono ?_
    rintro e w' ⟨rfl, rfl⟩
    go_wp2
    go_ret
    exact ⟨rfl, rfl⟩
  · have q : ¬ n < 0 := by omega
    go_enter Try.func11, Try.ntmps11
    go_wp2_with fail
    refine HM.out.mono ?_
    rintro e w' ⟨rfl, rfl⟩
    go_wp2
    go_ret
    exact ⟨rfl, rfl⟩
  · have q : ¬ n < 0 := by omega
    have q2 : ¬ 8 ≤ n := by omega
    rw [h3] at HC
    clear h3
    go_enter Try.func11, Try.ntmps11
    go_wp2_with fail
    refine HM.out.mono ?_
    rintro e w' ⟨rfl, rfl⟩
    go_wp2_with fail
    refine HC.out.mono ?_
    rintro e w' ⟨rfl, rfl⟩
    go_wp2
    go_ret
    exact ⟨rfl, rfl⟩
set_option maxHeartbeats 8000000 in
set_option maxRecDepth 100000 in
theorem add_yes {S : Nat → Prop} {B : Nat} {g : Rg} {d : Dr} (v : Value) (n : Int) (w : World) (h : RgAt true S w B g) (hd : DwAt S w v d) (hS : ∀ k, S k → k < w.heap.size) (hne : ¬ Tgt v B) (ht : g.takes n = true) :
    Calls Try.prog 11 #[.pointer (some ⟨B, 0, none⟩), .int .i64 n, v] w fun e w' => e = .returned (.bool true) ∧ RgAt true S w' B (g.add n (d.below (g.row.length + 1 : Nat))) ∧ DwAt S w' v (d.next (g.row.length + 1 : Nat)) ∧ But (fun k => k = B ∨ Tgt v k) w w' := by
  have HAok := Lib.hid (Rg.add_ok h.1 ht (d.below (g.row.length + 1 : Nat)))
  obtain ⟨hok, A, c, hi⟩ := h
  have hf := Rg.few hok
  have HM := Lib.hid (made_yes w hi)
  have hcn : g.row.contains n = false := by
    cases hc : g.row.contains n with
    | false => rfl
    | true => unfold Rg.takes at ht; rw [hc] at ht; simp at ht
  have hC := contains_any A g.row.length c g.row n w (hi.lst hf)
  rw [hcn] at hC
  have cl : w.cell? ⟨B, 1, none⟩ = some (.slice A g.row.length c) := hi.cl
  obtain ⟨h1, h2⟩ := ((Rg.takes_iff g n).1 ht).1
  have hpos := hok.pos
  have hB := below_any S v d (g.row.length + 1 : Nat) w hd (by omega)
  have hlt := below_lt hd.1.1 (n := ((g.row.length + 1 : Nat) : Int)) (by omega)
  obtain ⟨L, hL⟩ : ∃ L, g.row.length = L := ⟨_, rfl⟩
  obtain ⟨ip, hii⟩ : ∃ ip, d.below (g.row.length + 1 : Nat) = ip := ⟨_, rfl⟩
  obtain ⟨d2, hd2⟩ : ∃ d2, d.next (g.row.length + 1 : Nat) = d2 := ⟨_, rfl⟩
  rw [hii] at hB hlt HAok ⊢
  rw [hd2] at hB ⊢
  rw [hL] at hC cl hf hlt hB hpos
  rw [Int.natCast_add] at hB
  have hiL : ip ≤ L := by omega
  have HL := Lib.hid hL
  have HC := Lib.hid hC
  have HBl := Lib.hid hB
  have HI := Lib.hid hi
  have HS := Lib.hid hS
  have HNe := Lib.hid hne
  have q : ¬ n < 0 := by omega
  have q2 : ¬ 8 ≤ n := by omega
  clear hok hi hC hL hii hd2 hB hd ht hcn hS hne hlt
  go_enter Try.func11, Try.ntmps11
  go_wp2_with fail
  refine HM.out.mono ?_
  rintro e w' ⟨rfl, rfl⟩
  go_wp2_with fail
  refine HC.out.mono ?_
  rintro e w' ⟨rfl, rfl⟩
  go_wp2_with fail
  refine HBl.out.mono ?_
  rintro e w1 ⟨rfl, hd1, hb1⟩
  have hri := HI.out.but hb1 (fun k hk => hd1.names k hk) HNe.out
  have HOK0 : AdOk S w1 B A c g n ip L := ⟨hri, HL.out, hiL, hf, fun k hk => Nat.lt_of_lt_of_le (HS.out k hk) hb1.size⟩
  have HOKH := Lib.hid HOK0
  have HD1 := Lib.hid hd1
  have HB1 := Lib.hid hb1
  clear hd1 hb1 hri HOK0 cl
  go_wp2
  have HOK := HOKH.out
  refine Go.Rel.wp_region_acts (by kernel_rfl) (by kernel_rfl) (by kernel_rfl) (by kernel_rfl) (AdJ S w1 B A c g n ip L) (But (AdS B w1.heap.size)) (fun _ _ _ h k => h.trans k) ((But.refl _ _).drew) (AdJ.start HOK) (adR (AdS B w1.heap.size) B A c n ip L) (adR_stable (AdS B w1.heap.size) B A c n ip L) ?hsteps ?hend
  case hsteps =>
    refine (.cons ?_ (.cons ?_ (.cons ?_ (.cons ?_ (.cons ?_ (.cons ?_ (.cons ?_ (.cons ?_ (.cons ?_ (.cons ?_ (.cons ?_ (.cons ?_ (.cons ?_ (.cons ?_ (.cons ?_ (.cons ?_ (.cons ?_ (.cons ?_ (.cons ?_ (.cons ?_ (.cons ?_ (.cons ?_ (.cons ?_ .nil)))))))))))))))))))))))
    · intro f a w' hI hf hanc hdesc hle hs' hd K hK
      have f0 : a.tmps[0]? = some (.pointer (some ⟨B, 0, none⟩)) := hs'.2.2 0 (by kernel_rfl)
      unfold Go.Rel.stepOf
      go_simp
      exact hK _ _ (But.refl _ _) (hI.keep (j := 0) (t := 37) (by decide) (by decide) _) rfl
    · intro f a w' hI hf hanc hdesc hle hs' hd K hK
      have f0 : a.tmps[0]? = some (.pointer (some ⟨B, 0, none⟩)) := hs'.2.2 0 (by kernel_rfl)
      unfold Go.Rel.stepOf
      go_simp
      exact hK _ _ (But.refl _ _) (hI.keep (j := 1) (t := 38) (by decide) (by decide) _) rfl
    · intro f a w' hI hf hanc hdesc hle hs' hd K hK
      obtain ⟨_, t1, rfl⟩ := hd 1 38 (by kernel_rfl)
      unfold Go.Rel.stepOf
      go_simp
      exact hK _ _ (But.refl _ _) (hI.keep (j := 2) (t := 39) (by decide) (by decide) _) rfl
    · intro f a w' hI hf hanc hdesc hle hs' hd K hK
      obtain ⟨_, t2, rfl⟩ := hd 2 39 (by kernel_rfl)
      unfold Go.Rel.stepOf
      go_simp
      exact hK _ _ (But.refl _ _) (hI.keep (j := 3) (t := 40) (by decide) (by decide) _) rfl
    · intro f a w' hI hf hanc hdesc hle hs' hd K hK
      obtain ⟨_, t3, rfl⟩ := hd 3 40 (by kernel_rfl)
      have zS : f 22 = false := hdesc 12 22 (by kernel_rfl)
      have cl : w'.cell? ⟨B, 1, none⟩ = some (.slice A L c) := (hI.cl HOK zS)
      unfold Go.Rel.stepOf
      go_simp
      exact hK _ _ (But.refl _ _) (hI.keep (j := 4) (t := 41) (by decide) (by decide) _) rfl
    · intro f a w' hI hf hanc hdesc hle hs' hd K hK
      have f8 : a.tmps[8]? = some (.int .i64 (ip : Int)) := hs'.2.2 8 (by kernel_rfl)
      unfold Go.Rel.stepOf
      go_simp
      exact hK _ _ (But.refl _ _) (hI.keep (j := 5) (t := 42) (by decide) (by decide) _) rfl
    · intro f a w' hI hf hanc hdesc hle hs' hd K hK
      have f8 : a.tmps[8]? = some (.int .i64 (ip : Int)) := hs'.2.2 8 (by kernel_rfl)
      unfold Go.Rel.stepOf
      go_simp
      exact hK _ _ (But.refl _ _) (hI.keep (j := 6) (t := 43) (by decide) (by decide) _) rfl
    · intro f a w' hI hf hanc hdesc hle hs' hd K hK
      obtain ⟨_, t4, rfl⟩ := hd 4 41 (by kernel_rfl)
      obtain ⟨_, t5, rfl⟩ := hd 5 42 (by kernel_rfl)
      obtain ⟨_, t6, rfl⟩ := hd 6 43 (by kernel_rfl)
      refine stepOf_slice 27 (.tmp 41) none (some (.tmp 42)) (some (.tmp 43)) rfl rfl (w' := w') (v := .slice A ip ip) ?_ (hK _ _ (But.refl _ _) (hI.keep (j := 7) (t := 44) (by decide) (by decide) _) rfl)
      simp only [Act.eval, Option.map_some, Option.map_none, t4, t5, t6, Array.getD_eq_getD_getElem?, Option.getD_some]
      exact run_head3 w' (HOK.rv.some_or HOK.le') (Nat.le_trans HOK.le' HOK.lc)
    · intro f a w' hI hf hanc hdesc hle hs' hd K hK
      have f1 : a.tmps[1]? = some (.int .i64 n) := hs'.2.2 1 (by kernel_rfl)
      unfold Go.Rel.stepOf
      go_simp
      exact hK _ _ (But.refl _ _) (hI.keep (j := 8) (t := 45) (by decide) (by decide) _) rfl
    · intro f a w' hI hf hanc hdesc hle hs' hd K hK
      obtain ⟨_, t8, rfl⟩ := hd 8 45 (by kernel_rfl)
      have z1 : f 10 = false := hdesc 12 10 (by kernel_rfl)
      have z2 : f 19 = false := hdesc 12 19 (by kernel_rfl)
      have zS : f 22 = false := hdesc 12 22 (by kernel_rfl)
      unfold Go.Rel.stepOf
      go_simp
      exact hK _ _ (But.of_below ((Below.refl _ _).alloc (Nat.le_refl _) _)) (AdJ.built_ HOK hI z1 z2 zS) trivial
    · intro f a w' hI hf hanc hdesc hle hs' hd K hK
      obtain ⟨_, t7, rfl⟩ := hd 7 44 (by kernel_rfl)
      obtain ⟨_, t9, _⟩ := hd 9 46 (by kernel_rfl)
      have z2 : f 19 = false := hdesc 12 19 (by kernel_rfl)
      have zS : f 22 = false := hdesc 12 22 (by kernel_rfl)
      obtain ⟨v3, w3, hr3, hb3, hJ3⟩ := hI.first HOK (hanc 12 9 (by kernel_rfl)) hf z2 zS t9 27
      exact stepOf_append (.tmp 44) (.tmp 46) 27 rfl rfl (by simp [Act.eval, t7]) (by simp [Act.eval, t9]) hr3 (hK _ _ hb3 hJ3 trivial)
    · intro f a w' hI hf hanc hdesc hle hs' hd K hK
      have f0 : a.tmps[0]? = some (.pointer (some ⟨B, 0, none⟩)) := hs'.2.2 0 (by kernel_rfl)
      unfold Go.Rel.stepOf
      go_simp
      exact hK _ _ (But.refl _ _) (hI.keep (j := 11) (t := 48) (by decide) (by decide) _) rfl
    · intro f a w' hI hf hanc hdesc hle hs' hd K hK
      obtain ⟨_, t11, rfl⟩ := hd 11 48 (by kernel_rfl)
      unfold Go.Rel.stepOf
      go_simp
      exact hK _ _ (But.refl _ _) (hI.keep (j := 12) (t := 49) (by decide) (by decide) _) rfl
    · intro f a w' hI hf hanc hdesc hle hs' hd K hK
      obtain ⟨_, t12, rfl⟩ := hd 12 49 (by kernel_rfl)
      unfold Go.Rel.stepOf
      go_simp
      exact hK _ _ (But.refl _ _) (hI.keep (j := 13) (t := 50) (by decide) (by decide) _) rfl
    · intro f a w' hI hf hanc hdesc hle hs' hd K hK
      obtain ⟨_, t13, rfl⟩ := hd 13 50 (by kernel_rfl)
      have zS : f 22 = false := hdesc 12 22 (by kernel_rfl)
      have cl : w'.cell? ⟨B, 1, none⟩ = some (.slice A L c) := (hI.cl HOK zS)
      unfold Go.Rel.stepOf
      go_simp
      exact hK _ _ (But.refl _ _) (hI.keep (j := 14) (t := 51) (by decide) (by decide) _) rfl
    · intro f a w' hI hf hanc hdesc hle hs' hd K hK
      have f8 : a.tmps[8]? = some (.int .i64 (ip : Int)) := hs'.2.2 8 (by kernel_rfl)
      unfold Go.Rel.stepOf
      go_simp
      exact hK _ _ (But.refl _ _) (hI.keep (j := 15) (t := 52) (by decide) (by decide) _) rfl
    · intro f a w' hI hf hanc hdesc hle hs' hd K hK
      have f7 : a.tmps[7]? = some (.int .i64 (L : Int)) := hs'.2.2 7 (by kernel_rfl)
      unfold Go.Rel.stepOf
      go_simp
      exact hK _ _ (But.refl _ _) (hI.keep (j := 16) (t := 53) (by decide) (by decide) _) rfl
    · intro f a w' hI hf hanc hdesc hle hs' hd K hK
      have f7 : a.tmps[7]? = some (.int .i64 (L : Int)) := hs'.2.2 7 (by kernel_rfl)
      unfold Go.Rel.stepOf
      go_simp
      exact hK _ _ (But.refl _ _) (hI.keep (j := 17) (t := 54) (by decide) (by decide) _) rfl
    · intro f a w' hI hf hanc hdesc hle hs' hd K hK
      obtain ⟨_, t14, rfl⟩ := hd 14 51 (by kernel_rfl)
      obtain ⟨_, t15, rfl⟩ := hd 15 52 (by kernel_rfl)
      obtain ⟨_, t16, rfl⟩ := hd 16 53 (by kernel_rfl)
      obtain ⟨_, t17, rfl⟩ := hd 17 54 (by kernel_rfl)
      refine stepOf_slice 27 (.tmp 51) (some (.tmp 52)) (some (.tmp 53)) (some (.tmp 54)) rfl rfl (w' := w') (v := .slice (tailA A ip L) (L - ip) (L - ip)) ?_ (hK _ _ (But.refl _ _) (hI.keep (j := 18) (t := 55) (by decide) (by decide) _) rfl)
      simp only [Act.eval, Option.map_some, Option.map_none, t14, t15, t16, t17, Array.getD_eq_getD_getElem?, Option.getD_some]
      exact run_tail3 w' HOK.le HOK.lc
    · intro f a w' hI hf hanc hdesc hle hs' hd K hK
      obtain ⟨_, t10, _⟩ := hd 10 47 (by kernel_rfl)
      obtain ⟨_, t18, rfl⟩ := hd 18 55 (by kernel_rfl)
      have zS : f 22 = false := hdesc 12 22 (by kernel_rfl)
      obtain ⟨v3, w3, hr3, hb3, hJ3⟩ := hI.second HOK (hanc 12 10 (by kernel_rfl)) hf zS t10 27
      exact stepOf_append (.tmp 47) (.tmp 55) 27 rfl rfl (by simp [Act.eval, t10]) (by simp [Act.eval, t18]) hr3 (hK _ _ hb3 hJ3 trivial)
    · intro f a w' hI hf hanc hdesc hle hs' hd K hK
      obtain ⟨_, t0, rfl⟩ := hd 0 37 (by kernel_rfl)
      unfold Go.Rel.stepOf
      go_simp
      exact hK _ _ (But.refl _ _) (hI.keep (j := 20) (t := 57) (by decide) (by decide) _) rfl
    · intro f a w' hI hf hanc hdesc hle hs' hd K hK
      obtain ⟨_, t20, rfl⟩ := hd 20 57 (by kernel_rfl)
      unfold Go.Rel.stepOf
      go_simp
      exact hK _ _ (But.refl _ _) (hI.keep (j := 21) (t := 58) (by decide) (by decide) _) rfl
    · intro f a w' hI hf hanc hdesc hle hs' hd K hK
      obtain ⟨_, t21, rfl⟩ := hd 21 58 (by kernel_rfl)
      obtain ⟨_, t19, _⟩ := hd 19 56 (by kernel_rfl)
      obtain ⟨A3, c3, rfl, hc3, hf3, hb3, hJ3⟩ := hI.store HOK (hanc 12 10 (by kernel_rfl)) (hanc 12 19 (by kernel_rfl)) hf t19
      unfold Go.Rel.stepOf
      go_simp
      exact hK _ _ hb3 hJ3 rfl
  case hend =>
    intro f a w5 hall hJ hle hs' hR'
    obtain ⟨⟨A5, c5, hri5⟩, hb5⟩ := hJ.fin (hall 22 (by decide))
    have HRi5 := Lib.hid hri5
    have HB5 := Lib.hid hb5
    clear hJ hall hle hri5 hb5 HOK
    obtain ⟨v37, s37, _⟩ := hR' 0 37 (by kernel_rfl)
    obtain ⟨v38, s38, _⟩ := hR' 1 38 (by kernel_rfl)
    obtain ⟨v39, s39, _⟩ := hR' 2 39 (by kernel_rfl)
    obtain ⟨v40, s40, _⟩ := hR' 3 40 (by kernel_rfl)
    obtain ⟨v41, s41, _⟩ := hR' 4 41 (by kernel_rfl)
    obtain ⟨v42, s42, _⟩ := hR' 5 42 (by kernel_rfl)
    obtain ⟨v43, s43, _⟩ := hR' 6 43 (by kernel_rfl)
    obtain ⟨v44, s44, _⟩ := hR' 7 44 (by kernel_rfl)
    obtain ⟨v45, s45, _⟩ := hR' 8 45 (by kernel_rfl)
    obtain ⟨v46, s46, _⟩ := hR' 9 46 (by kernel_rfl)
    obtain ⟨v47, s47, _⟩ := hR' 10 47 (by kernel_rfl)
    obtain ⟨v48, s48, _⟩ := hR' 11 48 (by kernel_rfl)
    obtain ⟨v49, s49, _⟩ := hR' 12 49 (by kernel_rfl)
    obtain ⟨v50, s50, _⟩ := hR' 13 50 (by kernel_rfl)
    obtain ⟨v51, s51, _⟩ := hR' 14 51 (by kernel_rfl)
    obtain ⟨v52, s52, _⟩ := hR' 15 52 (by kernel_rfl)
    obtain ⟨v53, s53, _⟩ := hR' 16 53 (by kernel_rfl)
    obtain ⟨v54, s54, _⟩ := hR' 17 54 (by kernel_rfl)
    obtain ⟨v55, s55, _⟩ := hR' 18 55 (by kernel_rfl)
    obtain ⟨v56, s56, _⟩ := hR' 19 56 (by kernel_rfl)
    obtain ⟨v57, s57, _⟩ := hR' 20 57 (by kernel_rfl)
    obtain ⟨v58, s58, _⟩ := hR' 21 58 (by kernel_rfl)
    have e := hs'.shape
    simp only [List.toList_toArray, List.foldl, Go.Rel.reset, Array.getD_eq_getD_getElem?, s37, s38, s39, s40, s41, s42, s43, s44, s45, s46, s47, s48, s49, s50, s51, s52, s53, s54, s55, s56, s57, s58, Option.getD_some] at e
    simp at e
    clear hR' hs' s37 s38 s39 s40 s41 s42 s43 s44 s45 s46 s47 s48 s49 s50 s51 s52 s53 s54 s55 s56 s57 s58
    subst e
    have HD5 : Hid (DwAt S w5 v d2) := Lib.hid (HD1.out.but HB5.out (fun k e => by rw [e]; exact HRi5.out.mine) (fun k e h => HNe.out (e ▸ h)))
    have HBw : Hid (But (fun k => k = B ∨ Tgt v k) w w5) := Lib.hid ((HB1.out.mono (fun k h => .inr h)).trans (HB5.out.mono (fun k h => .inl h)))
    have co : w5.cell? ⟨B, 2, none⟩ = some (.int .i64 (g.at_ : Int)) := HRi5.out.co
    have f2 : w5.frozen? ⟨B, 2, none⟩ = false := HRi5.out.froz 2
    have q3 : (g.at_ : Int) ≤ 8 := by omega
    by_cases hlt : ip < g.at_
    · have HFin : Hid (RgAt true S (w5.setCell ⟨B, 2, none⟩ (.int .i64 ((g.at_ : Int) + 1))) B (g.add n ip)) := Lib.hid ⟨HAok.out, A5, c5, by
        have h1 := HRi5.out.setAt (g.at_ + 1)
        unfold Rg.add
        rw [if_pos hlt]
        exact h1⟩
      have HFd : Hid (DwAt S (w5.setCell ⟨B, 2, none⟩ (.int .i64 ((g.at_ : Int) + 1))) v d2) := Lib.hid (HD5.out.but (But.set_ (· = B) w5 B 2 _ rfl) (fun k e => by rw [e]; exact HRi5.out.mine) (fun k e h => HNe.out (e ▸ h)))
      have HFb : Hid (But (fun k => k = B ∨ Tgt v k) w (w5.setCell ⟨B, 2, none⟩ (.int .i64 ((g.at_ : Int) + 1)))) := Lib.hid (HBw.out.trans (But.set_ _ w5 B 2 _ (.inl rfl)))
      go_wp2
      go_ret
      exact ⟨rfl, HFin.out, HFd.out, HFb.out⟩
    · have HFin : Hid (RgAt true S w5 B (g.add n ip)) := Lib.hid ⟨HAok.out, A5, c5, by
        unfold Rg.add
        rw [if_neg hlt]
        exact HRi5.out⟩
      go_wp2
      go_ret
      exact ⟨rfl, HFin.out, HD5.out, HBw.out⟩
end Go.Proofs.Ytckeknhoimgccaa
