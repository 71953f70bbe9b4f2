/-
  slices.Grow of no row and slices.Concat at rows, walked (layer 15).
-/
import Derived.Test.YtphjlcogjalidaaTpMem
import Derived.Laws.AppendOwnNone
import Derived.Lib.AppendZerosOnto
import Derived.Lib.Walk
namespace Go.Proofs.Ytphjlcogjalidaa
open Go.RowKit
set_option linter.unusedSimpArgs false
set_option linter.unusedVariables false

/-- append of a slice of structs (none of them, too). -/
theorem wpList_append_sk {α : Type} {enc : α → List Value} {k : Nat} {E : TypeId} {w : World} {P : Program} {ops : Array Oper} {rest : List Oper} {o : Oper} {a : Act} {Q : Exit → Act → World → Prop} (hgd : o.guard = none) (s x : Operand) (t : TypeId)
    (ho : o.op = .call { callee := .builtin .append, args := #[s, x], argTypes := #[t, t] })
    (i : TypeInfo) (z : Value) (bytes : Nat) (ht : P.underlying t = some (.slice E)) (hi : P.info? E = some i) (hz : i.zero = some z) (hsize : i.size = k) (hby : i.bytes = bytes) (hzs : z.cells.size = k) (hk0 : 0 < k)
    (hk : ∀ x, (enc x).length = k) (h1 : ∀ x, ∀ u ∈ enc x, u.oneCell' = true)
    (base : Nat) (v : Value) (l : List α) (hs : a.eval s = v) (hown : rowK enc E k w base v l) (A : Option Addr) (c : Nat) (ys : List α) (hx : a.eval x = .slice A ys.length c) (hc : SK enc k w A ys.length ys) (hA : A = none → c = 0)
    (hl : l.length + ys.length ≤ maxLen) (hlb : (l.length + ys.length) * bytes ≤ 140737488355328) (hbase : base ≤ w.heap.size)
    (h : Hid (∀ v' w', rowK enc E k w' base v' (l ++ ys) → w.grownBy w' v.ownBlock → wpList P ops Q rest (a.put o.dst v') w')) : wpList P ops Q (o :: rest) a w := by
  cases A with
  | none =>
    have hn : ys = [] := by
      rcases Nat.eq_zero_or_pos ys.length with e | e
      · exact List.eq_nil_of_length_eq_zero e
      · obtain ⟨b, off, e2, _⟩ := hc.2 e
        cases e2
    subst hn
    rw [hA rfl] at hx
    refine wpList_append_own_none hgd s x _ ho base E i k ht hi v l.length (l.flatMap enc) hs hown hx (h.out v w (by rw [List.append_nil]; exact hown) ⟨rfl, rfl, rfl, Nat.le_refl _, fun _ _ _ => rfl⟩)
  | some ad =>
    refine wpList_append_own w hgd s x _ ho base E i z k bytes ht hi hz hsize hby hzs hk0 v l.length (l.flatMap enc) hs hown ad ys.length c (ys.flatMap enc) hx (flat_length hk ys) (fun j u hu => ?_) (flat_one h1 ys) hl hlb hbase (fun v' w' h2 h3 _ => h.out v' w' ?_ h3)
    · have hj : j < ys.length * k := by rw [← flat_length hk]; exact (List.getElem?_eq_some_iff.1 hu).1
      have hd : j / k < ys.length := (Nat.div_lt_iff_lt_mul hk0).2 hj
      have hm : j % k < k := Nat.mod_lt _ hk0
      have e := flat_at hk hd (j % k) hm
      have ej : j / k * k + j % k = j := by rw [Nat.mul_comm]; exact Nat.div_add_mod j k
      rw [ej, hu] at e
      obtain ⟨b, off, e2, _, hit⟩ := hc.2 (Nat.lt_of_le_of_lt (Nat.zero_le _) hd)
      cases e2
      have := hit (j / k) hd (j % k) u e.symm
      rw [plain_add, ← ej, ← Nat.add_assoc]
      exact this
    · unfold rowK
      rw [List.flatMap_append, List.length_append]
      exact h2
theorem tw_info : (Try.prog.info? 32).map (fun i => (i.zero, i.size, i.bytes)) = some (some (.agg #[.string ⟨#[]⟩, .int .i64 0, .int .u64 0, .int .u64 0]), 4, 40) := by kernel_rfl
/-- Rows of the program's, of the call's own. -/
abbrev twRow (w : World) (base : Nat) (v : Value) (l : List (Rw Int)) : Prop := rowK trC 32 4 w base v l
set_option maxHeartbeats 1000000 in
theorem grow_any (n : Nat) (hn : n ≤ 1000) (w : World) :
    Calls Try.prog 39 #[.slice none 0 0, .int .i64 (n : Int)] w fun e w' => ∃ v, e = .returned v ∧ twRow w' w.heap.size v [] ∧ Below w.heap.size w w' := by
  obtain ⟨i0, hi, hz0, hz1, hz2⟩ := info_parts tw_info
  have h1 : ¬ ((n : Int) < 0) := by omega
  by_cases hn0 : n = 0
  · subst hn0
    go_enter Try.func39, Try.ntmps39
    go_wp2
    go_ret
    exact ⟨_, rfl, rowK.nil _ _, Below.refl _ _⟩
  · have hrz : ∀ ty, (Builtin.append_ #[39, 3] ty #[.slice none 0 0, .int .i64 (n : Int)]).run Try.prog w =
      .ok (.slice (some ⟨w.heap.size, 0, none⟩) n (grownCap w n 0 32)) (w.drew.alloc (.cells (Builtin.zeroCells (Value.agg #[.string ⟨#[]⟩, .int .i64 0, .int .u64 0, .int .u64 0]).cells n ++ Builtin.zeroCells (Value.agg #[.string ⟨#[]⟩, .int .i64 0, .int .u64 0, .int .u64 0]).cells (grownCap w n 0 32 - n)) 32)) := fun ty => by
      have h := Lib.run_append_grow_zeros (P := Try.prog) w 39 3 ty 32 i0 _ .i64 .i64 Try.underlying39 Try.underlying3 hi hz0 none 0 0 [] (run_firstCells_none w.drew i0.size 0 0 0) n (by omega) (by rw [hz1]; decide) (by omega) (by omega) (by rw [hz2]; omega)
        (growslice_fits (by omega) (by rw [hz2]; omega))
      simpa using h
    have hge := grownCap_ge w n 0 32
    have hle := grownCap_le_maxLen w n 0 32 (by unfold maxLen; omega)
    obtain ⟨G, hG⟩ : ∃ G, grownCap w n 0 32 = G := ⟨_, rfl⟩
    obtain ⟨zs, hzs⟩ : ∃ zs, (Builtin.zeroCells (Value.agg #[.string ⟨#[]⟩, .int .i64 0, .int .u64 0, .int .u64 0]).cells n ++ Builtin.zeroCells (Value.agg #[.string ⟨#[]⟩, .int .i64 0, .int .u64 0, .int .u64 0]).cells (G - n)) = zs := ⟨_, rfl⟩
    rw [hG] at hrz hge hle
    rw [hzs] at hrz
    have hsz : zs.size = G * 4 := by
      have e4 : (Value.agg #[.string ⟨#[]⟩, .int .i64 0, .int .u64 0, .int .u64 0]).cells.size = 4 := rfl
      rw [← hzs, Array.size_append, size_zeroCells, size_zeroCells, e4]
      omega
    have hr : Hid (twRow (w.alloc (.cells zs 32)).drew w.heap.size (.slice (some ⟨w.heap.size, 0, none⟩) 0 G) []) := Lib.hid ⟨rfl, .inr ⟨w.heap.size, G, zs, rfl, Nat.le_refl _, heap_alloc_new w _, Nat.zero_le _, hle, hsz, by simp⟩⟩
    have hb : Hid (Below w.heap.size w (w.alloc (.cells zs 32)).drew) := Lib.hid (below_drewN (below1 w zs _) 1)
    have h2 : (n : Int) > 0 := by omega
    unfold maxLen at hle
    clear hG hzs hsz hi hz0 hz1 hz2
    go_enter Try.func39, Try.ntmps39
    go_wp2_with (at_builtin; refine Lib.wpList_append_run _ rfl _ _ _ _ rfl _ _ rfl rfl _ _ (hrz _) ?_)
    go_ret
    exact ⟨_, rfl, hr.out, hb.out⟩
/-- A piece: a slice of rows. -/
structure Pc where
  A : Option Addr
  c : Nat
  l : List (Rw Int)
structure Pc.Ok (w : World) (p : Pc) : Prop where
  row : SK trC 4 w p.A p.l.length p.l
  nil : p.A = none → p.c = 0
/-- Pieces lie in block Z. -/
structure Pcs (w : World) (Z : Nat) (ps : List Pc) : Prop where
  cell : ∀ j (h : j < ps.length), w.cell? ⟨Z, j, none⟩ = some (.slice ps[j].A ps[j].l.length ps[j].c)
  ok : ∀ p ∈ ps, p.Ok w
  lt : Z < w.heap.size
theorem Pcs.below {w w' : World} {Z : Nat} {ps : List Pc} (h : Pcs w Z ps) (hb : Below w.heap.size w w') : Pcs w' Z ps :=
  ⟨fun j hj => (World.cell?_of_block (a := ⟨Z, j, none⟩) (hb.block Z h.lt)).trans (h.cell j hj), fun p hp => ⟨(h.ok p hp).row.below hb, (h.ok p hp).nil⟩, Nat.lt_of_lt_of_le h.lt hb.size⟩
def joinP (ps : List Pc) : List (Rw Int) := ps.flatMap (·.l)
theorem joinP_step {ps : List Pc} {k : Nat} (h : k < ps.length) : joinP (ps.take (k + 1)) = joinP (ps.take k) ++ ps[k].l := by
  unfold joinP
  rw [List.take_succ_eq_append_getElem h, List.flatMap_append]
  simp
theorem joinP_take (ps : List Pc) (k : Nat) : (joinP (ps.take k)).length ≤ (joinP ps).length := by
  unfold joinP
  have : ps.flatMap (·.l) = (ps.take k).flatMap (·.l) ++ (ps.drop k).flatMap (·.l) := by rw [← List.flatMap_append, List.take_append_drop]
  rw [this, List.length_append]
  omega
set_option maxHeartbeats 2000000 in
theorem concat_any (Z : Nat) (ps : List Pc) (w : World) (h : Pcs w Z ps) (hl : ps.length ≤ 100) (hj : (joinP ps).length ≤ 1000) :
    Calls Try.prog 31 #[.slice (some ⟨Z, 0, none⟩) ps.length ps.length] w fun e w' => ∃ v, e = .returned v ∧ twRow w' w.heap.size v (joinP ps) ∧ Below w.heap.size w w' := by
  have H := Lib.hid h
  obtain ⟨m, hm⟩ : ∃ m, ps.length = m := ⟨_, rfl⟩
  obtain ⟨i0, hi, hz0, hz1, hz2⟩ := info_parts tw_info
  have HI := Lib.hid (And.intro hi (And.intro hz0 (And.intro hz1 hz2)))
  have HTk := Lib.hid (joinP_take ps)
  obtain ⟨J, hJ⟩ : ∃ J, joinP ps = J := ⟨_, rfl⟩
  rw [hJ] at hj HTk ⊢
  have hjl : J.length ≤ 1000 := hj
  rw [hm] at hl ⊢
  have HM := Lib.hid hm
  have HJ := Lib.hid hJ
  have HGr := Lib.hid (grow_any J.length hj w)
  obtain ⟨g0, hg0⟩ : ∃ g0, w.heap.size = g0 := ⟨_, rfl⟩
  rw [hg0] at HGr ⊢
  have HG0 := Lib.hid hg0
  obtain ⟨N, hN⟩ : ∃ N, J.length = N := ⟨_, rfl⟩
  rw [hN] at hjl HGr HTk
  have HN := Lib.hid hN
  clear h hm hJ hg0 hj hN hi hz0 hz1 hz2
  go_enter Try.func31, Try.ntmps31
  go_wp2
  go_loop [3, 11] (fun s3 s11 => ∃ k : Nat, k ≤ m ∧ s11 = .int .i64 (k : Int) ∧ s3 = .int .i64 ((joinP (ps.take k)).length : Int)) (fun _ s11 => m - (intOf s11).toNat)
  case atStart => exact ⟨0, Nat.zero_le _, rfl, rfl⟩
  case round =>
    obtain ⟨k, hk, rfl, rfl⟩ := hrel
    by_cases hlt : k < m
    · have hkl : k < ps.length := by rw [HM.out]; exact hlt
      have cz := H.out.cell k hkl
      have hst := joinP_step hkl
      have hn1 := HTk.out (k + 1)
      rw [hst, List.length_append] at hn1
      obtain ⟨p, hp⟩ : ∃ p, ps[k] = p := ⟨_, rfl⟩
      rw [hp] at cz hst hn1
      obtain ⟨a, ha⟩ : ∃ a, (joinP (ps.take k)).length = a := ⟨_, rfl⟩
      obtain ⟨b, hb⟩ : ∃ b, p.l.length = b := ⟨_, rfl⟩
      rw [hb] at cz
      rw [ha, hb] at hn1
      have HS : Hid ((joinP (ps.take (k + 1))).length = a + b) := Lib.hid (by rw [hst, List.length_append, ha, hb])
      have h0 : ¬ ((a : Int) + (b : Int) < 0) := by omega
      rw [ha]
      clear hst hp ha hb
      go_wp2
      go_round
      case rel => exact ⟨k + 1, by omega, by go_num, by rw [HS.out]; go_num⟩
      case measure => simp [intOf]; omega
    · obtain rfl : k = m := by omega
      have he : (joinP (ps.take k)).length = N := by rw [List.take_of_length_le (by rw [HM.out]; exact Nat.le_refl _), HJ.out, HN.out]
      rw [he]
      clear he
      go_wp2_with fail
      refine HGr.out.mono ?_
      rintro e w1 ⟨v, rfl, hr1, hb1⟩
      have HR1 := Lib.hid hr1
      have HB1 := Lib.hid hb1
      clear hr1 hb1 HGr
      go_wp2
      go_loopw [6, 27] (fun s6 s27 wr => ∃ j : Nat, j ≤ k ∧ s27 = .int .i64 (j : Int) ∧ Hid (twRow wr g0 s6 (joinP (ps.take j))) ∧ Hid (Below g0 w wr)) (fun _ s27 _ => k - (intOf s27).toNat)
      case atStart => exact ⟨0, Nat.zero_le _, rfl, HR1, HB1⟩
      case round =>
        obtain ⟨j, hj, rfl, hrow, hb⟩ := hrel
        by_cases hlt2 : j < k
        · have hkl : j < ps.length := by rw [HM.out]; exact hlt2
          have hps := H.out.below (by rw [HG0.out]; exact hb.out)
          have cz := hps.cell j hkl
          have hok := hps.ok _ (List.getElem_mem hkl)
          have hst := joinP_step hkl
          have hn1 := HTk.out (j + 1)
          rw [hst, List.length_append] at hn1
          obtain ⟨p, hp⟩ : ∃ p, ps[j] = p := ⟨_, rfl⟩
          rw [hp] at cz hst hn1 hok
          have HS := Lib.hid hst
          have HOk := Lib.hid hok
          have HN1 := Lib.hid hn1
          obtain ⟨A, c, l⟩ := p
          have hsz := hb.out.size
          clear hst hp hps hn1 hok
          go_wp2_with (at_builtin; refine wpList_append_sk rfl (.tmp 31) (.tmp 32) 39 rfl i0 _ 40 Try.underlying39 HI.out.1 HI.out.2.1 HI.out.2.2.1 HI.out.2.2.2 rfl (by decide) trC_len trC_one g0 _ _ rfl hrow.out A c l rfl HOk.out.row HOk.out.nil ?qa ?qb ?qc ?_)
          case qa => have := HN1.out; unfold maxLen; omega
          case qb => have := HN1.out; omega
          case qc => rw [← HG0.out]; exact hsz
          refine Lib.hid ?_
          intro v' w' hown hgr
          rw [← HS.out] at hown
          have HR := Lib.hid hown
          have HB := Lib.hid (show Below g0 w w' from hb.out.grown hgr (by rw [← HG0.out]; exact hsz) fun _ e => (hrow.out.from _ e).1)
          clear hown hgr
          go_wp2
          go_roundw
          case rel => exact ⟨j + 1, by omega, by go_num, HR, HB⟩
          case measure => simp [intOf]; omega
        · obtain rfl : j = k := by omega
          have he : joinP (ps.take j) = J := by rw [List.take_of_length_le (by rw [HM.out]; exact Nat.le_refl _), HJ.out]
          rw [he] at hrow
          clear he
          go_wp2
          go_ret
          exact ⟨_, rfl, hrow.out, hb.out⟩
end Go.Proofs.Ytphjlcogjalidaa
