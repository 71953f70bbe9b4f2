/-
  Rows of numbers; the document's CloseNode, walked (layer 18).
-/
import Derived.Test.YtnobpbbedclbkaaZj38
namespace Go.Proofs.Ytnobpbbedclbkaa
open Go.RowKit
set_option linter.unusedSimpArgs false
set_option linter.unusedVariables false

def nuC (n : Nat) : List Value := [.int .u64 (n : Int)]
theorem nuC_len (n : Nat) : (nuC n).length = 1 := rfl
theorem nuC_one (n : Nat) : ∀ u ∈ nuC n, u.oneCell' = true := by
  intro u hu
  simp only [nuC, List.mem_cons, List.not_mem_nil, or_false] at hu
  rcases hu with rfl <;> rfl
theorem nu_info : (Try.prog.info? 27).map (fun i => (i.zero, i.size, i.bytes)) = some (some (.int .u64 0), 1, 8) := by kernel_rfl
abbrev nuRow (w : World) (base : Nat) (v : Value) (l : List Nat) : Prop := rowK nuC 27 1 w base v l
theorem nu_cell {w : World} {b o j : Nat} {n : Nat} (h : ItAt nuC w b (o + j * 1) n) : w.cell? ⟨b, o + j, none⟩ = some (.int .u64 (n : Int)) := by
  have := h 0 _ rfl
  simpa using this
theorem wpList_append_nu {w : World} {ops : Array Oper} {rest : List Oper} {o : Oper} {a : Act} {Q : Exit → Act → World → Prop} (hgd : o.guard = none) (s x : Operand)
    (ho : o.op = .call { callee := .builtin .append, args := #[s, x], argTypes := #[38, 38] })
    (base : Nat) (v : Value) (l : List Nat) (hs : a.eval s = v) (hown : nuRow w base v l) (X : Nat) (y : Nat) (hx : a.eval x = .slice (some ⟨X, 0, none⟩) 1 1) (hc : ItAt nuC w X 0 y)
    (hl : l.length ≤ 1000000) (hbase : base ≤ w.heap.size)
    (h : Hid (∀ v' w', nuRow w' base v' (l ++ [y]) → w.grownBy w' v.ownBlock → wpList Try.prog ops Q rest (a.put o.dst v') w')) : wpList Try.prog ops Q (o :: rest) a w := by
  obtain ⟨i0, hi, hz0, hz1, hz2⟩ := info_parts nu_info
  exact wpList_append_k hgd s x _ ho i0 _ 8 Try.underlying38 hi hz0 hz1 hz2 rfl (by decide) nuC_len nuC_one base v l hs hown X y hx hc (by unfold maxLen; omega) (by omega) hbase h
theorem nu_new (w : World) (n : Nat) (T : TypeId) : ItAt nuC (w.alloc (.cells #[.int .u64 (n : Int)] T)) w.heap.size 0 n := ItAt.of_new n _ rfl T
theorem nuRow.snoc {w0 wr w' : World} {base : Nat} {v : Value} {l : List Nat} (h : nuRow wr base v l) (hb : Below base w0 wr) (hB : base ≤ wr.heap.size) {o : Obj} (hg : (wr.alloc o).grownBy w' v.ownBlock) : Below base w0 w' :=
  (hb.alloc hB o).grown hg (by simp; omega) fun _ e => (h.from _ e).1
theorem ids_step {l : List Sn} {k : Nat} {node : Int} (hk : k < l.length) : idsS (l.take (k + 1)) node = idsS (l.take k) node ++ (if l[k].node = node then [l[k].id] else []) := by
  unfold idsS
  rw [List.take_succ_eq_append_getElem hk, List.filter_append, List.map_append]
  by_cases h : l[k].node = node
  · rw [if_pos h, List.filter_cons_of_pos (by simp [h])]; rfl
  · rw [if_neg h, List.filter_cons_of_neg (by simp [h])]; rfl
theorem ids_length (l : List Sn) (node : Int) : (idsS l node).length ≤ l.length := by
  unfold idsS
  rw [List.length_map]
  exact List.length_filter_le _ _
set_option maxHeartbeats 4000000 in
theorem rsnode_any {S : Nat → Prop} {B : Nat} {t : Sm} (node : Int) (i : Nat) (w : World) (h : RsAt S w B t) (hi : i < 18446744073709551616) :
    Calls Try.prog 15 #[.pointer (some ⟨B, 0, none⟩), .int .i64 node, .int .u64 (i : Int)] w fun e w' => ∃ v, e = .returned v ∧ nuRow w' w.heap.size v (t.closeN node i).1 ∧ RsAt (fun k => S k ∨ w.heap.size ≤ k) w' B (t.closeN node i).2 ∧ But (· = B) w w' := by
  have HAt := Lib.hid h
  obtain ⟨hok, A, c, h, _⟩ := h
  have h64 : t.l.length ≤ 64 := Nat.le_trans hok.len hok.most.2
  have H := Lib.hid h
  have HI := Lib.hid hi
  obtain ⟨X, hX⟩ : ∃ X, w.heap.size = X := ⟨_, rfl⟩
  have HX := Lib.hid hX
  have hBX : B < X := hX ▸ h.lt
  obtain ⟨L, hL⟩ : ∃ L, t.l.length = L := ⟨_, rfl⟩
  rw [hL] at h64
  have HL := Lib.hid hL
  unfold Ls.closeN
  simp only
  obtain ⟨M, hM⟩ : ∃ M, idsS t.l node = M := ⟨_, rfl⟩
  have hml : M.length ≤ 64 := by
    have := ids_length t.l node
    rw [hM, hL] at this
    omega
  rw [hM, hX]
  have HM := Lib.hid hM
  have hm9 : L ≤ 9223372036854775807 := by omega
  clear h hok hi hX hL hM
  go_enter Try.func15, Try.ntmps15
  go_wp2
  go_loopw [7, 8] (fun vv iv wr => ∃ k : Nat, k ≤ L ∧ iv = .int .i64 (k : Int) ∧ Hid (nuRow wr X vv (idsS (t.l.take k) node)) ∧ Hid (Below X w wr)) (fun _ iv _ => L - (intOf iv).toNat)
  case atStart => exact ⟨0, Nat.zero_le _, rfl, Lib.hid (rowK.nil _ _), Lib.hid (HX.out ▸ Below.refl _ _)⟩
  case round =>
    obtain ⟨k, hk, rfl, hrow, hb⟩ := hrel
    have ht := H.out.below (by rw [HX.out]; exact hb.out)
    have c1 : wr.cell? ⟨B, 1, none⟩ = some (.slice A L c) := by have := ht.c1; rw [HL.out] at this; exact this
    have hXz : X ≤ wr.heap.size := by have := hb.out.size; have := HX.out; omega
    by_cases hlt : k < L
    · have hkl : k < t.l.length := by rw [HL.out]; exact hlt
      obtain ⟨bb, off, rfl, hbl, hit⟩ := ht.row.at_ hkl hkl
      have hst := ids_step (node := node) hkl
      obtain ⟨y, hy⟩ : ∃ y, t.l[k] = y := ⟨_, rfl⟩
      rw [hy] at hit hst
      obtain ⟨e0, e1, e2, e3⟩ := sn_cells hit
      have hle : (idsS (t.l.take k) node).length ≤ 1000000 := by
        have h9 := ids_length (t.l.take k) node
        rw [List.length_take] at h9
        omega
      by_cases hkk : y.node = node
      · rw [if_pos hkk] at hst
        have zz : (y.node == node) = true := by rw [hkk]; simp
        have HSt := Lib.hid hst
        clear hst hy hit ht hkk
        go_wp2_with (at_builtin; refine wpList_append_nu rfl (.tmp 29) (.tmp 38) rfl X _ _ rfl ?qa wr.heap.size y.id rfl ?qb hle ?qc ?_)
        case qa => exact hrow.out.below ((Below.refl _ _).alloc (Nat.le_refl _) _)
        case qb => exact nu_new wr y.id _
        case qc => simp; omega
        refine Lib.hid ?_
        intro v1 w1 hown hgr
        have HB' := Lib.hid (nuRow.snoc hrow.out hb.out hXz hgr)
        rw [← HSt.out] at hown
        have HR := Lib.hid hown
        clear hown hgr
        go_wp2
        go_roundw
        case rel => exact ⟨k + 1, by omega, by go_num, HR, HB'⟩
        case measure => simp [intOf]; omega
      · rw [if_neg hkk, List.append_nil] at hst
        have zz : (y.node == node) = false := by rw [beq_eq_false_iff_ne]; exact hkk
        have HR := Lib.hid (show nuRow wr X u7 (idsS (t.l.take (k + 1)) node) by rw [hst]; exact hrow.out)
        clear hst hy hit ht hkk
        go_wp2
        go_roundw
        case rel => exact ⟨k + 1, by omega, by go_num, HR, hb⟩
        case measure => simp [intOf]; omega
    · have hke : idsS (t.l.take k) node = M := by rw [List.take_of_length_le (by rw [HL.out]; omega), HM.out]
      rw [hke] at hrow
      obtain ⟨A2, c2, rfl, hSK, hnc, hmc, hge⟩ := SK.of_row nuC_len hrow.out
      have HB1 := Lib.hid hb.out
      have HR1 := Lib.hid hrow.out
      have HSK := Lib.hid hSK
      have HGe := Lib.hid hge
      obtain ⟨wo, hwo⟩ : ∃ wo : World, wo = wr := ⟨_, rfl⟩
      have HAt1 : Hid (RsAt (fun k => S k ∨ X ≤ k) wr B t) := Lib.hid ((HAt.out.below (by rw [HX.out]; exact hb.out)).narrow fun _ _ z => .inl z)
      have hwz : X ≤ wr.heap.size := hXz
      clear hke hSK hnc hmc hge ht hrow hb
      subst hwo
      go_wp2
      go_loopw [9] (fun iv wq => ∃ j : Nat, j ≤ M.length ∧ iv = .int .i64 (j : Int) ∧ Hid (RsAt (fun k => S k ∨ X ≤ k) wq B (t.closesS i (M.take j))) ∧ Hid (But (· = B) wo wq)) (fun iv _ => M.length - (intOf iv).toNat)
      case atStart => exact ⟨0, Nat.zero_le _, rfl, Lib.hid (by simpa [Ls.closesS] using HAt1.out), Lib.hid (But.refl _ _)⟩
      case round =>
        obtain ⟨j, hj, rfl, hat, hbt⟩ := hrel
        have hwz2 : X ≤ wr.heap.size := Nat.le_trans hwz hbt.out.size
        by_cases hjl : j < M.length
        · have hs2 := HSK.out.but hbt.out (fun b off e hn q => by have := HGe.out b off e; omega)
          obtain ⟨b, off, rfl, hbl, hit⟩ := hs2.at_ hjl hjl
          have e0 := nu_cell hit
          have hsn := closes_snoc i M[j] (M.take j) t
          rw [← List.take_succ_eq_append_getElem hjl] at hsn
          obtain ⟨id, hid⟩ : ∃ id, M[j] = id := ⟨_, rfl⟩
          rw [hid] at e0 hsn
          have HSn := Lib.hid hsn
          have HC := Lib.hid (rsclose_any id i wr hat.out HI.out)
          have q1 : (j : Int) < (M.length : Int) := by omega
          have q0 : (0 : Int) ≤ (j : Int) := by omega
          clear hs2 hit hsn hid
          go_wp2_with fail
          refine HC.out.mono ?_
          rintro e w3 ⟨rfl, ha3, hb3⟩
          have HA3 : Hid (RsAt (fun k => S k ∨ X ≤ k) w3 B (t.closesS i (M.take (j + 1)))) := Lib.hid (by
            rw [HSn.out]
            exact ha3.narrow fun k _ z => by rcases z with z | z <;> first | exact z | exact .inr (Nat.le_trans hwz2 z))
          have HB3 := Lib.hid (hbt.out.trans hb3)
          clear ha3 hb3 HC e0
          go_wp2
          go_roundw
          case rel => exact ⟨j + 1, by omega, by go_num, HA3, HB3⟩
          case measure => simp [intOf]; omega
        · have q1 : ¬ (j : Int) < (M.length : Int) := by omega
          have he : M.take j = M := List.take_of_length_le (by omega)
          have HA9 : Hid (RsAt (fun k => S k ∨ X ≤ k) wr B (t.closesS i M)) := Lib.hid (by have := hat.out; rw [he] at this; exact this)
          have HR9 : Hid (nuRow wr X (.slice A2 M.length c2) M) := Lib.hid (HR1.out.but hbt.out fun r e q => by have := (HR1.out.from r e).1; omega)
          have HB9 : Hid (But (· = B) w wr) := Lib.hid ((But.of_below (by rw [HX.out]; exact HB1.out)).trans hbt.out)
          clear he hat hbt
          go_wp2
          go_ret
          exact ⟨_, rfl, HR9.out, HA9.out, HB9.out⟩
end Go.Proofs.Ytnobpbbedclbkaa
