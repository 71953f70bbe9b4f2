/-
  Set of the document's wheel, walked (layer 6).
-/
import Derived.Test.YtcekpkjibabjmaaVTick
namespace Go.Proofs.Ytcekpkjibabjmaa
open Go.RowKit
set_option linter.unusedSimpArgs false
set_option linter.unusedVariables false

/-- append of one timer whose second number is spelled otherwise. -/
theorem wpList_append_tz {w : World} {ops : Array Oper} {rest : List Oper} {o : Oper} {a : Act} {Q : Exit → Act → World → Prop} (hgd : o.guard = none) (s x : Operand)
    (ho : o.op = .call { callee := .builtin .append, args := #[s, x], argTypes := #[26, 26] })
    (base : Nat) (v : Value) (L : Tm) (hs : a.eval s = v) (hown : w.ownsRow base 56 2 v L.length (flat L)) (y : Int × Nat) (z : Int) (hz : Hid (z = (y.2 : Int)))
    (hx : a.eval x = .slice (some ⟨w.heap.size, 0, none⟩) 1 1) (hL : L.length ≤ 4096) (hbase : base ≤ w.heap.size)
    (h : Hid (∀ v' w', w'.ownsRow base 56 2 v' (L ++ [y]).length (flat (L ++ [y])) → (w.alloc (.cells #[.int .i64 y.1, .int .i64 z] 56)).grownBy w' v.ownBlock → wpList Try.prog ops Q rest (a.put o.dst v') w')) :
    wpList Try.prog ops Q (o :: rest) a (w.alloc (.cells #[.int .i64 y.1, .int .i64 z] 56)) := by
  obtain rfl := hz.out
  exact wpList_append_tm hgd s x ho base v L hs hown y hx hL hbase h
theorem insL_at {id : Int} {d : Nat} : ∀ {P : Tm} {x : Int × Nat}, (∀ y ∈ P, ¬ id < y.1) → id < x.1 → insL id d (P ++ [x]) = P ++ [(id, d)] ++ [x]
  | [], x, _, h => by simp [insL, h]
  | y :: r, x, h1, h2 => by
    have := h1 y (List.mem_cons_self ..)
    rw [List.cons_append]
    unfold insL
    rw [if_neg this, insL_at (fun z hz => h1 z (List.mem_cons_of_mem _ hz)) h2]
    rfl
theorem insL_past {id : Int} {d : Nat} : ∀ {P : Tm} {x : Int × Nat}, (∃ y ∈ P, id < y.1) → insL id d (P ++ [x]) = insL id d P ++ [x]
  | [], x, h => by obtain ⟨y, hy, _⟩ := h; cases hy
  | y :: r, x, h => by
    rw [List.cons_append]
    unfold insL
    by_cases hy : id < y.1
    · rw [if_pos hy, if_pos hy]; rfl
    · rw [if_neg hy, if_neg hy, insL_past]
      · rfl
      · obtain ⟨z, hz, hlt⟩ := h
        rcases List.mem_cons.1 hz with rfl | hz
        · exact absurd hlt hy
        · exact ⟨z, hz, hlt⟩
theorem insL_last {id : Int} {d : Nat} : ∀ {P : Tm}, (∀ y ∈ P, ¬ id < y.1) → insL id d P = P ++ [(id, d)]
  | [], _ => rfl
  | y :: r, h => by
    unfold insL
    rw [if_neg (h y (List.mem_cons_self ..)), insL_last (fun z hz => h z (List.mem_cons_of_mem _ hz))]
    rfl
/-- What stands in the new row after a part P. -/
def part (id : Int) (d : Nat) (laid : Bool) (P : Tm) : Tm := if laid then insL id d P else P
def Laid (id : Int) (laid : Bool) (P : Tm) : Prop := (laid = false → ∀ y ∈ P, ¬ id < y.1) ∧ (laid = true → ∃ y ∈ P, id < y.1)
theorem part_le (id : Int) (d : Nat) (laid : Bool) (P : Tm) : (part id d laid P).length ≤ P.length + 1 := by
  unfold part
  split
  · rw [length_insL]; exact Nat.le_refl _
  · omega
set_option maxHeartbeats 16000000 in
set_option maxRecDepth 100000 in
theorem rset_yes (Q : Nat → Prop) (w : World) (B2 : Nat) (s : St) (h : RwAt Q w B2 s) (hQ : ∀ k, w.heap.size ≤ k → Q k) (id : Int) (m : Nat) (hid : wfI id) (h1 : 1 ≤ m) (h2 : m ≤ 262144) (hN : s.now ≤ 1099511627776) (hm : s.may id (m : Int) = true) :
    Calls Try.prog 9 #[.pointer (some ⟨B2, 0, none⟩), .int .i64 id, .int .i64 (m : Int)] w fun e w' => e = .returned (.bool true) ∧ RwAt Q w' B2 (s.set id (m : Int)) ∧ But (· = B2) w w' := by
  have HHas := Lib.hid (rhas_any Q w B2 s h id)
  have HSt := Lib.hid (rstop_any Q w B2 s h hQ id)
  obtain ⟨is, his⟩ : ∃ is, hasL s.L id = is := ⟨_, rfl⟩
  have hok := h.2.1
  have hset : s.set id (m : Int) = ⟨s.now, insL id (s.now + m) (s.stop id).L⟩ := by
    unfold St.set
    rw [if_pos hm, Int.toNat_natCast]
    rfl
  have hok2 := hok.set (id := id) (n := (m : Int)) hid
  have h64 : is = true ∨ s.L.length < 64 := by
    unfold St.may at hm
    rw [decide_eq_true_eq, his] at hm
    exact hm.2.2
  obtain ⟨d, hd⟩ : ∃ d, s.now + m = d := ⟨_, rfl⟩
  have HDz : Hid ((s.now : Int) + (m : Int) = (((id, d) : Int × Nat).2 : Int)) := Lib.hid (by simp only; omega)
  have hlen1 : (s.stop id).L.length ≤ 64 := Nat.le_trans (length_delL_le _ _) hok.most
  obtain ⟨s1, hs1⟩ : ∃ s1, s.stop id = s1 := ⟨_, rfl⟩
  have hnow1 : s1.now = s.now := by rw [← hs1]; rfl
  rw [hs1] at hset HSt hlen1
  rw [hd] at hset
  rw [his] at HHas HSt
  obtain ⟨L1, hL1⟩ : ∃ L1, s1.L = L1 := ⟨_, rfl⟩
  rw [hL1] at hset hlen1
  obtain ⟨_, _, A0, n0, c0', hh0, hr0⟩ := h
  obtain ⟨_, cl0, _, _⟩ := ref_cells hh0
  have hn0 : s.L.length = n0 := hr0.1
  have HSet := Lib.hid hset
  have HOk := Lib.hid hok2
  have HL1 := Lib.hid hL1
  have HNw := Lib.hid hnow1
  have q1 : (n0 : Int) ≤ 64 := by have := hok.most; omega
  have q2 : (1 : Int) ≤ (m : Int) := by omega
  have q3 : (m : Int) ≤ 262144 := by omega
  have q4 : (s.now : Int) ≤ 1099511627776 := by omega
  have q5 : (0 : Int) ≤ (s.now : Int) := by omega
  have HRow : Hid (∀ w1, RwAt Q w1 B2 s1 → But (· = B2) w w1 → ∃ A n c, w1.heap[B2]? = some (.cells #[.int .i64 (s.now : Int), .slice A n c] 28 (0, 0)) ∧ TmRow (fun b => Q b ∧ b ≠ B2) w1 A n L1) := Lib.hid (fun w1 h _ => by
    obtain ⟨_, _, A, n, c, hh, hr⟩ := h
    rw [hnow1] at hh
    rw [hL1] at hr
    exact ⟨A, n, c, hh, hr⟩)
  have HW : Hid (w.heap.size = w.heap.size) := Lib.hid rfl
  have HEnd : Hid (∀ w1 w2 A n c, RwAt Q w1 B2 s1 → But (· = B2) w w1 → Below w1.heap.size w1 w2 → TmRow (fun b => w1.heap.size ≤ b) w2 A n (insL id d L1) → RwAt Q (w2.setCell ⟨B2, 1, none⟩ (.slice A n c)) B2 (s.set id (m : Int)) ∧ But (· = B2) w (w2.setCell ⟨B2, 1, none⟩ (.slice A n c))) := Lib.hid (fun w1 w2 A n c hr hb hbe ht => by
    have hok3 := hok2
    rw [hset] at hok3 ⊢
    rw [← hnow1] at hok3 ⊢
    obtain ⟨f1, f2⟩ := RwAt.setRow (c := c) hr (fun k hk => hQ k (Nat.le_trans hb.size hk)) hbe ht hok3
    exact ⟨f1, hb.trans f2⟩)
  clear hset hok hok2 hL1 hnow1 hs1 his hh0 hr0 hd hm
  go_enter Try.func9, Try.ntmps9
  cases is with
  | true =>
    clear h64 hn0
    go_wp2_with fail
    refine HHas.out.mono ?_
    rintro e w' ⟨rfl, rfl⟩
    go_wp2_with fail
    refine HSt.out.mono ?_
    rintro e w1 ⟨rfl, hr1, hb1⟩
    obtain ⟨A, n, c, hh1, hrow1⟩ := HRow.out w1 hr1 hb1
    have hn : L1.length = n := hrow1.1
    have HR := Lib.hid hrow1
    have HN := Lib.hid hn
    have HH1 := Lib.hid hh1
    have HFin : Hid (∀ w2 A n c, Below w1.heap.size w1 w2 → TmRow (fun b => w1.heap.size ≤ b) w2 A n (insL id d L1) → RwAt Q (w2.setCell ⟨B2, 1, none⟩ (.slice A n c)) B2 (s.set id (m : Int)) ∧ But (· = B2) w (w2.setCell ⟨B2, 1, none⟩ (.slice A n c))) := Lib.hid (fun w2 A n c hb ht => HEnd.out w1 w2 A n c hr1 hb1 hb ht)
    have hlt1 := block_lt hh1
    have q6 : (n : Int) ≤ 64 := by omega
    clear hr1 hb1 hrow1 hn hh1
    go_wp2
    go_loopw [7, 8, 9] (fun lv av kv wr => ∃ (k : Nat) (laid : Bool), kv = .int .i64 (k : Int) ∧ av = .bool laid ∧ k ≤ n ∧ Hid (Laid id laid (L1.take k)) ∧ Hid (wr.ownsRow w1.heap.size 56 2 lv (part id d laid (L1.take k)).length (flat (part id d laid (L1.take k)))) ∧ Hid (Below w1.heap.size w1 wr)) (fun _ _ kv _ => n - (RowKit.intOf kv).toNat)
    case atStart => exact ⟨0, false, rfl, rfl, Nat.zero_le _, Lib.hid ⟨(fun _ y hy => by cases hy), (fun h => by cases h)⟩, Lib.hid (World.ownsRow_nil _ _ _ _), Lib.hid (Below.refl _ _)⟩
    case round =>
      obtain ⟨k, laid, rfl, rfl, hk, hla, hown, hbe⟩ := hrel
      obtain ⟨c0r, c1r, _, f1r⟩ := ref_cells ((hbe.out.block B2 hlt1).trans HH1.out)
      have hsz := hbe.out.size
      have hsm : (part id d laid (L1.take k)).length ≤ 4000 := by
        have h1 := part_le id d laid (L1.take k)
        have h2 := List.length_take_le k L1
        omega
      by_cases hlt : k < n
      · have hkl : k < L1.length := by rw [HN.out]; exact hlt
        have hrr := HR.out.but (But.of_below (S := fun _ => False) hbe.out) (fun _ h => h.elim)
        obtain ⟨b, off, rfl, _, _, hat⟩ := hrr.2 (by omega)
        obtain ⟨cr, cr2⟩ := hat k hkl
        have htk := List.take_succ_eq_append_getElem hkl
        obtain ⟨x, hx⟩ : ∃ x, L1[k] = x := ⟨_, rfl⟩
        rw [hx] at cr cr2 htk
        have q7 : (k : Int) < (n : Int) := by omega
        have HXx := Lib.hid hx
        cases laid with
        | true =>
          have hpa : part id d true (L1.take (k + 1)) = part id d true (L1.take k) ++ [x] := by
            unfold part
            rw [if_pos rfl, if_pos rfl, htk, insL_past (hla.out.2 rfl)]
          have HLa : Hid (Laid id true (L1.take (k + 1))) := Lib.hid ⟨(fun h => by cases h), fun _ => by
            obtain ⟨y, hy, hl⟩ := hla.out.2 rfl
            exact ⟨y, by rw [htk]; exact List.mem_append_left _ hy, hl⟩⟩
          have HPa := Lib.hid hpa
          clear hat hx htk hpa hrr
          go_wp2_with (at_builtin; refine wpList_append_tm rfl (.tmp 67) (.tmp 75) rfl w1.heap.size _ (part id d true (L1.take k)) rfl hown.out x rfl (by omega) hsz ?_)
          refine Lib.hid ?_
          intro v3 w3 hown3 hg3
          have HO3 : Hid (w3.ownsRow w1.heap.size 56 2 v3 (part id d true (L1.take (k + 1))).length (flat (part id d true (L1.take (k + 1))))) := Lib.hid (by rw [HPa.out, List.length_append]; exact hown3)
          have HB3 : Hid (Below w1.heap.size w1 w3) := Lib.hid ((hbe.out.alloc hbe.out.size _).grown hg3 (by simp; omega) (fun j hj => (hown.out.lt j hj).1))
          clear hown3 hg3 hsz
          go_wp2
          go_roundw
          case rel => exact ⟨k + 1, true, by go_num, rfl, by omega, HLa, HO3, HB3⟩
          case measure => simp [RowKit.intOf]; omega
        | false =>
          have hbef := hla.out.1 rfl
          by_cases hyy : id < x.1
          · have hpa : part id d true (L1.take (k + 1)) = part id d false (L1.take k) ++ [(id, d), x] := by
              unfold part
              rw [if_pos rfl, if_neg (by simp), htk, insL_at hbef hyy, List.append_assoc]
              rfl
            have HLa : Hid (Laid id true (L1.take (k + 1))) := Lib.hid ⟨(fun h => by cases h), fun _ => ⟨x, by rw [htk]; simp, hyy⟩⟩
            have HPa := Lib.hid hpa
            clear hat hx htk hpa hrr hbef
            go_wp2_with (at_builtin; refine wpList_append_tz rfl (.tmp 56) (.tmp 65) rfl w1.heap.size _ (part id d false (L1.take k)) rfl hown.out (id, d) _ HDz rfl (by omega) hsz ?_)
            refine Lib.hid ?_
            intro v2 w2 hown2 hg2
            have HB2 : Hid (Below w1.heap.size w1 w2) := Lib.hid ((hbe.out.alloc hbe.out.size _).grown hg2 (by simp; omega) (fun j hj => (hown.out.lt j hj).1))
            obtain ⟨_, c1s, _, f1s⟩ := ref_cells ((HB2.out.block B2 hlt1).trans HH1.out)
            have hrr2 := HR.out.but (But.of_below (S := fun _ => False) HB2.out) (fun _ h => h.elim)
            obtain ⟨b', off', e', _, _, hat2⟩ := hrr2.2 (by omega)
            simp only [Option.some.injEq, Addr.mk.injEq, and_true] at e'
            obtain ⟨rfl, rfl⟩ := e'
            obtain ⟨crs, crs2⟩ := hat2 k hkl
            rw [HXx.out] at crs crs2
            have hl2 : (part id d false (L1.take k) ++ [(id, d)]).length ≤ 4096 := by
              rw [List.length_append]
              simp only [List.length_cons, List.length_nil]
              omega
            have HO2 : Hid (w2.ownsRow w1.heap.size 56 2 v2 (part id d false (L1.take k) ++ [(id, d)]).length (flat (part id d false (L1.take k) ++ [(id, d)]))) := Lib.hid (by rw [List.length_append]; exact hown2)
            have hsz2 := HB2.out.size
            clear hown2 hg2 hrr2 hat2 hsz
            go_wp2_with (at_builtin; refine wpList_append_tm rfl (.tmp 67) (.tmp 75) rfl w1.heap.size _ (part id d false (L1.take k) ++ [(id, d)]) rfl HO2.out x rfl hl2 hsz2 ?_)
            refine Lib.hid ?_
            intro v3 w3 hown3 hg3
            have HO3 : Hid (w3.ownsRow w1.heap.size 56 2 v3 (part id d true (L1.take (k + 1))).length (flat (part id d true (L1.take (k + 1))))) := Lib.hid (by rw [HPa.out, List.length_append]; exact hown3)
            have HB3 : Hid (Below w1.heap.size w1 w3) := Lib.hid ((HB2.out.alloc HB2.out.size _).grown hg3 (by simp; omega) (fun j hj => (HO2.out.lt j hj).1))
            clear hown3 hg3 hsz2
            go_wp2
            go_roundw
            case rel => exact ⟨k + 1, true, by go_num, rfl, by omega, HLa, HO3, HB3⟩
            case measure => simp [RowKit.intOf]; omega
          · have hpa : part id d false (L1.take (k + 1)) = part id d false (L1.take k) ++ [x] := by
              unfold part
              rw [if_neg (by simp), if_neg (by simp), htk]
            have HLa : Hid (Laid id false (L1.take (k + 1))) := Lib.hid ⟨(fun _ y hy => by
              rw [htk] at hy
              rcases List.mem_append.1 hy with hy | hy
              · exact hbef y hy
              · obtain rfl := List.mem_singleton.1 hy
                exact hyy), (fun h => by cases h)⟩
            have HPa := Lib.hid hpa
            clear hat hx htk hpa hrr hbef
            go_wp2_with (at_builtin; refine wpList_append_tm rfl (.tmp 67) (.tmp 75) rfl w1.heap.size _ (part id d false (L1.take k)) rfl hown.out x rfl (by omega) hsz ?_)
            refine Lib.hid ?_
            intro v3 w3 hown3 hg3
            have HO3 : Hid (w3.ownsRow w1.heap.size 56 2 v3 (part id d false (L1.take (k + 1))).length (flat (part id d false (L1.take (k + 1))))) := Lib.hid (by rw [HPa.out, List.length_append]; exact hown3)
            have HB3 : Hid (Below w1.heap.size w1 w3) := Lib.hid ((hbe.out.alloc hbe.out.size _).grown hg3 (by simp; omega) (fun j hj => (hown.out.lt j hj).1))
            clear hown3 hg3 hsz
            go_wp2
            go_roundw
            case rel => exact ⟨k + 1, false, by go_num, rfl, by omega, HLa, HO3, HB3⟩
            case measure => simp [RowKit.intOf]; omega
      · obtain rfl : k = n := by omega
        have hfull : L1.take k = L1 := List.take_of_length_le (by rw [HN.out]; exact Nat.le_refl _)
        have hown0 := hown.out
        have hla0 := hla.out
        rw [hfull] at hown0 hla0 hsm
        cases laid with
        | true =>
          have hown1 : wr.ownsRow w1.heap.size 56 2 _ (insL id d L1).length (flat (insL id d L1)) := hown0
          obtain ⟨A1, c2, rfl, hrow⟩ := TmRow.own hown1
          have HF := Lib.hid (HFin.out wr A1 _ c2 hbe.out hrow)
          clear hfull hown0 hla0 hown1 hrow hlt hown hla
          go_wp2
          go_ret
          exact ⟨rfl, HF.out⟩
        | false =>
          have hown1 : wr.ownsRow w1.heap.size 56 2 _ L1.length (flat L1) := hown0
          have HIn : Hid (insL id d L1 = L1 ++ [(id, d)]) := Lib.hid (insL_last (hla0.1 rfl))
          have hl1 : L1.length ≤ 4000 := by omega
          have HOw := Lib.hid hown1
          clear hfull hown0 hla0 hown1 hlt hown hla hsm
          go_wp2_with (at_builtin; refine wpList_append_tz rfl (.tmp 79) (.tmp 88) rfl w1.heap.size _ L1 rfl HOw.out (id, d) _ HDz rfl (by omega) hsz ?_)
          refine Lib.hid ?_
          intro v3 w3 hown3 hg3
          have HB3 : Hid (Below w1.heap.size w1 w3) := Lib.hid ((hbe.out.alloc hbe.out.size _).grown hg3 (by simp; omega) (fun j hj => (HOw.out.lt j hj).1))
          have hown4 : w3.ownsRow w1.heap.size 56 2 v3 (insL id d L1).length (flat (insL id d L1)) := by
            rw [HIn.out, List.length_append]
            exact hown3
          obtain ⟨A1, c2, rfl, hrow⟩ := TmRow.own hown4
          obtain ⟨_, c1s, _, f1s⟩ := ref_cells ((HB3.out.block B2 hlt1).trans HH1.out)
          have HF := Lib.hid (HFin.out w3 A1 _ c2 HB3.out hrow)
          clear hown3 hown4 hrow hg3 hsz
          go_wp2
          go_ret
          exact ⟨rfl, HF.out⟩
  | false =>
    have q8 : (n0 : Int) < 64 := by
      rcases h64 with h | h
      · cases h
      · omega
    clear h64 hn0
    go_wp2_with fail
    refine HHas.out.mono ?_
    rintro e w' ⟨rfl, rfl⟩
    go_wp2_with fail
    refine HSt.out.mono ?_
    rintro e w1 ⟨rfl, hr1, hb1⟩
    obtain ⟨A, n, c, hh1, hrow1⟩ := HRow.out w1 hr1 hb1
    have hn : L1.length = n := hrow1.1
    have HR := Lib.hid hrow1
    have HN := Lib.hid hn
    have HH1 := Lib.hid hh1
    have HFin : Hid (∀ w2 A n c, Below w1.heap.size w1 w2 → TmRow (fun b => w1.heap.size ≤ b) w2 A n (insL id d L1) → RwAt Q (w2.setCell ⟨B2, 1, none⟩ (.slice A n c)) B2 (s.set id (m : Int)) ∧ But (· = B2) w (w2.setCell ⟨B2, 1, none⟩ (.slice A n c))) := Lib.hid (fun w2 A n c hb ht => HEnd.out w1 w2 A n c hr1 hb1 hb ht)
    have hlt1 := block_lt hh1
    have q6 : (n : Int) ≤ 64 := by omega
    clear hr1 hb1 hrow1 hn hh1
    go_wp2
    go_loopw [7, 8, 9] (fun lv av kv wr => ∃ (k : Nat) (laid : Bool), kv = .int .i64 (k : Int) ∧ av = .bool laid ∧ k ≤ n ∧ Hid (Laid id laid (L1.take k)) ∧ Hid (wr.ownsRow w1.heap.size 56 2 lv (part id d laid (L1.take k)).length (flat (part id d laid (L1.take k)))) ∧ Hid (Below w1.heap.size w1 wr)) (fun _ _ kv _ => n - (RowKit.intOf kv).toNat)
    case atStart => exact ⟨0, false, rfl, rfl, Nat.zero_le _, Lib.hid ⟨(fun _ y hy => by cases hy), (fun h => by cases h)⟩, Lib.hid (World.ownsRow_nil _ _ _ _), Lib.hid (Below.refl _ _)⟩
    case round =>
      obtain ⟨k, laid, rfl, rfl, hk, hla, hown, hbe⟩ := hrel
      obtain ⟨c0r, c1r, _, f1r⟩ := ref_cells ((hbe.out.block B2 hlt1).trans HH1.out)
      have hsz := hbe.out.size
      have hsm : (part id d laid (L1.take k)).length ≤ 4000 := by
        have h1 := part_le id d laid (L1.take k)
        have h2 := List.length_take_le k L1
        omega
      by_cases hlt : k < n
      · have hkl : k < L1.length := by rw [HN.out]; exact hlt
        have hrr := HR.out.but (But.of_below (S := fun _ => False) hbe.out) (fun _ h => h.elim)
        obtain ⟨b, off, rfl, _, _, hat⟩ := hrr.2 (by omega)
        obtain ⟨cr, cr2⟩ := hat k hkl
        have htk := List.take_succ_eq_append_getElem hkl
        obtain ⟨x, hx⟩ : ∃ x, L1[k] = x := ⟨_, rfl⟩
        rw [hx] at cr cr2 htk
        have q7 : (k : Int) < (n : Int) := by omega
        have HXx := Lib.hid hx
        cases laid with
        | true =>
          have hpa : part id d true (L1.take (k + 1)) = part id d true (L1.take k) ++ [x] := by
            unfold part
            rw [if_pos rfl, if_pos rfl, htk, insL_past (hla.out.2 rfl)]
          have HLa : Hid (Laid id true (L1.take (k + 1))) := Lib.hid ⟨(fun h => by cases h), fun _ => by
            obtain ⟨y, hy, hl⟩ := hla.out.2 rfl
            exact ⟨y, by rw [htk]; exact List.mem_append_left _ hy, hl⟩⟩
          have HPa := Lib.hid hpa
          clear hat hx htk hpa hrr
          go_wp2_with (at_builtin; refine wpList_append_tm rfl (.tmp 67) (.tmp 75) rfl w1.heap.size _ (part id d true (L1.take k)) rfl hown.out x rfl (by omega) hsz ?_)
          refine Lib.hid ?_
          intro v3 w3 hown3 hg3
          have HO3 : Hid (w3.ownsRow w1.heap.size 56 2 v3 (part id d true (L1.take (k + 1))).length (flat (part id d true (L1.take (k + 1))))) := Lib.hid (by rw [HPa.out, List.length_append]; exact hown3)
          have HB3 : Hid (Below w1.heap.size w1 w3) := Lib.hid ((hbe.out.alloc hbe.out.size _).grown hg3 (by simp; omega) (fun j hj => (hown.out.lt j hj).1))
          clear hown3 hg3 hsz
          go_wp2
          go_roundw
          case rel => exact ⟨k + 1, true, by go_num, rfl, by omega, HLa, HO3, HB3⟩
          case measure => simp [RowKit.intOf]; omega
        | false =>
          have hbef := hla.out.1 rfl
          by_cases hyy : id < x.1
          · have hpa : part id d true (L1.take (k + 1)) = part id d false (L1.take k) ++ [(id, d), x] := by
              unfold part
              rw [if_pos rfl, if_neg (by simp), htk, insL_at hbef hyy, List.append_assoc]
              rfl
            have HLa : Hid (Laid id true (L1.take (k + 1))) := Lib.hid ⟨(fun h => by cases h), fun _ => ⟨x, by rw [htk]; simp, hyy⟩⟩
            have HPa := Lib.hid hpa
            clear hat hx htk hpa hrr hbef
            go_wp2_with (at_builtin; refine wpList_append_tz rfl (.tmp 56) (.tmp 65) rfl w1.heap.size _ (part id d false (L1.take k)) rfl hown.out (id, d) _ HDz rfl (by omega) hsz ?_)
            refine Lib.hid ?_
            intro v2 w2 hown2 hg2
            have HB2 : Hid (Below w1.heap.size w1 w2) := Lib.hid ((hbe.out.alloc hbe.out.size _).grown hg2 (by simp; omega) (fun j hj => (hown.out.lt j hj).1))
            obtain ⟨_, c1s, _, f1s⟩ := ref_cells ((HB2.out.block B2 hlt1).trans HH1.out)
            have hrr2 := HR.out.but (But.of_below (S := fun _ => False) HB2.out) (fun _ h => h.elim)
            obtain ⟨b', off', e', _, _, hat2⟩ := hrr2.2 (by omega)
            simp only [Option.some.injEq, Addr.mk.injEq, and_true] at e'
            obtain ⟨rfl, rfl⟩ := e'
            obtain ⟨crs, crs2⟩ := hat2 k hkl
            rw [HXx.out] at crs crs2
            have hl2 : (part id d false (L1.take k) ++ [(id, d)]).length ≤ 4096 := by
              rw [List.length_append]
              simp only [List.length_cons, List.length_nil]
              omega
            have HO2 : Hid (w2.ownsRow w1.heap.size 56 2 v2 (part id d false (L1.take k) ++ [(id, d)]).length (flat (part id d false (L1.take k) ++ [(id, d)]))) := Lib.hid (by rw [List.length_append]; exact hown2)
            have hsz2 := HB2.out.size
            clear hown2 hg2 hrr2 hat2 hsz
            go_wp2_with (at_builtin; refine wpList_append_tm rfl (.tmp 67) (.tmp 75) rfl w1.heap.size _ (part id d false (L1.take k) ++ [(id, d)]) rfl HO2.out x rfl hl2 hsz2 ?_)
            refine Lib.hid ?_
            intro v3 w3 hown3 hg3
            have HO3 : Hid (w3.ownsRow w1.heap.size 56 2 v3 (part id d true (L1.take (k + 1))).length (flat (part id d true (L1.take (k + 1))))) := Lib.hid (by rw [HPa.out, List.length_append]; exact hown3)
            have HB3 : Hid (Below w1.heap.size w1 w3) := Lib.hid ((HB2.out.alloc HB2.out.size _).grown hg3 (by simp; omega) (fun j hj => (HO2.out.lt j hj).1))
            clear hown3 hg3 hsz2
            go_wp2
            go_roundw
            case rel => exact ⟨k + 1, true, by go_num, rfl, by omega, HLa, HO3, HB3⟩
            case measure => simp [RowKit.intOf]; omega
          · have hpa : part id d false (L1.take (k + 1)) = part id d false (L1.take k) ++ [x] := by
              unfold part
              rw [if_neg (by simp), if_neg (by simp), htk]
            have HLa : Hid (Laid id false (L1.take (k + 1))) := Lib.hid ⟨(fun _ y hy => by
              rw [htk] at hy
              rcases List.mem_append.1 hy with hy | hy
              · exact hbef y hy
              · obtain rfl := List.mem_singleton.1 hy
                exact hyy), (fun h => by cases h)⟩
            have HPa := Lib.hid hpa
            clear hat hx htk hpa hrr hbef
            go_wp2_with (at_builtin; refine wpList_append_tm rfl (.tmp 67) (.tmp 75) rfl w1.heap.size _ (part id d false (L1.take k)) rfl hown.out x rfl (by omega) hsz ?_)
            refine Lib.hid ?_
            intro v3 w3 hown3 hg3
            have HO3 : Hid (w3.ownsRow w1.heap.size 56 2 v3 (part id d false (L1.take (k + 1))).length (flat (part id d false (L1.take (k + 1))))) := Lib.hid (by rw [HPa.out, List.length_append]; exact hown3)
            have HB3 : Hid (Below w1.heap.size w1 w3) := Lib.hid ((hbe.out.alloc hbe.out.size _).grown hg3 (by simp; omega) (fun j hj => (hown.out.lt j hj).1))
            clear hown3 hg3 hsz
            go_wp2
            go_roundw
            case rel => exact ⟨k + 1, false, by go_num, rfl, by omega, HLa, HO3, HB3⟩
            case measure => simp [RowKit.intOf]; omega
      · obtain rfl : k = n := by omega
        have hfull : L1.take k = L1 := List.take_of_length_le (by rw [HN.out]; exact Nat.le_refl _)
        have hown0 := hown.out
        have hla0 := hla.out
        rw [hfull] at hown0 hla0 hsm
        cases laid with
        | true =>
          have hown1 : wr.ownsRow w1.heap.size 56 2 _ (insL id d L1).length (flat (insL id d L1)) := hown0
          obtain ⟨A1, c2, rfl, hrow⟩ := TmRow.own hown1
          have HF := Lib.hid (HFin.out wr A1 _ c2 hbe.out hrow)
          clear hfull hown0 hla0 hown1 hrow hlt hown hla
          go_wp2
          go_ret
          exact ⟨rfl, HF.out⟩
        | false =>
          have hown1 : wr.ownsRow w1.heap.size 56 2 _ L1.length (flat L1) := hown0
          have HIn : Hid (insL id d L1 = L1 ++ [(id, d)]) := Lib.hid (insL_last (hla0.1 rfl))
          have hl1 : L1.length ≤ 4000 := by omega
          have HOw := Lib.hid hown1
          clear hfull hown0 hla0 hown1 hlt hown hla hsm
          go_wp2_with (at_builtin; refine wpList_append_tz rfl (.tmp 79) (.tmp 88) rfl w1.heap.size _ L1 rfl HOw.out (id, d) _ HDz rfl (by omega) hsz ?_)
          refine Lib.hid ?_
          intro v3 w3 hown3 hg3
          have HB3 : Hid (Below w1.heap.size w1 w3) := Lib.hid ((hbe.out.alloc hbe.out.size _).grown hg3 (by simp; omega) (fun j hj => (HOw.out.lt j hj).1))
          have hown4 : w3.ownsRow w1.heap.size 56 2 v3 (insL id d L1).length (flat (insL id d L1)) := by
            rw [HIn.out, List.length_append]
            exact hown3
          obtain ⟨A1, c2, rfl, hrow⟩ := TmRow.own hown4
          obtain ⟨_, c1s, _, f1s⟩ := ref_cells ((HB3.out.block B2 hlt1).trans HH1.out)
          have HF := Lib.hid (HFin.out w3 A1 _ c2 HB3.out hrow)
          clear hown3 hown4 hrow hg3 hsz
          go_wp2
          go_ret
          exact ⟨rfl, HF.out⟩
end Go.Proofs.Ytcekpkjibabjmaa
