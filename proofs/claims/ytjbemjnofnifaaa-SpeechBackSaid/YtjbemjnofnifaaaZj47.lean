/-
  The document's All and Unpack, walked (layer 3).
-/
import Derived.Test.YtjbemjnofnifaaaZj46
namespace Go.Proofs.Ytjbemjnofnifaaa
open Go.RowKit
set_option linter.unusedSimpArgs false

theorem int_info : (Try.prog.info? 3).map (fun i => (i.zero, i.size, i.bytes)) = some (some (.int .i64 0), 1, 8) := by kernel_rfl
theorem rows_apart {w : World} {b1 b2 e1 e2 s1 s2 n1 n2 : Nat} {v1 v2 : Value} {l1 l2 : List Value} (h1 : w.ownsRow b1 e1 s1 v1 n1 l1) (h2 : w.ownsRow b2 e2 s2 v2 n2 l2) (hne : e1 ≠ e2) : v1.ownBlock = none ∨ v1.ownBlock ≠ v2.ownBlock := by
  rcases h1.2 with ⟨rfl, _⟩ | ⟨g1, c1, cur1, rfl, _, hh1, _⟩
  · exact .inl rfl
  · refine .inr fun e => ?_
    rcases h2.2 with ⟨rfl, _⟩ | ⟨g2, c2, cur2, rfl, _, hh2, _⟩
    · cases e
    · have : g1 = g2 := by simpa [Value.ownBlock] using e
      subst this
      rw [hh1] at hh2
      simp at hh2
      exact hne hh2.2
/-- append of one element of several cells, from a block that was just laid. -/
theorem wpList_append_new {P : Program} {w : World} {ops : Array Oper} {rest : List Oper} {o : Oper} {a : Act} {Q : Exit → Act → World → Prop} (hgd : o.guard = none) (s x : Operand) (t : TypeId)
    (ho : o.op = .call { callee := .builtin .append, args := #[s, x], argTypes := #[t, t] })
    (base : Nat) (e : TypeId) (i : TypeInfo) (z : Value) (size bytes : Nat) (ht : P.underlying t = some (.slice e)) (hi : P.info? e = some i) (hz : i.zero = some z)
    (hsize : i.size = size) (hby : i.bytes = bytes) (hzs : z.cells.size = size) (hpos : 0 < size)
    (v : Value) (m : Nat) (ys : List Value) (hs : a.eval s = v) (hown : w.ownsRow base e size v m ys)
    (ad : Addr) (c : Nat) (news : List Value) (hx : a.eval x = .slice (some ad) 1 c) (hn : news.length = 1 * size) (hcs : ∀ j u, news[j]? = some u → w.cell? (ad.add j) = some u) (h1c : ∀ u ∈ news, u.oneCell' = true)
    (h63 : m + 1 ≤ maxLen) (hbytes : (m + 1) * bytes ≤ 140737488355328) (hbase : base ≤ w.heap.size)
    (h : Hid (∀ v' w', w'.ownsRow base e size v' (m + 1) (ys ++ news) → w.grownBy w' v.ownBlock → wpList P ops Q rest (a.put o.dst v') w')) : wpList P ops Q (o :: rest) a w :=
  wpList_append_own w hgd s x t ho base e i z size bytes ht hi hz hsize hby hzs hpos v m ys hs hown ad 1 c news hx hn hcs h1c h63 hbytes hbase (fun v' w' h1 h2 _ => h.out v' w' h1 h2)

def placesV (fs : List Fr) (q : Nat) : List Value := (List.range q).map fun j => .int .i64 ((placeOf fs j : Nat) : Int)
theorem placesV_succ (fs : List Fr) (q : Nat) : placesV fs (q + 1) = placesV fs q ++ [.int .i64 ((placeOf fs q : Nat) : Int)] := by simp [placesV, List.range_succ]
def PlAt (w : World) (A : Option Addr) (n : Nat) (fs : List Fr) : Prop := 0 < n → ∃ b off, A = some ⟨b, off, none⟩ ∧ b < w.heap.size ∧ ∀ j, j < n → w.cell? ⟨b, off + j, none⟩ = some (.int .i64 ((placeOf fs j : Nat) : Int))
theorem PlAt.below {w w' : World} {A : Option Addr} {n : Nat} {fs : List Fr} (h : PlAt w A n fs) (hb : Below w.heap.size w w') : PlAt w' A n fs := fun hn => by
  obtain ⟨b, off, e, hlt, hc⟩ := h hn
  exact ⟨b, off, e, Nat.lt_of_lt_of_le hlt hb.size, fun j hj => (hb.cell (p := ⟨b, off + j, none⟩) hlt).trans (hc j hj)⟩
theorem PlAt.of_row {W : World} {base q : Nat} {v : Value} {fs : List Fr} (h : W.ownsRow base 3 1 v q (placesV fs q)) : ∃ A c, v = .slice A q c ∧ PlAt W A q fs ∧ (A = none → c = 0) ∧ q ≤ c := by
  rcases h.2 with ⟨rfl, h0⟩ | ⟨g, cap, cur, rfl, _, hh, hle, hm, hsz, ht⟩
  · have : q = 0 := by simpa [placesV] using h0
    subst this
    exact ⟨none, 0, rfl, fun h => absurd h (by omega), fun _ => rfl, Nat.le_refl _⟩
  · refine ⟨some ⟨g, 0, none⟩, cap, rfl, fun _ => ⟨g, 0, rfl, (Array.getElem?_eq_some_iff.1 hh).1, fun j hj => ?_⟩, (fun e => by cases e), hle⟩
    have c0 := h.cells (g := g) rfl j (.int .i64 ((placeOf fs j : Nat) : Int)) (by simp [placesV, hj])
    have pa : ∀ k, (⟨g, 0, none⟩ : Addr).add k = ⟨g, 0 + k, none⟩ := fun k => by unfold Addr.add; split <;> simp_all
    rw [pa] at c0
    exact c0

def AllPost (w : World) (fs : List Fr) (r : List UInt8) (e : Ending) (w' : World) : Prop :=
  Below w.heap.size w w' ∧ ∃ A1 c1 A2 c2, e = .returned (.tuple #[.slice A1 fs.length c1, .slice A2 fs.length c2, .int .i64 ((placeOf fs fs.length : Nat) : Int), .int .i64 (errE r : Int)]) ∧ RFs w' A1 fs.length fs ∧ PlAt w' A2 fs.length fs

set_option maxHeartbeats 4000000 in
set_option maxRecDepth 100000 in
theorem rall_any (A : Option Addr) (n c : Nat) (xs : List UInt8) (fs : List Fr) (r : List UInt8) (hcut : Cut xs fs r) (w : World) (hR : RB w A n xs) (hnc : n ≤ c) (hn : n ≤ 140737488355328) (hbig : fs.length * 32 ≤ 140737488355328) :
    Calls Try.prog 64 #[.slice A n c] w (AllPost w fs r) := by
  obtain ⟨i0, hi, hz0, hz1, hz2⟩ := info_parts fr_info
  obtain ⟨j0, hj, hy0, hy1, hy2⟩ := info_parts int_info
  have HR := Lib.hid hR
  have HL := Lib.hid hR.1
  have HCut := Lib.hid hcut
  obtain ⟨g0, hg0⟩ : ∃ g, w.heap.size = g := ⟨_, rfl⟩
  have HG0 := Lib.hid hg0
  clear hR hg0 hcut
  go_enter Try.func64, Try.ntmps64
  go_wp2
  go_loopw [6, 7, 8] (fun v6 v7 at_ wr => ∃ (q : Nat) (pre : List Item), q ≤ fs.length ∧ at_ = .int .i64 ((placeOf fs q : Nat) : Int) ∧ Hid (pre.map Item.key = told fs q) ∧ Hid (∀ x ∈ pre, BodyAt w x.A x.c x.f.b) ∧ Hid (wr.ownsRow g0 28 2 v6 q (pre.flatMap itemCells)) ∧ Hid (wr.ownsRow g0 3 1 v7 q (placesV fs q)) ∧ Hid (Below g0 w wr))
    (fun _ _ at_ _ => n - (intOf at_).toNat)
  case atStart => exact ⟨0, [], Nat.zero_le _, by rw [placeOf_zero]; rfl, Lib.hid rfl, Lib.hid (by simp), Lib.hid (World.ownsRow_nil _ _ _ _), Lib.hid (World.ownsRow_nil _ _ _ _), Lib.hid (Below.refl _ _)⟩
  case round =>
    obtain ⟨q, pre, hq, rfl, hkey, hbody, ho6, ho7, hbw⟩ := hrel
    have hpre : pre.length = q := by
      have := congrArg List.length hkey.out
      rwa [List.length_map, told_length] at this
    obtain ⟨A7, c7, rfl, hP7, hn7, hc7⟩ := PlAt.of_row ho7.out
    have ho6' := ho6.out
    rw [← hpre] at ho6'
    have hgw : g0 ≤ wr.heap.size := by have := hbw.out.size; have := HG0.out; omega
    obtain ⟨A6, c6, rfl, hF6, hn6, hc6⟩ := RFs.of_rowB ho6' (fun x hx => (hbody.out x hx).below (by rw [HG0.out]; exact hbw.out))
    rw [hpre] at hF6 hc6 ho6 ⊢
    have HF6 := Lib.hid hF6
    have HP7 := Lib.hid hP7
    have hpl : placeOf fs q ≤ n := by
      have h1 := placeOf_le fs q
      have h2 := HCut.out.2.1
      have h3 := HL.out
      rw [h2, List.length_append] at h3
      omega
    obtain ⟨p, hp⟩ : ∃ p, placeOf fs q = p := ⟨_, rfl⟩
    have HP := Lib.hid hp
    rw [hp] at hpl ⊢
    have hkf : q = fs.length → pre.map (·.f) = fs := fun e => (keys_f (by subst e; exact hkey.out)).1
    by_cases hlt : p < n
    · obtain ⟨b, off, rfl, hb, _⟩ := HR.out.2 (by omega)
      have hRw := HR.out.below (w' := wr) (by rw [HG0.out]; exact hbw.out)
      have hrd := rb_drop hRw (m := p) (by omega)
      have s1 := rtake_any (some ⟨b, off + p, none⟩) (n - p) (c - p) (xs.drop p) wr hrd (by omega)
      have HBc : Hid (∀ f : Fr, f = frT (xs.drop p) → errT (xs.drop p) = 0 → BodyAt w (some ⟨b, off + p + 3, none⟩) (c - p - 3) f.b) := Lib.hid (fun f hf he => by
        subst hf
        obtain ⟨_, _, z3, z4, _⟩ := errT_zero he
        have hdl : (xs.drop p).length = n - p := by rw [List.length_drop, HL.out]
        have hbc := body_cut (rb_drop HR.out (m := p) (by omega)) (m := bodyN (xs.drop p)) (by omega)
        have e2 : (frT (xs.drop p)).b = ((xs.drop p).drop 3).take (bodyN (xs.drop p)) := rfl
        have e3 : (((xs.drop p).drop 3).take (bodyN (xs.drop p))).length = bodyN (xs.drop p) := hbc.1
        rw [e2]
        exact ⟨by rw [e3]; exact hbc, by rw [e3]; omega, (fun e => by cases e), by rw [e3]; omega⟩)
      have S1 := Lib.hid s1
      have qc : ¬ c = p := by omega
      clear hrd s1 hRw hF6 hP7 hn6 hn7 hp ho6' hb
      go_wp2_with fail
      refine S1.out.mono ?_
      rintro e w2 ⟨hb2, hp2⟩
      have HB2 : Hid (Below g0 w w2) := Lib.hid (hbw.out.trans (hb2.mono hgw))
      have hg2 : g0 ≤ w2.heap.size := by have := hb2.size; omega
      have HB2r := Lib.hid hb2
      clear hb2
      by_cases hqf : q < fs.length
      · obtain ⟨e1, e2, e3⟩ := cut_at HCut.out hqf
        rw [HP.out] at e1 e2 e3
        rcases hp2 with ⟨hne, _⟩ | ⟨_, A2, c2, rfl, _, hA2⟩
        · exact absurd e1 hne
        obtain ⟨rfl, rfl⟩ := hA2 b (off + p) rfl
        obtain ⟨f, hf⟩ : ∃ f, fs[q] = f := ⟨_, rfl⟩
        rw [hf] at e2
        have HBd := Lib.hid (HBc.out f e2.symm e1)
        rw [e2]
        obtain ⟨ln, hln⟩ : ∃ ln, f.b.length = ln := ⟨_, rfl⟩
        unfold frV
        rw [hln]
        have HO6 : Hid (w2.ownsRow g0 28 2 (.slice A6 q c6) q (pre.flatMap itemCells)) := Lib.hid (bown_keep ho6.out HB2r.out)
        have HO7 : Hid (w2.ownsRow g0 3 1 (.slice A7 q c7) q (placesV fs q)) := Lib.hid (bown_keep ho7.out HB2r.out)
        have HPS : Hid (placeOf fs (q + 1) = p + (ln + 7)) := Lib.hid (by rw [placeOf_succ fs hqf, HP.out, hf, hln])
        have hp7 : p + (ln + 7) ≤ n := by
          have h1 := placeOf_le fs (q + 1)
          have h2 := HCut.out.2.1
          have h3 := HL.out
          rw [h2, List.length_append] at h3
          rw [HPS.out] at h1
          omega
        have HK2 : Hid ((pre ++ [(⟨p, f, some ⟨b, off + p + 3, none⟩, c - p - 3⟩ : Item)]).map Item.key = told fs (q + 1)) := Lib.hid (by
          rw [List.map_append, hkey.out, told_succ fs hqf, hf, HP.out]; rfl)
        have HBs : Hid (∀ x ∈ pre ++ [(⟨p, f, some ⟨b, off + p + 3, none⟩, c - p - 3⟩ : Item)], BodyAt w x.A x.c x.f.b) := Lib.hid (fun x hx => by
          rcases List.mem_append.1 hx with h | h
          · exact hbody.out x h
          · rw [List.mem_singleton.1 h]; exact HBd.out)
        have HLn := Lib.hid hln
        clear e1 e2 e3 hA2 hf hln hkf
        go_wp2_with (at_builtin; refine wpList_append_new rfl (.tmp 30) (.tmp 32) 55 rfl g0 28 i0 (.agg #[.int .u8 0, .slice none 0 0]) 2 32 Try.underlying55 hi hz0 hz1 hz2 rfl (by decide) _ q (pre.flatMap itemCells) rfl ((HO6.out.alloc _).alloc _) ⟨w2.heap.size + 1, 0, none⟩ 1 [.int .u8 (f.k.toNat : Int), .slice (some ⟨b, off + p + 3, none⟩) ln (c - p - 3)] ?d0 rfl ?d1 (by simp [Value.oneCell']) ?d2 ?d3 ?d4 ?_)
        case d0 => simp [go_sem]
        case d1 =>
          intro j u hj
          have := cell_two_new (w2.alloc (.cells #[.int .u8 (f.k.toNat : Int), .slice (some ⟨b, off + p + 3, none⟩) ln (c - p - 3)] 28)) (.int .u8 (f.k.toNat : Int)) (.slice (some ⟨b, off + p + 3, none⟩) ln (c - p - 3)) 28 j u hj
          rwa [World.size_alloc] at this
        case d2 => unfold maxLen; omega
        case d3 => omega
        case d4 => simp; omega
        refine Lib.hid ?_
        intro v8 w8 hown8 hg8
        have hb28 : Below g0 w2 w8 := (((Below.refl g0 w2).alloc hg2 _).alloc (by simp; omega) _).grown hg8 (by simp; omega) (fun j hj => (HO6.out.lt j hj).1)
        have HB8 : Hid (Below g0 w w8) := Lib.hid (HB2.out.trans hb28)
        have hg8' : g0 ≤ w8.heap.size := by have := hb28.size; omega
        have HO78 : Hid (w8.ownsRow g0 3 1 (.slice A7 q c7) q (placesV fs q)) := Lib.hid (((HO7.out.alloc _).alloc _).kept hg8 (rows_apart ((HO7.out.alloc (.cells #[.int .u8 (f.k.toNat : Int), .slice (some ⟨b, off + p + 3, none⟩) ln (c - p - 3)] 28)).alloc (.cells #[.int .u8 (f.k.toNat : Int), .slice (some ⟨b, off + p + 3, none⟩) ln (c - p - 3)] 28)) ((HO6.out.alloc _).alloc _) (by decide)))
        have HO8 : Hid (w8.ownsRow g0 28 2 v8 (q + 1) ((pre ++ [(⟨p, f, some ⟨b, off + p + 3, none⟩, c - p - 3⟩ : Item)]).flatMap itemCells)) := Lib.hid (by
          rw [List.flatMap_append]
          simpa [itemCells, HLn.out] using hown8)
        obtain ⟨g8, cap8, rfl⟩ := ownsRow_succ HO8.out
        clear hb28 hown8 hg8
        go_wp2_with (at_builtin; refine wpList_append_new rfl (.tmp 34) (.tmp 36) 111 rfl g0 3 j0 (.int .i64 0) 1 8 Try.underlying111 hj hy0 hy1 hy2 rfl (by decide) _ q (placesV fs q) rfl (HO78.out.alloc _) ⟨w8.heap.size, 0, none⟩ 1 [.int .i64 (p : Int)] rfl rfl (cell_one_new _ _ _) (by simp [Value.oneCell']) ?f2 ?f3 ?f4 ?_)
        case f2 => unfold maxLen; omega
        case f3 => omega
        case f4 => simp; omega
        refine Lib.hid ?_
        intro v9 w9 hown9 hg9
        have hb89 : Below g0 w8 w9 := ((Below.refl g0 w8).alloc hg8' _).grown hg9 (by simp; omega) (fun j hj => (HO78.out.lt j hj).1)
        have HB9 : Hid (Below g0 w w9) := Lib.hid (HB8.out.trans hb89)
        have HO9 : Hid (w9.ownsRow g0 28 2 (.slice (some ⟨g8, 0, none⟩) (q + 1) cap8) (q + 1) ((pre ++ [(⟨p, f, some ⟨b, off + p + 3, none⟩, c - p - 3⟩ : Item)]).flatMap itemCells)) := Lib.hid ((HO8.out.alloc _).kept hg9 (rows_apart (HO8.out.alloc (.cells #[.int .i64 (p : Int)] 3)) (HO78.out.alloc _) (by decide)))
        have HO79 : Hid (w9.ownsRow g0 3 1 v9 (q + 1) (placesV fs (q + 1))) := Lib.hid (by
          rw [placesV_succ, HP.out]
          simpa using hown9)
        obtain ⟨g9, cap9, rfl⟩ := ownsRow_succ HO79.out
        clear hb89 hown9 hg9
        go_wp2
        go_roundw
        case rel => exact ⟨q + 1, _, hqf, by rw [HPS.out]; go_num, HK2, HBs, HO9, HO79, HB9⟩
        case measure => simp [intOf]; omega
      · obtain rfl : q = fs.length := by omega
        obtain ⟨e1, e2⟩ := cut_end HCut.out
        rw [HP.out] at e1 e2
        have hr0 : r.length ≠ 0 := by have := HL.out; omega
        have he := HCut.out.2.2
        rcases hp2 with ⟨_, rfl⟩ | ⟨h0, _⟩
        · rw [e1]
          obtain ⟨E, hE⟩ : ∃ E, errT r = E := ⟨_, rfl⟩
          have HEE : Hid (errE r = E) := Lib.hid (by unfold errE; rw [if_neg hr0, hE])
          unfold errAns
          rw [hE] at he ⊢
          have q0 : ((E : Int) == 0) = false := by rw [beq_eq_false_iff_ne]; omega
          have q0' : ((E : Int) != 0) = true := by rw [bne_iff_ne]; omega
          have hw3 : Below wr.heap.size wr (w2.alloc (.cells #[.int .u8 0, .slice none 0 0] 28)) := HB2r.out.alloc HB2r.out.size _
          have hBf : Below w.heap.size w (w2.alloc (.cells #[.int .u8 0, .slice none 0 0] 28)) := by
            rw [HG0.out]; exact HB2.out.alloc hg2 _
          have HBf := Lib.hid hBf
          have HFf := Lib.hid (HF6.out.below hw3)
          have HPf := Lib.hid (HP7.out.below hw3)
          have HKF := Lib.hid (hkf rfl)
          clear e1 e2 hr0 he hE hw3 hBf hkf
          go_wp2
          refine bodyPost_ret (v := .tuple #[.slice A6 fs.length c6, .slice A7 fs.length c7, .int .i64 (p : Int), .int .i64 (E : Int)]) (by simp [results, Try.results64, go_sem]) rfl ?_
          exact ⟨HBf.out, A6, c6, A7, c7, by rw [HP.out, HEE.out], by have := HFf.out; rw [HKF.out] at this; exact this, HPf.out⟩
        · exact absurd (e1 ▸ h0) he
    · obtain rfl : p = n := by omega
      have hqf : q = fs.length := by
        by_cases h : q < fs.length
        · have h1 := placeOf_le fs (q + 1)
          rw [placeOf_succ fs h, HP.out] at h1
          have h2 := HCut.out.2.1
          have h3 := HL.out
          rw [h2, List.length_append] at h3
          omega
        · omega
      subst hqf
      obtain ⟨e1, e2⟩ := cut_end HCut.out
      rw [HP.out] at e2
      have HEE : Hid (errE r = 0) := Lib.hid (by unfold errE; rw [if_pos (by have := HL.out; omega)])
      have HBf : Hid (Below w.heap.size w wr) := Lib.hid (by rw [HG0.out]; exact hbw.out)
      have HKF := Lib.hid (hkf rfl)
      clear e1 e2 hkf hF6 hP7 hn6 hn7 hp ho6' hlt
      go_wp2
      refine bodyPost_ret (v := .tuple #[.slice A6 fs.length c6, .slice A7 fs.length c7, .int .i64 (p : Int), .int .i64 0]) (by simp [results, Try.results64, go_sem]) rfl ?_
      exact ⟨HBf.out, A6, c6, A7, c7, by rw [HP.out, HEE.out]; rfl, by have := HF6.out; rw [HKF.out] at this; exact this, HP7.out⟩

set_option maxHeartbeats 2000000 in
theorem runpack_any (A : Option Addr) (n c : Nat) (xs : List UInt8) (fs : List Fr) (r : List UInt8) (hcut : Cut xs fs r) (w : World) (hR : RB w A n xs) (hnc : n ≤ c) :
    Calls Try.prog 42 #[.slice A n c] w fun e w' => Below w.heap.size w w' ∧ ((errUn xs fs r ≠ 0 ∧ e = .returned (.tuple #[.slice none 0 0, .int .i64 (errUn xs fs r : Int)])) ∨
    (errUn xs fs r = 0 ∧ ∃ A c, e = .returned (.tuple #[.slice A fs.length c, .int .i64 0]) ∧ RFs w' A fs.length fs)) := by
  have hl := hR.1
  by_cases hsz : n = 0 ∨ 1400 < n
  · have HE : Hid (errUn xs fs r = 5) := Lib.hid (by unfold errUn; rw [if_pos (by rw [hl]; exact hsz)])
    clear hR hcut hl
    rcases hsz with h0 | h0
    · subst h0
      go_enter Try.func42, Try.ntmps42
      go_wp2
      go_ret2
      exact ⟨Below.refl _ _, .inl ⟨by rw [HE.out]; omega, by rw [HE.out]; rfl⟩⟩
    · have q0 : (1 : Int) ≤ (n : Int) := by omega
      have q1 : (1400 : Int) < (n : Int) := by omega
      go_enter Try.func42, Try.ntmps42
      go_wp2
      go_ret2
      exact ⟨Below.refl _ _, .inl ⟨by rw [HE.out]; omega, by rw [HE.out]; rfl⟩⟩
  · have h2 : n ≤ 1400 := by omega
    have q0 : (1 : Int) ≤ (n : Int) := by omega
    have q1 : (n : Int) ≤ 1400 := by omega
    have hfl : fs.length ≤ 200 := by
      have h3 := encs_length_le fs
      have h4 := hcut.2.1
      rw [h4, List.length_append] at hl
      omega
    have s1 := rall_any A n c xs fs r hcut w hR hnc (by omega) (by omega)
    obtain ⟨ER, hER⟩ : ∃ e, errE r = e := ⟨_, rfl⟩
    have HUn : Hid (errUn xs fs r = if ER ≠ 0 then ER else if 32 < fs.length then 5 else 0) := Lib.hid (by unfold errUn; rw [if_neg (by rw [hl]; exact hsz), hER])
    unfold AllPost at s1
    rw [hER] at s1
    obtain ⟨N, hN⟩ : ∃ N, fs.length = N := ⟨_, rfl⟩
    have HNN := Lib.hid hN
    rw [hN] at s1 HUn
    obtain ⟨PL, hPL⟩ : ∃ e, placeOf fs N = e := ⟨_, rfl⟩
    rw [hPL] at s1
    clear hR hcut hl hsz hER hPL hN
    go_enter Try.func42, Try.ntmps42
    go_wp2_with fail
    refine s1.mono ?_
    rintro e w1 ⟨hb1, A1, c1, A2, c2, rfl, hF, hP⟩
    have HB1 := Lib.hid hb1
    have HF := Lib.hid hF
    clear s1 hb1 hF hP
    by_cases hE0 : ER = 0
    · subst hE0
      by_cases h32 : 32 < N
      · have HU5 : Hid (errUn xs fs r = 5) := Lib.hid (by rw [HUn.out, if_neg (by simp), if_pos h32])
        have t1 : (32 : Int) < (N : Int) := by omega
        go_wp2
        go_ret2
        exact ⟨HB1.out, .inl ⟨by rw [HU5.out]; omega, by rw [HU5.out]; rfl⟩⟩
      · have HU5 : Hid (errUn xs fs r = 0) := Lib.hid (by rw [HUn.out, if_neg (by simp), if_neg h32])
        have t1 : (N : Int) ≤ 32 := by omega
        clear h32
        go_wp2
        go_ret2
        exact ⟨HB1.out, .inr ⟨HU5.out, A1, c1, by rw [HNN.out]; rfl, by rw [HNN.out]; exact HF.out⟩⟩
    · have HUE : Hid (errUn xs fs r = ER) := Lib.hid (by rw [HUn.out, if_pos hE0])
      have e0 : ((ER : Int) == 0) = false := by rw [beq_eq_false_iff_ne]; omega
      have e0' : ((ER : Int) != 0) = true := by rw [bne_iff_ne]; omega
      have HE0 := Lib.hid hE0
      clear hE0
      go_wp2
      go_ret2
      exact ⟨HB1.out, .inl ⟨by rw [HUE.out]; exact HE0.out, by rw [HUE.out]; rfl⟩⟩
end Go.Proofs.Ytjbemjnofnifaaa
