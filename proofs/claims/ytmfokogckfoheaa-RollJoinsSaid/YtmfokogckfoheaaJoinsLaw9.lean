/-
  Of all other nodes the table is just what is told of all that was said, in whatever order, and however often: the law sodalitylaw09.RollJoins over the contracts (layer 9).
-/
import Derived.Test.YtmfokogckfoheaaAliveLaw9
import Derived.Test.YtmfokogckfoheaaRkSupA
namespace Go.Proofs.Ytmfokogckfoheaa
open Go.RowKit Go.Maps
set_option linter.unusedSimpArgs false
set_option linter.unusedVariables false

theorem Ro.small.all {r : Ro} (h : r.small) : ∀ {l : List Up}, (∀ u ∈ l, u.inc ≤ 4294967295) → (r.all l).small := fun {l} hl => by
  have key : ∀ m : List Up, (∀ u ∈ m, u.inc ≤ 4294967295) → (r.all m.reverse).small := fun m hm => by
    induction m with
    | nil => exact h
    | cons u m ih =>
      rw [List.reverse_cons, Ro.all_snoc]
      exact (ih (fun x hx => hm x (List.mem_cons_of_mem _ hx))).apply (hm u List.mem_cons_self)
  have := key l.reverse (fun u hu => hl u (by simpa using hu))
  rwa [List.reverse_reverse] at this
/-- Two rolls, of two maps. -/
structure TwoR (wr : World) (B M B2 M2 : Nat) (r s : Ro) (n n2 : Nat) : Prop where
  one : RlAt wr B M r n
  two : RlAt wr B2 M2 s n2
  ne : M ≠ M2
theorem TwoR.b12 {wr : World} {B M B2 M2 : Nat} {r s : Ro} {n n2 : Nat} (h : TwoR wr B M B2 M2 r s n n2) : B2 ≠ M ∧ B ≠ M2 := ⟨fun e => h.one.map.not_cells (e ▸ h.two.blk), fun e => h.two.map.not_cells (e ▸ h.one.blk)⟩
theorem TwoR.below {w w' : World} {B M B2 M2 : Nat} {r s : Ro} {n n2 : Nat} (h : TwoR w B M B2 M2 r s n n2) (hb : Below w.heap.size w w') : TwoR w' B M B2 M2 r s n n2 := ⟨h.one.below hb, h.two.below hb, h.ne⟩
theorem TwoR.first {w w' : World} {B M B2 M2 : Nat} {r s r2 : Ro} {n n2 m : Nat} (h : TwoR w B M B2 M2 r s n n2) (hb : But (· = M) w w') (h1 : RlAt w' B M r2 m) : TwoR w' B M B2 M2 r2 s m n2 := ⟨h1, h.two.but hb h.b12.1 (fun e => h.ne e.symm), h.ne⟩
theorem TwoR.second {w w' : World} {B M B2 M2 : Nat} {r s s2 : Ro} {n n2 m : Nat} (h : TwoR w B M B2 M2 r s n n2) (hb : But (· = M2) w w') (h1 : RlAt w' B2 M2 s2 m) : TwoR w' B M B2 M2 r s2 n m := ⟨h.one.but hb h.b12.2 h.ne, h1, h.ne⟩
/-- What holds ahead of each round of the first loop. -/
def JoInv (w wr : World) (B M B2 M2 : Nat) (own : Int) (p : List Up) (m k : Nat) : Prop := ∃ q : List Up, TwoR wr B M B2 M2 ((Ro.new own 3).all (p.take k)) ((Ro.new own 3).all q) (k + 1) (2 * k + 1) ∧ (∀ x, x ∈ q ↔ x ∈ p.drop (m - k)) ∧ Below w.heap.size w wr
theorem take_all {r : Ro} {p : List Up} {k : Nat} (hk : k < p.length) {kk : Nat} {ca cb : Up} {r2 : Ro} (h : (r.all (p.take k)).apply p[k] = (kk, ca, cb, r2)) : r2 = r.all (p.take (k + 1)) := by
  rw [List.take_succ_eq_append_getElem hk, Ro.all_snoc, h]
theorem snoc_all {r : Ro} {q : List Up} {y : Up} {kk : Nat} {ca cb : Up} {r2 : Ro} (h : (r.all q).apply y = (kk, ca, cb, r2)) : r2 = r.all (q ++ [y]) := by
  rw [Ro.all_snoc, h]
theorem mem_back {p q : List Up} {m k : Nat} (hm : p.length = m) (hk : k < m) (h : ∀ x, x ∈ q ↔ x ∈ p.drop (m - k)) {y : Up} (hy : p[m - 1 - k]'(by omega) = y) : ∀ x, x ∈ (q ++ [y]) ++ [y] ↔ x ∈ p.drop (m - (k + 1)) := by
  intro x
  have e : p.drop (m - (k + 1)) = y :: p.drop (m - k) := by
    have h1 : m - (k + 1) = m - 1 - k := by omega
    rw [h1, List.drop_eq_getElem_cons (by omega), hy, show m - 1 - k + 1 = m - k by omega]
  rw [e]
  simp only [List.mem_append, List.mem_cons, List.not_mem_nil, or_false, h x]
  constructor
  · rintro ((h | h) | h)
    · exact .inr h
    · exact .inl h
    · exact .inl h
  · rintro (h | h)
    · exact .inr h
    · exact .inl (.inl h)
theorem zeroUp_zU : zeroUp = zU := rfl
theorem othersU_take {own : Int} {p : List Up} {q : Nat} (hq : q < p.length) : (p.take (q + 1)).filter (fun u => decide (u.node ≠ own)) = (p.take q).filter (fun u => decide (u.node ≠ own)) ++ (if p[q].node = own then [] else [p[q]]) := by
  rw [List.take_succ_eq_append_getElem hq, List.filter_append]
  congr 1
  by_cases h : p[q].node = own <;> simp [h]
/-- A grown row of updates leaves the rolls. -/
theorem TwoR.kept_row {w w' : World} {B M B2 M2 : Nat} {r s : Ro} {n n2 base : Nat} {v : Value} {l : List Up} (h : TwoR w B M B2 M2 r s n n2) (hg : w.grownBy w' v.ownBlock) (hv : upRow w base v l) : TwoR w' B M B2 M2 r s n n2 := by
  have key : ∀ (X : Nat) (o : Obj), w.heap[X]? = some o → (∀ (cur : Array Value) (f : Nat × Nat), o ≠ .cells cur 32 f) → w'.heap[X]? = w.heap[X]? := fun X o ho hne => hg.block X (block_lt ho) (fun e => by
    obtain ⟨cur, hc⟩ := row_cells hv e.symm
    rw [ho] at hc
    cases hc
    exact hne _ _ rfl)
  have keyM : ∀ X m N, MapIs w X m N → w'.heap[X]? = w.heap[X]? := fun X m N hm => by
    obtain ⟨D, ⟨es, clock, hb', _⟩, _⟩ := hm
    exact key X _ hb' (fun cur f e => by cases e)
  exact ⟨h.one.keep (key _ _ h.one.blk (fun cur f e => by cases e)) (keyM _ _ _ h.one.map), h.two.keep (key _ _ h.two.blk (fun cur f e => by cases e)) (keyM _ _ _ h.two.map), h.ne⟩
set_option maxHeartbeats 32000000 in
set_option maxRecDepth 100000 in
theorem joins_walk (z : Int) (A : Option Addr) (n c : Nat) (l : List Up) (w : World) (hz : 0 ≤ z ∧ z ≤ 255) (hS : SUp w A n l) (hl : ∀ s ∈ l, s.inc ≤ 4294967295) (hnc : n ≤ c) (hm : c ≤ maxLen) :
    Calls Try.prog 5 #[.int .u8 z, .slice A n c] w fun e w' => e = .returned (.bool true) ∧ Below w.heap.size w w' := by
  have hnb := rem8 z hz.1
  obtain ⟨own, hown⟩ : ∃ o, z % 8 = o := ⟨_, rfl⟩
  rw [hown] at hnb
  have HNew := Lib.hid (fun w => pnew_yes own 3 w hnb)
  have HWk := Lib.hid (fun w => works_any w)
  have HOwn := Lib.hid hown
  have z1 := hz.1
  have z2 := hz.2
  have hm' : (n : Int) ≤ 9223372036854775807 := by unfold maxLen at hm; omega
  have hl8 := hS.1
  clear hz hm hnb hown
  by_cases h60 : 60 < n
  · obtain ⟨bb, oo, rfl, _⟩ := hS.2 (by omega)
    have hq : (60 : Int) < (n : Int) := by omega
    have hq2 : (60 : Int) ≤ (c : Int) := by omega
    obtain ⟨p, hp⟩ : ∃ p, l.take 60 = p := ⟨_, rfl⟩
    have hSp := hS.take (show 60 ≤ n by omega)
    rw [hp] at hSp
    have hLp : p.length = 60 := hSp.1
    have hLi : ∀ u ∈ p, u.inc ≤ 4294967295 := fun u hu => hl u (by rw [← hp] at hu; exact List.mem_of_mem_take hu)
    clear hp
    have HSp := Lib.hid hSp
    have HLp := Lib.hid hLp
    have HLi := Lib.hid hLi
    clear hSp hLp hLi hS hl hl8
    go_enter Try.func5, Try.ntmps5
    go_wp2_with fail
    rw [HOwn.out]
    refine (HNew.out w).mono ?_
    rintro e w1 ⟨B, M, rfl, hR, hB, hM, hb1⟩
    have HR1 := Lib.hid hR
    have HM1 := Lib.hid hM
    have HB1 := Lib.hid hb1
    clear hR hB hM hb1
    go_wp2_with fail
    refine (HNew.out w1).mono ?_
    rintro e w2 ⟨B2, M2, rfl, hR, hB, hM, hb⟩
    have HMs : Hid (w.heap.size ≤ M ∧ w.heap.size ≤ M2) := Lib.hid ⟨HM1.out, by have := HB1.out.size; omega⟩
    have HStart : Hid (JoInv w w2 B M B2 M2 own p 60 0) := Lib.hid ⟨[], ⟨HR1.out.below hb, hR, by have := HR1.out.lt.2; omega⟩, (fun x => by rw [List.drop_of_length_le (by have := HLp.out; omega)]), HB1.out.trans (hb.mono HB1.out.size)⟩
    clear hR hB hM hb
    go_wp2
    go_loopw [10] (fun i wr => ∃ k : Nat, k ≤ 60 ∧ i = .int .i64 (k : Int) ∧ Hid (JoInv w wr B M B2 M2 own p 60 k)) (fun i _ => 60 - (intOf i).toNat)
    case atStart => exact ⟨0, Nat.zero_le _, rfl, HStart⟩
    case round =>
      obtain ⟨k, hk, rfl, HI⟩ := hrel
      obtain ⟨q, hT, hq, hbr⟩ := HI.out
      have HBr := Lib.hid hbr
      clear hbr
      by_cases hlt : k < 60
      · have hkl : k < p.length := by have := HLp.out; omega
        obtain ⟨b, off, he, _⟩ := (HSp.out.of_block HBr.out).at_ hlt hkl
        obtain ⟨rfl, rfl⟩ : bb = b ∧ oo = off := by simpa using he
        obtain ⟨x, hx⟩ : ∃ x, p[k] = x := ⟨_, rfl⟩
        have hki : 60 - 1 - k < p.length := by have := HLp.out; omega
        obtain ⟨y, hy⟩ : ∃ x, p[60 - 1 - k] = x := ⟨_, rfl⟩
        have hxi : x.inc ≤ 4294967295 := by rw [← hx]; exact HLi.out _ (List.getElem_mem hkl)
        have hyi : y.inc ≤ 4294967295 := by rw [← hy]; exact HLi.out _ (List.getElem_mem hki)
        have HXk := Lib.hid hx
        have HYk := Lib.hid hy
        have q1 : (k : Int) < 60 := by omega
        have q0 : (0 : Int) ≤ (k : Int) := by omega
        have q2 : (0 : Int) ≤ 60 - 1 - (k : Int) := by omega
        have q3 : 60 - 1 - (k : Int) < 60 := by omega
        have qk : k ≤ 60 := by omega
        obtain ⟨k1, a1, b1, r1, hap1⟩ : ∃ kk ca cb r2, ((Ro.new own 3).all (p.take k)).apply x = (kk, ca, cb, r2) := ⟨_, _, _, _, rfl⟩
        have he1 : r1 = (Ro.new own 3).all (p.take (k + 1)) := take_all hkl (by rw [hx]; exact hap1)
        have hsm1 : ((Ro.new own 3).all (p.take k)).small := (Ro.small.new (by omega)).all (fun u hu => HLi.out u (List.mem_of_mem_take hu))
        have HAp1 := Lib.hid (apply_any x wr hT.one (by omega) hsm1 hxi k1 a1 b1 r1 hap1)
        have hqi : ∀ u ∈ q, u.inc ≤ 4294967295 := fun u hu => HLi.out u (List.mem_of_mem_drop ((hq u).1 hu))
        have hsmq : ((Ro.new own 3).all q).small := (Ro.small.new (by omega)).all hqi
        obtain ⟨k2, a2, b2, r2, hap2⟩ : ∃ kk ca cb r2, ((Ro.new own 3).all q).apply y = (kk, ca, cb, r2) := ⟨_, _, _, _, rfl⟩
        have he2 := snoc_all hap2
        have hsmq2 : ((Ro.new own 3).all (q ++ [y])).small := (Ro.small.new (by omega)).all (fun u hu => by
          rcases List.mem_append.1 hu with h | h
          · exact hqi u h
          · rw [List.mem_singleton.1 h]; exact hyi)
        rw [← he2] at hsmq2
        obtain ⟨k3, a3, b3, r3, hap3⟩ : ∃ kk ca cb r3, r2.apply y = (kk, ca, cb, r3) := ⟨_, _, _, _, rfl⟩
        have he3 : r3 = (Ro.new own 3).all ((q ++ [y]) ++ [y]) := snoc_all (by rw [← he2]; exact hap3)
        have HAp2 : Hid (∀ w, RlAt w B2 M2 ((Ro.new own 3).all q) (2 * k + 1) → Calls Try.prog 13 #[.pointer (some ⟨B2, 0, none⟩), .agg #[.int .i64 y.node, .int .u32 (y.inc : Int), .int .i64 y.st]] w (ApPost w B2 M2 (2 * k + 1) k2 a2 b2 r2)) := Lib.hid (fun w h => apply_any y w h (by omega) hsmq hyi k2 a2 b2 r2 hap2)
        have HAp3 : Hid (∀ w, RlAt w B2 M2 r2 (2 * k + 1 + 1) → Calls Try.prog 13 #[.pointer (some ⟨B2, 0, none⟩), .agg #[.int .i64 y.node, .int .u32 (y.inc : Int), .int .i64 y.st]] w (ApPost w B2 M2 (2 * k + 1 + 1) k3 a3 b3 r3)) := Lib.hid (fun w h => apply_any y w h (by omega) hsmq2 hyi k3 a3 b3 r3 hap3)
        have HMem := Lib.hid (mem_back HLp.out (by omega) hq hy)
        have HE1 := Lib.hid he1
        have HE3 := Lib.hid he3
        have HT := Lib.hid hT
        obtain ⟨hc0, hc1, hc2⟩ := (HSp.out.of_block HBr.out).up hkl
        rw [hx] at hc0 hc1 hc2
        clear hx hy hap1 he1 hsm1 hqi hsmq hap2 he2 hsmq2 hap3 he3 hT hq hxi hyi
        go_wp2_with fail
        refine HAp1.out.mono ?_
        clear HAp1 hc0 hc1 hc2
        rintro e w2 ⟨rfl, hR, hb⟩
        have HT2 := Lib.hid (HT.out.first hb hR)
        have HB2 := Lib.hid (show Below w.heap.size w w2 from HBr.out.trans (hb.below HBr.out.size (fun k hk e => by have := HMs.out.1; omega)))
        clear hR hb
        obtain ⟨hc0, hc1, hc2⟩ := (HSp.out.of_block HB2.out).up hki
        rw [HYk.out] at hc0 hc1 hc2
        go_wp2_with fail
        refine (HAp2.out w2 HT2.out.two).mono ?_
        clear HAp2 hc0 hc1 hc2
        rintro e w3 ⟨rfl, hR, hb⟩
        have HT3 := Lib.hid (HT2.out.second hb hR)
        have HB3 := Lib.hid (show Below w.heap.size w w3 from HB2.out.trans (hb.below HB2.out.size (fun k hk e => by have := HMs.out.2; omega)))
        clear hR hb
        obtain ⟨hc0, hc1, hc2⟩ := (HSp.out.of_block HB3.out).up hki
        rw [HYk.out] at hc0 hc1 hc2
        go_wp2_with fail
        refine (HAp3.out w3 HT3.out.two).mono ?_
        clear HAp3 hc0 hc1 hc2
        rintro e w4 ⟨rfl, hR, hb⟩
        have HT4 := Lib.hid (HT3.out.second hb hR)
        have HB4 := Lib.hid (show Below w.heap.size w w4 from HB3.out.trans (hb.below HB3.out.size (fun k hk e => by have := HMs.out.2; omega)))
        clear hR hb
        go_wp2
        go_roundw
        case rel => exact ⟨k + 1, by omega, by go_num, Lib.hid ⟨q ++ [y] ++ [y], by have := HT4.out; rw [HE1.out, HE3.out] at this; exact this, HMem.out, HB4.out⟩⟩
        case measure => simp [intOf]; omega
      · obtain rfl : 60 = k := by omega
        obtain ⟨wl, hwl⟩ : ∃ wl, wl = wr := ⟨_, rfl⟩
        subst hwl
        have hpt : p.take 60 = p := List.take_of_length_le (by have := HLp.out; omega)
        have hq' : ∀ x, x ∈ q ↔ x ∈ p := fun x => by rw [hq x, Nat.sub_self]; rfl
        rw [hpt] at hT
        obtain ⟨r, hr⟩ : ∃ r, (Ro.new own 3).all p = r := ⟨_, rfl⟩
        obtain ⟨s, hs⟩ : ∃ r, (Ro.new own 3).all q = r := ⟨_, rfl⟩
        rw [hr, hs] at hT
        have HrT : Hid (∀ z : Int, z ≠ own → r.T z = bestOf z p ∧ s.T z = bestOf z p) := Lib.hid (fun z hz => by
          rw [← hr, ← hs, Ro.all_at p hz, Ro.all_at q hz]
          exact ⟨rfl, bestOf_congr hq'⟩)
        obtain ⟨n1, hn1⟩ : ∃ n1, 60 + 1 = n1 := ⟨_, rfl⟩
        obtain ⟨n2, hn2⟩ : ∃ n1, 2 * 60 + 1 = n1 := ⟨_, rfl⟩
        try simp only [Nat.reduceAdd, Nat.reduceMul] at hT hn1 hn2
        rw [hn1, hn2] at hT
        have HT := Lib.hid hT
        clear hT hq hq' hpt hr hs hn1 hn2
        go_wp2
        go_loopw [11, 12] (fun v i wr => ∃ (j : Nat) (P : List Up), j ≤ 60 ∧ i = .int .i64 (j : Int) ∧ Hid (P = (p.take j).filter (fun u => decide (u.node ≠ own))) ∧ Hid (upRow wr w.heap.size v P) ∧ Hid (Below w.heap.size w wr) ∧ Hid (TwoR wr B M B2 M2 r s n1 n2)) (fun _ i _ => 60 - (intOf i).toNat)
        case atStart => exact ⟨0, [], Nat.zero_le _, rfl, Lib.hid rfl, Lib.hid (upRow.nil _ _), HBr, HT⟩
        case round =>
          obtain ⟨j, P, hj, rfl, HP, HV, HBi, HTi⟩ := hrel
          obtain ⟨v, rfl⟩ : ∃ v, v = u11 := ⟨_, rfl⟩
          obtain ⟨wi, hwi⟩ : ∃ wi, wi = wr := ⟨_, rfl⟩
          subst hwi
          have HLen := Lib.hid (show P.length ≤ 60 by
            have h1 := List.length_filter_le (fun u : Up => decide (u.node ≠ own)) (p.take j)
            rw [← HP.out, List.length_take] at h1
            have := HLp.out
            omega)
          by_cases hlt : j < 60
          · have hjl : j < p.length := by have := HLp.out; omega
            obtain ⟨b, off, he, _⟩ := (HSp.out.of_block HBi.out).at_ hlt hjl
            obtain ⟨rfl, rfl⟩ : bb = b ∧ oo = off := by simpa using he
            obtain ⟨x, hx⟩ : ∃ x, p[j] = x := ⟨_, rfl⟩
            have HXj := Lib.hid hx
            obtain ⟨hc0, hc1, hc2⟩ := (HSp.out.of_block HBi.out).up hjl
            rw [hx] at hc0 hc1 hc2
            have q1 : (j : Int) < 60 := by omega
            have q0 : (0 : Int) ≤ (j : Int) := by omega
            clear hx
            by_cases hz : x.node = own
            · have zz : (x.node != own) = false := by rw [bne_eq_false_iff_eq]; exact hz
              have zz2 : (x.node == own) = true := by rw [beq_iff_eq]; exact hz
              have HZ := Lib.hid hz
              clear hz
              go_wp2
              go_roundw
              case rel => exact ⟨j + 1, P, by omega, by go_num, Lib.hid (by rw [othersU_take hjl, ← HP.out, HXj.out, if_pos HZ.out, List.append_nil]), HV, HBi, HTi⟩
              case measure => simp [intOf]; omega
            · have zz : (x.node != own) = true := by rw [bne_iff_ne]; exact hz
              have zz2 : (x.node == own) = false := by rw [beq_eq_false_iff_ne]; exact hz
              have HZ := Lib.hid hz
              clear hz
              go_wp2_with (at_builtin; refine wpList_append_up rfl _ _ rfl w.heap.size _ P rfl ?qa wi.heap.size x rfl ?qb ?qc ?qd ?_)
              case qa => exact HV.out.below (below1 _ _)
              case qb => exact up_new wi x 32
              case qc => have := HLen.out; omega
              case qd => have := HBi.out.size; simp; omega
              refine Lib.hid ?_
              intro v' w2 hown hg
              have HV2 := Lib.hid hown
              have HB2 : Hid (Below w.heap.size w w2) := Lib.hid ((HBi.out.alloc HBi.out.size _).grown hg (by have := HBi.out.size; simp; omega) (by intro r hr; rcases HV.out.2 with ⟨e, _⟩ | ⟨g, _, _, e, hge, _⟩ <;> rw [e] at hr <;> cases hr; exact hge))
              have HT2 : Hid (TwoR w2 B M B2 M2 r s n1 n2) := Lib.hid (TwoR.kept_row (HTi.out.below (below1 _ _)) hg (HV.out.below (below1 _ _)))
              clear hown hg hc0 hc1 hc2
              go_wp2
              go_roundw
              case rel => first | exact ⟨j + 1, P ++ [x], by omega, by go_num, Lib.hid (by rw [othersU_take hjl, ← HP.out, HXj.out, if_neg HZ.out]), HV2, HB2, HT2⟩ | ((repeat apply Exists.intro); exact ⟨⟨j + 1, P ++ [x], by omega, by go_num, Lib.hid (by rw [othersU_take hjl, ← HP.out, HXj.out, if_neg HZ.out]), HV2, HB2, HT2⟩, rfl⟩)
              case measure => simp [intOf]; omega
          · obtain rfl : 60 = j := by omega
            have HE : Hid (P = p.filter (fun u => decide (u.node ≠ own))) := Lib.hid (by rw [HP.out, List.take_of_length_le (by have := HLp.out; omega)])
            obtain ⟨A4, c4, rfl, hS4, hn4, hm4⟩ := SUp.of_row HV.out
            obtain ⟨pl, hpl⟩ : ∃ pl, P.length = pl := ⟨_, rfl⟩
            rw [hpl] at hS4 hn4
            have HJo := Lib.hid (join_sup A4 pl c4 P none 0 0 [] wi hS4 hn4 hm4 (SUp.zero _ _) (Nat.le_refl _) (Nat.zero_le _))
            have HPl := Lib.hid hpl
            unfold JoinPost at HJo
            obtain ⟨J, hJ⟩ : ∃ J, joinU P [] = J := ⟨_, rfl⟩
            rw [hJ] at HJo
            have HAll : Hid (∀ k : Nat, k < 8 → (k : Int) ≠ own → foundU J (k : Int) = atU r.T (k : Int) ∧ (findU J (k : Int)).isSome = (r.T (k : Int)).isSome ∧ atU r.T (k : Int) = atU s.T (k : Int) ∧ (r.T (k : Int)).isSome = (s.T (k : Int)).isSome) := Lib.hid (fun k hk hko => by
              obtain ⟨h1, h2⟩ := HrT.out (k : Int) hko
              have h3 : findU J (k : Int) = bestOf (k : Int) p := by
                rw [← hJ]
                unfold joinU table
                rw [findU_tableTo, if_pos (by omega), List.append_nil, HE.out, bestOf_others hko]
              unfold foundU atU
              rw [h1, h2, h3, zeroUp_zU]
              exact ⟨rfl, rfl, rfl, rfl⟩)
            clear hS4 hn4 hm4 hpl hJ
            go_wp2_with fail
            rw [HPl.out]
            refine HJo.out.mono ?_
            clear HJo
            rintro e w5 ⟨A5, c5, rfl, hS5, hn5, hm5, hb⟩
            have HJS := Lib.hid hS5
            have HJn := Lib.hid (And.intro hn5 hm5)
            have HT5 := Lib.hid (HTi.out.below hb)
            have HB5 := Lib.hid (HBi.out.trans (hb.mono HBi.out.size))
            clear hS5 hn5 hm5 hb
            go_wp2
            go_loopw [14] (fun i wr => ∃ k : Nat, k ≤ 8 ∧ i = .int .i64 (k : Int) ∧ Hid (Below w5.heap.size w5 wr) ∧ Hid (Below w.heap.size w wr) ∧ Hid (TwoR wr B M B2 M2 r s n1 n2)) (fun i _ => 8 - (intOf i).toNat)
            case atStart => exact ⟨0, Nat.zero_le _, rfl, Lib.hid (Below.refl _ _), HB5, HT5⟩
            case round =>
              obtain ⟨k, hk, rfl, HBJ, HBi, HTi⟩ := hrel
              obtain ⟨wi, hwi⟩ : ∃ wi, wi = wr := ⟨_, rfl⟩
              subst hwi
              by_cases hk8 : k < 8
              · have HFd := Lib.hid (fun w h => pfind_any A5 J.length c5 J (k : Int) w h HJn.out.1 HJn.out.2)
                have hkw : wfI (k : Int) := by unfold wfI; omega
                have HG1 : Hid (∀ w, RlAt w B M r n1 → Calls Try.prog 15 #[.pointer (some ⟨B, 0, none⟩), .int .i64 (k : Int)] w fun e w' => e = .returned (.tuple #[.agg #[.int .i64 (atU r.T (k : Int)).node, .int .u32 ((atU r.T (k : Int)).inc : Int), .int .i64 (atU r.T (k : Int)).st], .bool (r.T (k : Int)).isSome]) ∧ Below w.heap.size w w') := Lib.hid (fun w h => get_any _ hkw w h)
                have HG2 : Hid (∀ w, RlAt w B2 M2 s n2 → Calls Try.prog 15 #[.pointer (some ⟨B2, 0, none⟩), .int .i64 (k : Int)] w fun e w' => e = .returned (.tuple #[.agg #[.int .i64 (atU s.T (k : Int)).node, .int .u32 ((atU s.T (k : Int)).inc : Int), .int .i64 (atU s.T (k : Int)).st], .bool (s.T (k : Int)).isSome]) ∧ Below w.heap.size w w') := Lib.hid (fun w h => get_any _ hkw w h)
                have hall := HAll.out k (by omega)
                obtain ⟨a, ha⟩ : ∃ a, foundU J (k : Int) = a := ⟨_, rfl⟩
                obtain ⟨ia, hia⟩ : ∃ a, (findU J (k : Int)).isSome = a := ⟨_, rfl⟩
                obtain ⟨g, hg⟩ : ∃ a, atU r.T (k : Int) = a := ⟨_, rfl⟩
                obtain ⟨ig, hig⟩ : ∃ a, (r.T (k : Int)).isSome = a := ⟨_, rfl⟩
                obtain ⟨d, hd⟩ : ∃ a, atU s.T (k : Int) = a := ⟨_, rfl⟩
                obtain ⟨id, hid⟩ : ∃ a, (s.T (k : Int)).isSome = a := ⟨_, rfl⟩
                rw [ha, hia] at HFd
                rw [hg, hig] at HG1
                rw [hd, hid] at HG2
                rw [ha, hia, hg, hig, hd, hid] at hall
                have HA3 := Lib.hid hall
                have q8 : (k : Int) < 8 := by omega
                have q0 : (0 : Int) ≤ (k : Int) := by omega
                clear hall ha hia hg hig hd hid hkw
                go_wp2_with fail
                refine (HFd.out wi (HJS.out.of_block HBJ.out)).mono ?_
                clear HFd
                rintro e w2 ⟨rfl, hb⟩
                have HT2 := Lib.hid (HTi.out.below hb)
                have HBJ2 := Lib.hid (HBJ.out.trans (hb.mono HBJ.out.size))
                have HB2 := Lib.hid (HBi.out.trans (hb.mono HBi.out.size))
                clear hb
                have hb := below1 w2 (.cells #[.int .i64 a.node, .int .u32 (a.inc : Int), .int .i64 a.st] 32)
                have hk := heap_alloc_new w2 (.cells #[.int .i64 a.node, .int .u32 (a.inc : Int), .int .i64 a.st] 32)
                obtain ⟨Ya, hY⟩ : ∃ Y, w2.heap.size = Y := ⟨_, rfl⟩
                obtain ⟨w3, hw⟩ : ∃ wq, w2.alloc (.cells #[.int .i64 a.node, .int .u32 (a.inc : Int), .int .i64 a.st] 32) = wq := ⟨_, rfl⟩
                rw [hw] at hb hk
                rw [hY] at hk
                have HN_w3 := Lib.hid hw
                have HS_w3 := Lib.hid hY
                have HT3 := Lib.hid (HT2.out.below hb)
                have HBJ3 := Lib.hid (HBJ2.out.trans (hb.mono HBJ2.out.size))
                have HB3 := Lib.hid (HB2.out.trans (hb.mono HB2.out.size))
                have HKa3 := Lib.hid hk
                clear hb hk hw hY
                go_wp2_with fail
                rw [HN_w3.out, HS_w3.out]
                refine (HG1.out w3 HT3.out.one).mono ?_
                clear HG1
                rintro e w4 ⟨rfl, hb⟩
                have HT4 := Lib.hid (HT3.out.below hb)
                have HBJ4 := Lib.hid (HBJ3.out.trans (hb.mono HBJ3.out.size))
                have HB4 := Lib.hid (HB3.out.trans (hb.mono HB3.out.size))
                have HKa4 := Lib.hid ((hb.block Ya (block_lt HKa3.out)).trans HKa3.out)
                clear hb
                have hb := below1 w4 (.cells #[.int .i64 g.node, .int .u32 (g.inc : Int), .int .i64 g.st] 32)
                have hk := heap_alloc_new w4 (.cells #[.int .i64 g.node, .int .u32 (g.inc : Int), .int .i64 g.st] 32)
                obtain ⟨Yb, hY⟩ : ∃ Y, w4.heap.size = Y := ⟨_, rfl⟩
                obtain ⟨w5, hw⟩ : ∃ wq, w4.alloc (.cells #[.int .i64 g.node, .int .u32 (g.inc : Int), .int .i64 g.st] 32) = wq := ⟨_, rfl⟩
                rw [hw] at hb hk
                rw [hY] at hk
                have HN_w5 := Lib.hid hw
                have HS_w5 := Lib.hid hY
                have HT5 := Lib.hid (HT4.out.below hb)
                have HBJ5 := Lib.hid (HBJ4.out.trans (hb.mono HBJ4.out.size))
                have HB5 := Lib.hid (HB4.out.trans (hb.mono HB4.out.size))
                have HKa5 := Lib.hid ((hb.block Ya (block_lt HKa4.out)).trans HKa4.out)
                have HKb5 := Lib.hid hk
                clear hb hk hw hY
                go_wp2_with fail
                rw [HN_w5.out, HS_w5.out]
                refine (HG2.out w5 HT5.out.two).mono ?_
                clear HG2
                rintro e w6 ⟨rfl, hb⟩
                have HT6 := Lib.hid (HT5.out.below hb)
                have HBJ6 := Lib.hid (HBJ5.out.trans (hb.mono HBJ5.out.size))
                have HB6 := Lib.hid (HB5.out.trans (hb.mono HB5.out.size))
                have hka := (hb.block Ya (block_lt HKa5.out)).trans HKa5.out
                have hkb := (hb.block Yb (block_lt HKb5.out)).trans HKb5.out
                obtain ⟨a0, a1, a2⟩ := blk3 hka
                obtain ⟨b0, b1, b2⟩ := blk3 hkb
                have hla := block_lt hka
                have hlb := block_lt hkb
                clear hb hka hkb
                by_cases hko : (k : Int) = own
                · have zk : ((k : Int) == own) = true := by rw [beq_iff_eq]; exact hko
                  have zk2 : ((k : Int) != own) = false := by rw [bne_eq_false_iff_eq]; exact hko
                  clear hko
                  go_wp2
                  go_roundw
                  case rel => exact ⟨k + 1, by omega, by go_num, Lib.hid (HBJ6.out.alloc HBJ6.out.size _), Lib.hid (HB6.out.alloc HB6.out.size _), Lib.hid (HT6.out.below (below1 _ _))⟩
                  case measure => simp [intOf]; omega
                · have zk : ((k : Int) == own) = false := by rw [beq_eq_false_iff_ne]; exact hko
                  have zk2 : ((k : Int) != own) = true := by rw [bne_iff_ne]; exact hko
                  obtain ⟨rfl, rfl, rfl, rfl⟩ := HA3.out hko
                  have ug := up_guard
                  have ue : ∀ w, (Op.equalIn 10000 32 (.agg #[.int .i64 a.node, .int .u32 (a.inc : Int), .int .i64 a.st]) (.agg #[.int .i64 a.node, .int .u32 (a.inc : Int), .int .i64 a.st])).run Try.prog w = .ok true w := fun w => by rw [up_eq, decide_eq_true rfl]
                  clear hko
                  go_wp2
                  go_roundw
                  case rel => exact ⟨k + 1, by omega, by go_num, Lib.hid (HBJ6.out.alloc HBJ6.out.size _), Lib.hid (HB6.out.alloc HB6.out.size _), Lib.hid (HT6.out.below (below1 _ _))⟩
                  case measure => simp [intOf]; omega
              · go_wp2_with fail
                refine (HWk.out _).mono ?_
                rintro e w9 ⟨rfl, hb⟩
                have HB := Lib.hid (HBi.out.trans (hb.mono HBi.out.size))
                clear hb
                go_wp2
                go_ret
                exact ⟨rfl, HB.out⟩
  · have hq : (n : Int) ≤ 60 := by omega
    obtain ⟨p, hp⟩ : ∃ p, l = p := ⟨_, rfl⟩
    have hSp := hS
    rw [hp] at hSp
    have hLp : p.length = n := hSp.1
    have hLi : ∀ u ∈ p, u.inc ≤ 4294967295 := fun u hu => hl u (by rw [hp]; exact hu)
    clear hp
    have HSp := Lib.hid hSp
    have HLp := Lib.hid hLp
    have HLi := Lib.hid hLi
    clear hSp hLp hLi hS hl hl8
    go_enter Try.func5, Try.ntmps5
    go_wp2_with fail
    rw [HOwn.out]
    refine (HNew.out w).mono ?_
    rintro e w1 ⟨B, M, rfl, hR, hB, hM, hb1⟩
    have HR1 := Lib.hid hR
    have HM1 := Lib.hid hM
    have HB1 := Lib.hid hb1
    clear hR hB hM hb1
    go_wp2_with fail
    refine (HNew.out w1).mono ?_
    rintro e w2 ⟨B2, M2, rfl, hR, hB, hM, hb⟩
    have HMs : Hid (w.heap.size ≤ M ∧ w.heap.size ≤ M2) := Lib.hid ⟨HM1.out, by have := HB1.out.size; omega⟩
    have HStart : Hid (JoInv w w2 B M B2 M2 own p n 0) := Lib.hid ⟨[], ⟨HR1.out.below hb, hR, by have := HR1.out.lt.2; omega⟩, (fun x => by rw [List.drop_of_length_le (by have := HLp.out; omega)]), HB1.out.trans (hb.mono HB1.out.size)⟩
    clear hR hB hM hb
    go_wp2
    go_loopw [10] (fun i wr => ∃ k : Nat, k ≤ n ∧ i = .int .i64 (k : Int) ∧ Hid (JoInv w wr B M B2 M2 own p n k)) (fun i _ => n - (intOf i).toNat)
    case atStart => exact ⟨0, Nat.zero_le _, rfl, HStart⟩
    case round =>
      obtain ⟨k, hk, rfl, HI⟩ := hrel
      obtain ⟨q, hT, hq, hbr⟩ := HI.out
      have HBr := Lib.hid hbr
      clear hbr
      by_cases hlt : k < n
      · have hkl : k < p.length := by have := HLp.out; omega
        obtain ⟨b, off, he, _⟩ := (HSp.out.of_block HBr.out).at_ hlt hkl
        subst he
        obtain ⟨x, hx⟩ : ∃ x, p[k] = x := ⟨_, rfl⟩
        have hki : n - 1 - k < p.length := by have := HLp.out; omega
        obtain ⟨y, hy⟩ : ∃ x, p[n - 1 - k] = x := ⟨_, rfl⟩
        have hxi : x.inc ≤ 4294967295 := by rw [← hx]; exact HLi.out _ (List.getElem_mem hkl)
        have hyi : y.inc ≤ 4294967295 := by rw [← hy]; exact HLi.out _ (List.getElem_mem hki)
        have HXk := Lib.hid hx
        have HYk := Lib.hid hy
        have q1 : (k : Int) < (n : Int) := by omega
        have q0 : (0 : Int) ≤ (k : Int) := by omega
        have q2 : (0 : Int) ≤ (n : Int) - 1 - (k : Int) := by omega
        have q3 : (n : Int) - 1 - (k : Int) < (n : Int) := by omega
        have qk : k ≤ 60 := by omega
        obtain ⟨k1, a1, b1, r1, hap1⟩ : ∃ kk ca cb r2, ((Ro.new own 3).all (p.take k)).apply x = (kk, ca, cb, r2) := ⟨_, _, _, _, rfl⟩
        have he1 : r1 = (Ro.new own 3).all (p.take (k + 1)) := take_all hkl (by rw [hx]; exact hap1)
        have hsm1 : ((Ro.new own 3).all (p.take k)).small := (Ro.small.new (by omega)).all (fun u hu => HLi.out u (List.mem_of_mem_take hu))
        have HAp1 := Lib.hid (apply_any x wr hT.one (by omega) hsm1 hxi k1 a1 b1 r1 hap1)
        have hqi : ∀ u ∈ q, u.inc ≤ 4294967295 := fun u hu => HLi.out u (List.mem_of_mem_drop ((hq u).1 hu))
        have hsmq : ((Ro.new own 3).all q).small := (Ro.small.new (by omega)).all hqi
        obtain ⟨k2, a2, b2, r2, hap2⟩ : ∃ kk ca cb r2, ((Ro.new own 3).all q).apply y = (kk, ca, cb, r2) := ⟨_, _, _, _, rfl⟩
        have he2 := snoc_all hap2
        have hsmq2 : ((Ro.new own 3).all (q ++ [y])).small := (Ro.small.new (by omega)).all (fun u hu => by
          rcases List.mem_append.1 hu with h | h
          · exact hqi u h
          · rw [List.mem_singleton.1 h]; exact hyi)
        rw [← he2] at hsmq2
        obtain ⟨k3, a3, b3, r3, hap3⟩ : ∃ kk ca cb r3, r2.apply y = (kk, ca, cb, r3) := ⟨_, _, _, _, rfl⟩
        have he3 : r3 = (Ro.new own 3).all ((q ++ [y]) ++ [y]) := snoc_all (by rw [← he2]; exact hap3)
        have HAp2 : Hid (∀ w, RlAt w B2 M2 ((Ro.new own 3).all q) (2 * k + 1) → Calls Try.prog 13 #[.pointer (some ⟨B2, 0, none⟩), .agg #[.int .i64 y.node, .int .u32 (y.inc : Int), .int .i64 y.st]] w (ApPost w B2 M2 (2 * k + 1) k2 a2 b2 r2)) := Lib.hid (fun w h => apply_any y w h (by omega) hsmq hyi k2 a2 b2 r2 hap2)
        have HAp3 : Hid (∀ w, RlAt w B2 M2 r2 (2 * k + 1 + 1) → Calls Try.prog 13 #[.pointer (some ⟨B2, 0, none⟩), .agg #[.int .i64 y.node, .int .u32 (y.inc : Int), .int .i64 y.st]] w (ApPost w B2 M2 (2 * k + 1 + 1) k3 a3 b3 r3)) := Lib.hid (fun w h => apply_any y w h (by omega) hsmq2 hyi k3 a3 b3 r3 hap3)
        have HMem := Lib.hid (mem_back HLp.out (by omega) hq hy)
        have HE1 := Lib.hid he1
        have HE3 := Lib.hid he3
        have HT := Lib.hid hT
        obtain ⟨hc0, hc1, hc2⟩ := (HSp.out.of_block HBr.out).up hkl
        rw [hx] at hc0 hc1 hc2
        clear hx hy hap1 he1 hsm1 hqi hsmq hap2 he2 hsmq2 hap3 he3 hT hq hxi hyi
        go_wp2_with fail
        refine HAp1.out.mono ?_
        clear HAp1 hc0 hc1 hc2
        rintro e w2 ⟨rfl, hR, hb⟩
        have HT2 := Lib.hid (HT.out.first hb hR)
        have HB2 := Lib.hid (show Below w.heap.size w w2 from HBr.out.trans (hb.below HBr.out.size (fun k hk e => by have := HMs.out.1; omega)))
        clear hR hb
        obtain ⟨hc0, hc1, hc2⟩ := (HSp.out.of_block HB2.out).up hki
        rw [HYk.out] at hc0 hc1 hc2
        go_wp2_with fail
        refine (HAp2.out w2 HT2.out.two).mono ?_
        clear HAp2 hc0 hc1 hc2
        rintro e w3 ⟨rfl, hR, hb⟩
        have HT3 := Lib.hid (HT2.out.second hb hR)
        have HB3 := Lib.hid (show Below w.heap.size w w3 from HB2.out.trans (hb.below HB2.out.size (fun k hk e => by have := HMs.out.2; omega)))
        clear hR hb
        obtain ⟨hc0, hc1, hc2⟩ := (HSp.out.of_block HB3.out).up hki
        rw [HYk.out] at hc0 hc1 hc2
        go_wp2_with fail
        refine (HAp3.out w3 HT3.out.two).mono ?_
        clear HAp3 hc0 hc1 hc2
        rintro e w4 ⟨rfl, hR, hb⟩
        have HT4 := Lib.hid (HT3.out.second hb hR)
        have HB4 := Lib.hid (show Below w.heap.size w w4 from HB3.out.trans (hb.below HB3.out.size (fun k hk e => by have := HMs.out.2; omega)))
        clear hR hb
        go_wp2
        go_roundw
        case rel => exact ⟨k + 1, by omega, by go_num, Lib.hid ⟨q ++ [y] ++ [y], by have := HT4.out; rw [HE1.out, HE3.out] at this; exact this, HMem.out, HB4.out⟩⟩
        case measure => simp [intOf]; omega
      · obtain rfl : n = k := by omega
        obtain ⟨wl, hwl⟩ : ∃ wl, wl = wr := ⟨_, rfl⟩
        subst hwl
        have hpt : p.take n = p := List.take_of_length_le (by have := HLp.out; omega)
        have hq' : ∀ x, x ∈ q ↔ x ∈ p := fun x => by rw [hq x, Nat.sub_self]; rfl
        rw [hpt] at hT
        obtain ⟨r, hr⟩ : ∃ r, (Ro.new own 3).all p = r := ⟨_, rfl⟩
        obtain ⟨s, hs⟩ : ∃ r, (Ro.new own 3).all q = r := ⟨_, rfl⟩
        rw [hr, hs] at hT
        have HrT : Hid (∀ z : Int, z ≠ own → r.T z = bestOf z p ∧ s.T z = bestOf z p) := Lib.hid (fun z hz => by
          rw [← hr, ← hs, Ro.all_at p hz, Ro.all_at q hz]
          exact ⟨rfl, bestOf_congr hq'⟩)
        obtain ⟨n1, hn1⟩ : ∃ n1, n + 1 = n1 := ⟨_, rfl⟩
        obtain ⟨n2, hn2⟩ : ∃ n1, 2 * n + 1 = n1 := ⟨_, rfl⟩
        try simp only [Nat.reduceAdd, Nat.reduceMul] at hT hn1 hn2
        rw [hn1, hn2] at hT
        have HT := Lib.hid hT
        clear hT hq hq' hpt hr hs hn1 hn2
        go_wp2
        go_loopw [11, 12] (fun v i wr => ∃ (j : Nat) (P : List Up), j ≤ n ∧ i = .int .i64 (j : Int) ∧ Hid (P = (p.take j).filter (fun u => decide (u.node ≠ own))) ∧ Hid (upRow wr w.heap.size v P) ∧ Hid (Below w.heap.size w wr) ∧ Hid (TwoR wr B M B2 M2 r s n1 n2)) (fun _ i _ => n - (intOf i).toNat)
        case atStart => exact ⟨0, [], Nat.zero_le _, rfl, Lib.hid rfl, Lib.hid (upRow.nil _ _), HBr, HT⟩
        case round =>
          obtain ⟨j, P, hj, rfl, HP, HV, HBi, HTi⟩ := hrel
          obtain ⟨v, rfl⟩ : ∃ v, v = u11 := ⟨_, rfl⟩
          obtain ⟨wi, hwi⟩ : ∃ wi, wi = wr := ⟨_, rfl⟩
          subst hwi
          have HLen := Lib.hid (show P.length ≤ 60 by
            have h1 := List.length_filter_le (fun u : Up => decide (u.node ≠ own)) (p.take j)
            rw [← HP.out, List.length_take] at h1
            have := HLp.out
            omega)
          by_cases hlt : j < n
          · have hjl : j < p.length := by have := HLp.out; omega
            obtain ⟨b, off, he, _⟩ := (HSp.out.of_block HBi.out).at_ hlt hjl
            subst he
            obtain ⟨x, hx⟩ : ∃ x, p[j] = x := ⟨_, rfl⟩
            have HXj := Lib.hid hx
            obtain ⟨hc0, hc1, hc2⟩ := (HSp.out.of_block HBi.out).up hjl
            rw [hx] at hc0 hc1 hc2
            have q1 : (j : Int) < (n : Int) := by omega
            have q0 : (0 : Int) ≤ (j : Int) := by omega
            clear hx
            by_cases hz : x.node = own
            · have zz : (x.node != own) = false := by rw [bne_eq_false_iff_eq]; exact hz
              have zz2 : (x.node == own) = true := by rw [beq_iff_eq]; exact hz
              have HZ := Lib.hid hz
              clear hz
              go_wp2
              go_roundw
              case rel => exact ⟨j + 1, P, by omega, by go_num, Lib.hid (by rw [othersU_take hjl, ← HP.out, HXj.out, if_pos HZ.out, List.append_nil]), HV, HBi, HTi⟩
              case measure => simp [intOf]; omega
            · have zz : (x.node != own) = true := by rw [bne_iff_ne]; exact hz
              have zz2 : (x.node == own) = false := by rw [beq_eq_false_iff_ne]; exact hz
              have HZ := Lib.hid hz
              clear hz
              go_wp2_with (at_builtin; refine wpList_append_up rfl _ _ rfl w.heap.size _ P rfl ?qa wi.heap.size x rfl ?qb ?qc ?qd ?_)
              case qa => exact HV.out.below (below1 _ _)
              case qb => exact up_new wi x 32
              case qc => have := HLen.out; omega
              case qd => have := HBi.out.size; simp; omega
              refine Lib.hid ?_
              intro v' w2 hown hg
              have HV2 := Lib.hid hown
              have HB2 : Hid (Below w.heap.size w w2) := Lib.hid ((HBi.out.alloc HBi.out.size _).grown hg (by have := HBi.out.size; simp; omega) (by intro r hr; rcases HV.out.2 with ⟨e, _⟩ | ⟨g, _, _, e, hge, _⟩ <;> rw [e] at hr <;> cases hr; exact hge))
              have HT2 : Hid (TwoR w2 B M B2 M2 r s n1 n2) := Lib.hid (TwoR.kept_row (HTi.out.below (below1 _ _)) hg (HV.out.below (below1 _ _)))
              clear hown hg hc0 hc1 hc2
              go_wp2
              go_roundw
              case rel => first | exact ⟨j + 1, P ++ [x], by omega, by go_num, Lib.hid (by rw [othersU_take hjl, ← HP.out, HXj.out, if_neg HZ.out]), HV2, HB2, HT2⟩ | ((repeat apply Exists.intro); exact ⟨⟨j + 1, P ++ [x], by omega, by go_num, Lib.hid (by rw [othersU_take hjl, ← HP.out, HXj.out, if_neg HZ.out]), HV2, HB2, HT2⟩, rfl⟩)
              case measure => simp [intOf]; omega
          · obtain rfl : n = j := by omega
            have HE : Hid (P = p.filter (fun u => decide (u.node ≠ own))) := Lib.hid (by rw [HP.out, List.take_of_length_le (by have := HLp.out; omega)])
            obtain ⟨A4, c4, rfl, hS4, hn4, hm4⟩ := SUp.of_row HV.out
            obtain ⟨pl, hpl⟩ : ∃ pl, P.length = pl := ⟨_, rfl⟩
            rw [hpl] at hS4 hn4
            have HJo := Lib.hid (join_sup A4 pl c4 P none 0 0 [] wi hS4 hn4 hm4 (SUp.zero _ _) (Nat.le_refl _) (Nat.zero_le _))
            have HPl := Lib.hid hpl
            unfold JoinPost at HJo
            obtain ⟨J, hJ⟩ : ∃ J, joinU P [] = J := ⟨_, rfl⟩
            rw [hJ] at HJo
            have HAll : Hid (∀ k : Nat, k < 8 → (k : Int) ≠ own → foundU J (k : Int) = atU r.T (k : Int) ∧ (findU J (k : Int)).isSome = (r.T (k : Int)).isSome ∧ atU r.T (k : Int) = atU s.T (k : Int) ∧ (r.T (k : Int)).isSome = (s.T (k : Int)).isSome) := Lib.hid (fun k hk hko => by
              obtain ⟨h1, h2⟩ := HrT.out (k : Int) hko
              have h3 : findU J (k : Int) = bestOf (k : Int) p := by
                rw [← hJ]
                unfold joinU table
                rw [findU_tableTo, if_pos (by omega), List.append_nil, HE.out, bestOf_others hko]
              unfold foundU atU
              rw [h1, h2, h3, zeroUp_zU]
              exact ⟨rfl, rfl, rfl, rfl⟩)
            clear hS4 hn4 hm4 hpl hJ
            go_wp2_with fail
            rw [HPl.out]
            refine HJo.out.mono ?_
            clear HJo
            rintro e w5 ⟨A5, c5, rfl, hS5, hn5, hm5, hb⟩
            have HJS := Lib.hid hS5
            have HJn := Lib.hid (And.intro hn5 hm5)
            have HT5 := Lib.hid (HTi.out.below hb)
            have HB5 := Lib.hid (HBi.out.trans (hb.mono HBi.out.size))
            clear hS5 hn5 hm5 hb
            go_wp2
            go_loopw [14] (fun i wr => ∃ k : Nat, k ≤ 8 ∧ i = .int .i64 (k : Int) ∧ Hid (Below w5.heap.size w5 wr) ∧ Hid (Below w.heap.size w wr) ∧ Hid (TwoR wr B M B2 M2 r s n1 n2)) (fun i _ => 8 - (intOf i).toNat)
            case atStart => exact ⟨0, Nat.zero_le _, rfl, Lib.hid (Below.refl _ _), HB5, HT5⟩
            case round =>
              obtain ⟨k, hk, rfl, HBJ, HBi, HTi⟩ := hrel
              obtain ⟨wi, hwi⟩ : ∃ wi, wi = wr := ⟨_, rfl⟩
              subst hwi
              by_cases hk8 : k < 8
              · have HFd := Lib.hid (fun w h => pfind_any A5 J.length c5 J (k : Int) w h HJn.out.1 HJn.out.2)
                have hkw : wfI (k : Int) := by unfold wfI; omega
                have HG1 : Hid (∀ w, RlAt w B M r n1 → Calls Try.prog 15 #[.pointer (some ⟨B, 0, none⟩), .int .i64 (k : Int)] w fun e w' => e = .returned (.tuple #[.agg #[.int .i64 (atU r.T (k : Int)).node, .int .u32 ((atU r.T (k : Int)).inc : Int), .int .i64 (atU r.T (k : Int)).st], .bool (r.T (k : Int)).isSome]) ∧ Below w.heap.size w w') := Lib.hid (fun w h => get_any _ hkw w h)
                have HG2 : Hid (∀ w, RlAt w B2 M2 s n2 → Calls Try.prog 15 #[.pointer (some ⟨B2, 0, none⟩), .int .i64 (k : Int)] w fun e w' => e = .returned (.tuple #[.agg #[.int .i64 (atU s.T (k : Int)).node, .int .u32 ((atU s.T (k : Int)).inc : Int), .int .i64 (atU s.T (k : Int)).st], .bool (s.T (k : Int)).isSome]) ∧ Below w.heap.size w w') := Lib.hid (fun w h => get_any _ hkw w h)
                have hall := HAll.out k (by omega)
                obtain ⟨a, ha⟩ : ∃ a, foundU J (k : Int) = a := ⟨_, rfl⟩
                obtain ⟨ia, hia⟩ : ∃ a, (findU J (k : Int)).isSome = a := ⟨_, rfl⟩
                obtain ⟨g, hg⟩ : ∃ a, atU r.T (k : Int) = a := ⟨_, rfl⟩
                obtain ⟨ig, hig⟩ : ∃ a, (r.T (k : Int)).isSome = a := ⟨_, rfl⟩
                obtain ⟨d, hd⟩ : ∃ a, atU s.T (k : Int) = a := ⟨_, rfl⟩
                obtain ⟨id, hid⟩ : ∃ a, (s.T (k : Int)).isSome = a := ⟨_, rfl⟩
                rw [ha, hia] at HFd
                rw [hg, hig] at HG1
                rw [hd, hid] at HG2
                rw [ha, hia, hg, hig, hd, hid] at hall
                have HA3 := Lib.hid hall
                have q8 : (k : Int) < 8 := by omega
                have q0 : (0 : Int) ≤ (k : Int) := by omega
                clear hall ha hia hg hig hd hid hkw
                go_wp2_with fail
                refine (HFd.out wi (HJS.out.of_block HBJ.out)).mono ?_
                clear HFd
                rintro e w2 ⟨rfl, hb⟩
                have HT2 := Lib.hid (HTi.out.below hb)
                have HBJ2 := Lib.hid (HBJ.out.trans (hb.mono HBJ.out.size))
                have HB2 := Lib.hid (HBi.out.trans (hb.mono HBi.out.size))
                clear hb
                have hb := below1 w2 (.cells #[.int .i64 a.node, .int .u32 (a.inc : Int), .int .i64 a.st] 32)
                have hk := heap_alloc_new w2 (.cells #[.int .i64 a.node, .int .u32 (a.inc : Int), .int .i64 a.st] 32)
                obtain ⟨Ya, hY⟩ : ∃ Y, w2.heap.size = Y := ⟨_, rfl⟩
                obtain ⟨w3, hw⟩ : ∃ wq, w2.alloc (.cells #[.int .i64 a.node, .int .u32 (a.inc : Int), .int .i64 a.st] 32) = wq := ⟨_, rfl⟩
                rw [hw] at hb hk
                rw [hY] at hk
                have HN_w3 := Lib.hid hw
                have HS_w3 := Lib.hid hY
                have HT3 := Lib.hid (HT2.out.below hb)
                have HBJ3 := Lib.hid (HBJ2.out.trans (hb.mono HBJ2.out.size))
                have HB3 := Lib.hid (HB2.out.trans (hb.mono HB2.out.size))
                have HKa3 := Lib.hid hk
                clear hb hk hw hY
                go_wp2_with fail
                rw [HN_w3.out, HS_w3.out]
                refine (HG1.out w3 HT3.out.one).mono ?_
                clear HG1
                rintro e w4 ⟨rfl, hb⟩
                have HT4 := Lib.hid (HT3.out.below hb)
                have HBJ4 := Lib.hid (HBJ3.out.trans (hb.mono HBJ3.out.size))
                have HB4 := Lib.hid (HB3.out.trans (hb.mono HB3.out.size))
                have HKa4 := Lib.hid ((hb.block Ya (block_lt HKa3.out)).trans HKa3.out)
                clear hb
                have hb := below1 w4 (.cells #[.int .i64 g.node, .int .u32 (g.inc : Int), .int .i64 g.st] 32)
                have hk := heap_alloc_new w4 (.cells #[.int .i64 g.node, .int .u32 (g.inc : Int), .int .i64 g.st] 32)
                obtain ⟨Yb, hY⟩ : ∃ Y, w4.heap.size = Y := ⟨_, rfl⟩
                obtain ⟨w5, hw⟩ : ∃ wq, w4.alloc (.cells #[.int .i64 g.node, .int .u32 (g.inc : Int), .int .i64 g.st] 32) = wq := ⟨_, rfl⟩
                rw [hw] at hb hk
                rw [hY] at hk
                have HN_w5 := Lib.hid hw
                have HS_w5 := Lib.hid hY
                have HT5 := Lib.hid (HT4.out.below hb)
                have HBJ5 := Lib.hid (HBJ4.out.trans (hb.mono HBJ4.out.size))
                have HB5 := Lib.hid (HB4.out.trans (hb.mono HB4.out.size))
                have HKa5 := Lib.hid ((hb.block Ya (block_lt HKa4.out)).trans HKa4.out)
                have HKb5 := Lib.hid hk
                clear hb hk hw hY
                go_wp2_with fail
                rw [HN_w5.out, HS_w5.out]
                refine (HG2.out w5 HT5.out.two).mono ?_
                clear HG2
                rintro e w6 ⟨rfl, hb⟩
                have HT6 := Lib.hid (HT5.out.below hb)
                have HBJ6 := Lib.hid (HBJ5.out.trans (hb.mono HBJ5.out.size))
                have HB6 := Lib.hid (HB5.out.trans (hb.mono HB5.out.size))
                have hka := (hb.block Ya (block_lt HKa5.out)).trans HKa5.out
                have hkb := (hb.block Yb (block_lt HKb5.out)).trans HKb5.out
                obtain ⟨a0, a1, a2⟩ := blk3 hka
                obtain ⟨b0, b1, b2⟩ := blk3 hkb
                have hla := block_lt hka
                have hlb := block_lt hkb
                clear hb hka hkb
                by_cases hko : (k : Int) = own
                · have zk : ((k : Int) == own) = true := by rw [beq_iff_eq]; exact hko
                  have zk2 : ((k : Int) != own) = false := by rw [bne_eq_false_iff_eq]; exact hko
                  clear hko
                  go_wp2
                  go_roundw
                  case rel => exact ⟨k + 1, by omega, by go_num, Lib.hid (HBJ6.out.alloc HBJ6.out.size _), Lib.hid (HB6.out.alloc HB6.out.size _), Lib.hid (HT6.out.below (below1 _ _))⟩
                  case measure => simp [intOf]; omega
                · have zk : ((k : Int) == own) = false := by rw [beq_eq_false_iff_ne]; exact hko
                  have zk2 : ((k : Int) != own) = true := by rw [bne_iff_ne]; exact hko
                  obtain ⟨rfl, rfl, rfl, rfl⟩ := HA3.out hko
                  have ug := up_guard
                  have ue : ∀ w, (Op.equalIn 10000 32 (.agg #[.int .i64 a.node, .int .u32 (a.inc : Int), .int .i64 a.st]) (.agg #[.int .i64 a.node, .int .u32 (a.inc : Int), .int .i64 a.st])).run Try.prog w = .ok true w := fun w => by rw [up_eq, decide_eq_true rfl]
                  clear hko
                  go_wp2
                  go_roundw
                  case rel => exact ⟨k + 1, by omega, by go_num, Lib.hid (HBJ6.out.alloc HBJ6.out.size _), Lib.hid (HB6.out.alloc HB6.out.size _), Lib.hid (HT6.out.below (below1 _ _))⟩
                  case measure => simp [intOf]; omega
              · go_wp2_with fail
                refine (HWk.out _).mono ?_
                rintro e w9 ⟨rfl, hb⟩
                have HB := Lib.hid (HBi.out.trans (hb.mono HBi.out.size))
                clear hb
                go_wp2
                go_ret
                exact ⟨rfl, HB.out⟩
theorem joins_row (z : Int) (A : Option Addr) (n c : Nat) (l : List Up) (w : World) (hz : 0 ≤ z ∧ z ≤ 255) (hS : SUp w A n l) (hl : ∀ u ∈ l, okUp u) (hnc : n ≤ c) (hm : c ≤ maxLen) :
    Calls Try.prog 5 #[.int .u8 z, .slice A n c] w fun e w' => e = .returned (.bool true) ∧ Below w.heap.size w w' :=
  joins_walk z A n c l w hz hS (fun u hu => by have := (hl u hu).2.1; omega) hnc hm
end Go.Proofs.Ytmfokogckfoheaa
