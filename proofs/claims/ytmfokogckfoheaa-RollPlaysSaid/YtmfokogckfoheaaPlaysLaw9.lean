/-
  Whatever is said, and whenever it leaves, a roll believes, and tells of each change, what the document says: the law sodalitylaw09.RollPlays over the contracts (layer 9).
-/
import Derived.Test.YtmfokogckfoheaaRisesLaw9
namespace Go.Proofs.Ytmfokogckfoheaa
open Go.RowKit Go.Maps
set_option linter.unusedSimpArgs false
set_option linter.unusedVariables false

theorem RrAt.but_map {w w' : World} {base B2 M N : Nat} {v : Value} {r : Ro} {m : Int → Option Up} (h : RrAt w base B2 v r) (hM : MapIs w M m N) (hb : But (· = M) w w') : RrAt w' base B2 v r :=
  h.but hb (fun e => hM.not_cells (by have e2 : B2 = M := e; rw [← e2]; exact h.blk)) (fun b hb2 e => by
    obtain ⟨cur, hc⟩ := row_cells h.row hb2
    have e2 : b = M := e
    exact hM.not_cells (by rw [← e2]; exact hc))
theorem RlAt.but_ref {w w' : World} {base B M B2 n : Nat} {v : Value} {r r2 : Ro} (h : RlAt w B M r n) (h2 : RrAt w base B2 v r2) (hb : But (· = B2) w w') : RlAt w' B M r n :=
  h.but hb (fun e => by
    have e2 : B = B2 := e
    have h1 := h.blk
    rw [e2, h2.blk] at h1
    simp at h1) (fun e => by
    have e2 : M = B2 := e
    exact h.map.not_cells (by rw [e2]; exact h2.blk))
/-- What holds ahead of each round. -/
def PlInv (w wr : World) (base B M B2 : Nat) (k : Nat) : Prop := ∃ r : Ro, RlAt wr B M r (k + 1) ∧ (∃ v, RrAt wr base B2 v r) ∧ r.small ∧ Below w.heap.size w wr
def plF (G : Nat) (B2 : Nat) (A6 : Option Addr) (L : List Up) (c6 : Nat) (b : Nat) (off : Nat) (n : Nat) (c : Nat) (k : Nat) (u : Up) (g : Up) (ig : Bool) : Nat → Value → World → Prop
  | 0, v, _ => v = .pointer (some ⟨B2, 0, none⟩)
  | 1, v, _ => v = .pointer (some ⟨B2, 0, none⟩)
  | 2, v, _ => v = .pointer (some ⟨B2, 1, none⟩)
  | 3, v, _ => v = .slice A6 L.length c6
  | 4, v, _ => v = .slice ((some ⟨b, off, none⟩)) n c
  | 5, v, _ => v = .int .i64 (k : Int)
  | 6, v, _ => v = .pointer (some ⟨b, off + k * 4, none⟩)
  | 7, v, _ => v = .pointer (some ⟨b, off + k * 4 + 1, none⟩)
  | 8, v, _ => v = .pointer (some ⟨b, off + k * 4 + 1, none⟩)
  | 9, v, _ => v = .int .i64 u.node
  | 10, v, _ => v = .tuple #[.agg #[.int .i64 g.node, .int .u32 (g.inc : Int), .int .i64 g.st], .bool ig]
  | 11, v, _ => v = .tuple #[.agg #[.int .i64 g.node, .int .u32 (g.inc : Int), .int .i64 g.st], .bool ig]
  | 12, v, _ => v = .agg #[.int .i64 g.node, .int .u32 (g.inc : Int), .int .i64 g.st]
  | 13, v, _ => v = .bool ig
  | 14, v, w => ∃ B, v = .pointer (some ⟨B, 0, none⟩) ∧ G ≤ B ∧ ∃ u0 u1 u2, w.heap[B]? = some (.cells #[u0, u1, u2] TU (0, 0))
  | 16, v, _ => v = .bool ig
  | _, _, _ => True
theorem plF_stable (G : Nat) (B2 : Nat) (A6 : Option Addr) (L : List Up) (c6 : Nat) (b : Nat) (off : Nat) (n : Nat) (c : Nat) (k : Nat) (u : Up) (g : Up) (ig : Bool) : ∀ i v w w', plF G B2 A6 L c6 b off n c k u g ig i v w → LeT G w w' → plF G B2 A6 L c6 b off n c k u g ig i v w'
  | 0, _, _, _, h, _ | 1, _, _, _, h, _ | 2, _, _, _, h, _ | 3, _, _, _, h, _ | 4, _, _, _, h, _ | 5, _, _, _, h, _ | 6, _, _, _, h, _ | 7, _, _, _, h, _ | 8, _, _, _, h, _ | 9, _, _, _, h, _ | 10, _, _, _, h, _ | 11, _, _, _, h, _ | 12, _, _, _, h, _ | 13, _, _, _, h, _ | 15, _, _, _, h, _ | 16, _, _, _, h, _ => h
  | 14, _, _, _, ⟨B, e, hB, u0, u1, u2, h⟩, g => ⟨B, e, hB, g.var B u0 u1 u2 hB h⟩
  | _ + 17, _, _, _, h, _ => h
def plT (Yu : Nat) (B7 : Nat) (B2 : Nat) (B : Nat) (A6 : Option Addr) (L : List Up) (c6 : Nat) (g : Up) (ig : Bool) (s : Up) : Nat → Value → World → Prop
  | 0, v, _ => v = .agg #[.int .i64 g.node, .int .u32 (g.inc : Int), .int .i64 g.st]
  | 1, v, _ => v = .agg #[.int .i64 g.node, .int .u32 (g.inc : Int), .int .i64 g.st]
  | 2, v, _ => v = .bool false
  | 3, v, _ => v = .bool false
  | 4, v, _ => v = .bool ig
  | 5, v, _ => v = .bool ig
  | 6, v, _ => v = .bool false
  | 7, v, _ => v = .bool false
  | 8, v, _ => v = .bool false
  | 9, v, _ => v = .pointer (some ⟨B, 0, none⟩)
  | 10, v, _ => v = .agg #[.int .i64 s.node, .int .u32 (s.inc : Int), .int .i64 s.st]
  | 11, v, _ => v = .pointer (some ⟨B2, 0, none⟩)
  | 12, v, _ => v = .agg #[.int .i64 s.node, .int .u32 (s.inc : Int), .int .i64 s.st]
  | 13, v, _ => v = .bool false
  | 14, v, _ => v = .bool false
  | 15, v, _ => v = .bool false
  | 16, v, _ => v = .pointer (some ⟨B, 0, none⟩)
  | 17, v, w => ∃ A c, v = .slice A L.length c ∧ SUp w A L.length L ∧ L.length ≤ c ∧ c ≤ maxLen
  | 18, v, _ => v = .pointer (some ⟨B2, 0, none⟩)
  | 19, v, _ => v = .pointer (some ⟨B2, 0, none⟩)
  | 20, v, _ => v = .pointer (some ⟨B2, 1, none⟩)
  | 21, v, _ => v = .slice A6 L.length c6
  | 22, v, _ => v = .bool true
  | 23, v, _ => v = .bool false
  | 24, v, _ => v = .bool false
  | _, _, _ => True
theorem plT_stable (Yu : Nat) (B7 : Nat) (B2 : Nat) (B : Nat) (A6 : Option Addr) (L : List Up) (c6 : Nat) (g : Up) (ig : Bool) (s : Up) : ∀ i v w w', plT Yu B7 B2 B A6 L c6 g ig s i v w → Go.Rel.Grew w w' → plT Yu B7 B2 B A6 L c6 g ig s i v w'
  | 0, _, _, _, h, _ | 1, _, _, _, h, _ | 2, _, _, _, h, _ | 3, _, _, _, h, _ | 4, _, _, _, h, _ | 5, _, _, _, h, _ | 6, _, _, _, h, _ | 7, _, _, _, h, _ | 8, _, _, _, h, _ | 9, _, _, _, h, _ | 10, _, _, _, h, _ | 11, _, _, _, h, _ | 12, _, _, _, h, _ | 13, _, _, _, h, _ | 14, _, _, _, h, _ | 15, _, _, _, h, _ | 16, _, _, _, h, _ | 18, _, _, _, h, _ | 19, _, _, _, h, _ | 20, _, _, _, h, _ | 21, _, _, _, h, _ | 22, _, _, _, h, _ | 23, _, _, _, h, _ | 24, _, _, _, h, _ => h
  | 17, _, _, _, h, g => by obtain ⟨A, c, e, h1, h2, h3⟩ := h; exact ⟨A, c, e, h1.of_block g, h2, h3⟩
  | _ + 25, _, _, _, h, _ => h
def plE (B2 : Nat) (B : Nat) (A6 : Option Addr) (L : List Up) (c6 : Nat) (Nl : List Int) (Np : List Int) : Nat → Value → World → Prop
  | 0, v, _ => v = .pointer (some ⟨B, 0, none⟩)
  | 1, v, w => ∃ A c, v = .slice A Nl.length c ∧ RV w A Nl.length (intsC Nl) ∧ Nl.length ≤ c ∧ c ≤ maxLen
  | 2, v, _ => v = .pointer (some ⟨B2, 0, none⟩)
  | 3, v, w => ∃ A c, v = .slice A Nl.length c ∧ RV w A Nl.length (intsC Nl) ∧ Nl.length ≤ c ∧ c ≤ maxLen
  | 4, v, _ => v = .bool true
  | 5, v, _ => v = .bool true
  | 6, v, _ => v = .pointer (some ⟨B, 0, none⟩)
  | 7, v, w => ∃ A c, v = .slice A Np.length c ∧ RV w A Np.length (intsC Np) ∧ Np.length ≤ c ∧ c ≤ maxLen
  | 8, v, _ => v = .pointer (some ⟨B2, 0, none⟩)
  | 9, v, w => ∃ A c, v = .slice A Np.length c ∧ RV w A Np.length (intsC Np) ∧ Np.length ≤ c ∧ c ≤ maxLen
  | 10, v, _ => v = .bool true
  | 11, v, _ => v = .bool true
  | 12, v, _ => v = .bool true
  | 13, v, _ => v = .pointer (some ⟨B, 0, none⟩)
  | 14, v, w => ∃ A c, v = .slice A L.length c ∧ SUp w A L.length L ∧ L.length ≤ c ∧ c ≤ maxLen
  | 15, v, _ => v = .pointer (some ⟨B2, 0, none⟩)
  | 16, v, _ => v = .pointer (some ⟨B2, 0, none⟩)
  | 17, v, _ => v = .pointer (some ⟨B2, 1, none⟩)
  | 18, v, _ => v = .slice A6 L.length c6
  | 19, v, _ => v = .bool true
  | 20, v, _ => v = .bool true
  | 21, v, _ => v = .bool true
  | 22, v, _ => v = .bool true
  | 23, v, _ => v = .bool true
  | 24, v, _ => v = .bool true
  | _, _, _ => True
theorem plE_stable (B2 : Nat) (B : Nat) (A6 : Option Addr) (L : List Up) (c6 : Nat) (Nl : List Int) (Np : List Int) : ∀ i v w w', plE B2 B A6 L c6 Nl Np i v w → Go.Rel.Grew w w' → plE B2 B A6 L c6 Nl Np i v w'
  | 0, _, _, _, h, _ | 2, _, _, _, h, _ | 4, _, _, _, h, _ | 5, _, _, _, h, _ | 6, _, _, _, h, _ | 8, _, _, _, h, _ | 10, _, _, _, h, _ | 11, _, _, _, h, _ | 12, _, _, _, h, _ | 13, _, _, _, h, _ | 15, _, _, _, h, _ | 16, _, _, _, h, _ | 17, _, _, _, h, _ | 18, _, _, _, h, _ | 19, _, _, _, h, _ | 20, _, _, _, h, _ | 21, _, _, _, h, _ | 22, _, _, _, h, _ | 23, _, _, _, h, _ | 24, _, _, _, h, _ => h
  | 1, _, _, _, h, g => by obtain ⟨A, c, e, h1, h2, h3⟩ := h; exact ⟨A, c, e, h1.below g, h2, h3⟩
  | 3, _, _, _, h, g => by obtain ⟨A, c, e, h1, h2, h3⟩ := h; exact ⟨A, c, e, h1.below g, h2, h3⟩
  | 7, _, _, _, h, g => by obtain ⟨A, c, e, h1, h2, h3⟩ := h; exact ⟨A, c, e, h1.below g, h2, h3⟩
  | 9, _, _, _, h, g => by obtain ⟨A, c, e, h1, h2, h3⟩ := h; exact ⟨A, c, e, h1.below g, h2, h3⟩
  | 14, _, _, _, h, g => by obtain ⟨A, c, e, h1, h2, h3⟩ := h; exact ⟨A, c, e, h1.of_block g, h2, h3⟩
  | _ + 25, _, _, _, h, _ => h
set_option maxHeartbeats 64000000 in
set_option maxRecDepth 100000 in
theorem plays_yes (z : Int) (inc : Nat) (A : Option Addr) (n c : Nat) (l : List St) (w : World) (hnb : nodeB z = true) (hi : inc ≤ 4294967295) (hS : SSt w A n l) (hl : ∀ s ∈ l, okSt s) (hnc : n ≤ c) (hm : c ≤ maxLen) :
    Calls Try.prog 3 #[.int .i64 z, .int .u32 (inc : Int), .slice A n c] w fun e w' => e = .returned (.bool true) ∧ Below w.heap.size w w' := by
  have HNew := Lib.hid (pnew_yes z inc w hnb)
  have HRNew := Lib.hid (fun w => rnew_yes z inc w hnb)
  have HInc := Lib.hid hi
  have HLn := Lib.hid hS.1
  have HSt := Lib.hid hS
  have HLo := Lib.hid hl
  have HWk := Lib.hid (fun w => works_any w)
  have hm' : (n : Int) ≤ 9223372036854775807 := by unfold maxLen at hm; omega
  clear hi hS hl hm hnb hnc
  go_enter Try.func3, Try.ntmps3
  go_wp2_with fail
  refine HNew.out.mono ?_
  rintro e w1 ⟨B, M, rfl, hR, hB, hM, hb1⟩
  have HR1 := Lib.hid hR
  have HM1 := Lib.hid hM
  have HB1 := Lib.hid hb1
  clear hR hB hM hb1
  go_wp2_with fail
  refine (HRNew.out w1).mono ?_
  rintro e w2 ⟨B2, v, rfl, hRr, hB2, hb⟩
  obtain ⟨base, hbase⟩ : ∃ base, w1.heap.size = base := ⟨_, rfl⟩
  rw [hbase] at hRr hB2
  have HMs : Hid (w.heap.size ≤ M ∧ w.heap.size ≤ B2 ∧ base ≤ B2) := Lib.hid ⟨HM1.out, by have := HB1.out.size; omega, hB2⟩
  have HStart : Hid (PlInv w w2 base B M B2 0) := Lib.hid ⟨Ro.new z inc, HR1.out.below hb, ⟨v, hRr⟩, Ro.small.new HInc.out, HB1.out.trans (hb.mono HB1.out.size)⟩
  have HBase : Hid (base ≤ w2.heap.size) := Lib.hid (by have := hb.size; omega)
  clear hRr hB2 hb hbase
  go_wp2
  go_loopw [10] (fun i wr => ∃ k : Nat, k ≤ n ∧ k ≤ 80 ∧ i = .int .i64 (k : Int) ∧ Hid (PlInv w wr base B M B2 k)) (fun i _ => n - (intOf i).toNat)
  case atStart => exact ⟨0, Nat.zero_le _, Nat.zero_le _, rfl, HStart⟩
  case round =>
    obtain ⟨k, hk, hk80, rfl, HI⟩ := hrel
    obtain ⟨wo, hwo⟩ : ∃ wo, wo = wr := ⟨_, rfl⟩
    subst hwo
    obtain ⟨r, hR, ⟨v, hRr⟩, hsm, hbr⟩ := HI.out
    have HBr := Lib.hid hbr
    clear hbr
    by_cases hlt : k < n
    · by_cases h80 : k < 80
      · have hkl : k < l.length := by have := HLn.out; omega
        obtain ⟨b, off, rfl, _⟩ := (HSt.out.of_block HBr.out).at_ hlt hkl
        obtain ⟨x, hx⟩ : ∃ x, l[k] = x := ⟨_, rfl⟩
        have hxo : okSt x := by rw [← hx]; exact HLo.out _ (List.getElem_mem hkl)
        have HWx : Hid (wfI x.u.node) := Lib.hid hxo.1
        have hxi : x.u.inc ≤ 4294967295 := by have := hxo.2.1; omega
        have HXk := Lib.hid hx
        have q1 : (k : Int) < (n : Int) := by omega
        have q0 : (0 : Int) ≤ (k : Int) := by omega
        have q80 : (k : Int) < 80 := by omega
        have HR := Lib.hid hR
        have HRr := Lib.hid hRr
        have HSm := Lib.hid hsm
        obtain ⟨hk0, hk1, hk2, hk3⟩ := (HSt.out.of_block HBr.out).up hkl
        rw [hx] at hk0 hk1 hk2 hk3
        clear hx hxo hR hRr hsm
        by_cases hkd : x.kind = 1
        · have zk : (x.kind == 1) = true := by rw [beq_iff_eq]; exact hkd
          obtain ⟨lu, li, r2, hlv⟩ : ∃ lu lis r2, r.leave = (lu, lis, r2) := ⟨_, _, _, rfl⟩
          have HSm2 : Hid r2.small := Lib.hid (by have := HSm.out.leave HR.out.ok; rw [hlv] at this; exact this)
          have HLv := Lib.hid (leave_any wo HR.out (by omega) lu li r2 hlv)
          have HRLv := Lib.hid (fun w v (h : RrAt w base B2 v r) (hb : base ≤ w.heap.size) => rleave_any w h hb lu li r2 hlv)
          clear hkd hlv
          go_wp2_with fail
          refine HLv.out.mono ?_
          clear HLv hk0 hk1 hk2 hk3
          rintro e w2 ⟨rfl, hR2, hb⟩
          have HR2 := Lib.hid hR2
          have HRr2 := Lib.hid (HRr.out.but_map HR.out.map hb)
          have HB2 := Lib.hid (show Below w.heap.size w w2 from HBr.out.trans (hb.below HBr.out.size (fun k hk e => by have := HMs.out.1; omega)))
          clear hR2 hb
          have hb := below1 w2 (.cells #[.int .i64 lu.node, .int .u32 (lu.inc : Int), .int .i64 lu.st] 32)
          have hk := heap_alloc_new w2 (.cells #[.int .i64 lu.node, .int .u32 (lu.inc : Int), .int .i64 lu.st] 32)
          obtain ⟨Ya, hY⟩ : ∃ Y, w2.heap.size = Y := ⟨_, rfl⟩
          obtain ⟨w3, hw⟩ : ∃ wq, w2.alloc (.cells #[.int .i64 lu.node, .int .u32 (lu.inc : Int), .int .i64 lu.st] 32) = wq := ⟨_, rfl⟩
          rw [hw] at hb hk
          rw [hY] at hk
          have HN_w3 := Lib.hid hw
          have HS_w3 := Lib.hid hY
          have HR3 := Lib.hid (HR2.out.below hb)
          have HRr3 := Lib.hid (HRr2.out.below hb)
          have HB3 := Lib.hid (HB2.out.trans (hb.mono HB2.out.size))
          have HKa3 := Lib.hid hk
          clear hb hk hw hY
          go_wp2_with fail
          rw [HN_w3.out, HS_w3.out]
          refine (HRLv.out w3 _ HRr3.out (by have := block_lt HRr3.out.blk; have := HMs.out.2.2; omega)).mono ?_
          clear HRLv
          rintro e w4 ⟨rfl, ⟨v2, hRr4⟩, hb⟩
          have HR4 := Lib.hid (HR3.out.but_ref HRr3.out hb)
          have hka := (hb.block Ya (block_lt HKa3.out) (fun e => by have e2 : Ya = B2 := e; have h1 := HRr3.out.blk; rw [← e2, HKa3.out] at h1; simp at h1)).trans HKa3.out
          have HB4 := Lib.hid (show Below w.heap.size w w4 from HB3.out.trans (hb.below HB3.out.size (fun k hk e => by have := HMs.out.2.1; omega)))
          obtain ⟨a0, a1, a2⟩ := blk3 hka
          have hla := block_lt hka
          have ug := up_guard
          have ue : ∀ w, (Op.equalIn 10000 32 (.agg #[.int .i64 lu.node, .int .u32 (lu.inc : Int), .int .i64 lu.st]) (.agg #[.int .i64 lu.node, .int .u32 (lu.inc : Int), .int .i64 lu.st])).run Try.prog w = .ok true w := fun w => by rw [up_eq, decide_eq_true rfl]
          have zi : (li != li) = false := by simp
          clear hb hka
          have hb := below1 w4 (.cells #[.int .i64 lu.node, .int .u32 (lu.inc : Int), .int .i64 lu.st] 32)
          have hk := heap_alloc_new w4 (.cells #[.int .i64 lu.node, .int .u32 (lu.inc : Int), .int .i64 lu.st] 32)
          obtain ⟨Yb, hY⟩ : ∃ Y, w4.heap.size = Y := ⟨_, rfl⟩
          obtain ⟨w5, hw⟩ : ∃ wq, w4.alloc (.cells #[.int .i64 lu.node, .int .u32 (lu.inc : Int), .int .i64 lu.st] 32) = wq := ⟨_, rfl⟩
          rw [hw] at hb hk
          rw [hY] at hk
          have HN_w5 := Lib.hid hw
          have HS_w5 := Lib.hid hY
          have HR5 := Lib.hid (HR4.out.below hb)
          have hRr5 := hRr4.below hb
          have HB5 := Lib.hid (HB4.out.trans (hb.mono HB4.out.size))
          clear hb hk hw hY hRr4
          obtain ⟨A6, c6, rfl, hS6, hn6, hm6⟩ := hRr5.sup
          obtain ⟨L, hL⟩ : ∃ L, listTo r2.T 8 = L := ⟨_, rfl⟩
          rw [hL] at hS6 hn6 hRr5
          obtain ⟨g, hg⟩ : ∃ g, atU r2.T x.u.node = g := ⟨_, rfl⟩
          obtain ⟨ig, hig⟩ : ∃ g, (r2.T x.u.node).isSome = g := ⟨_, rfl⟩
          obtain ⟨s, hs⟩ : ∃ s, r2.selfU = s := ⟨_, rfl⟩
          have HGt := Lib.hid (get_any x.u.node HWx.out w5 HR5.out)
          rw [hg, hig] at HGt
          have hok5 := hRr5.ok
          have HFd0 : Hid (∀ w', SUp w' A6 L.length L → Calls Try.prog 16 #[.slice A6 L.length c6, .int .i64 x.u.node] w' fun e w2 => e = .returned (.tuple #[.agg #[.int .i64 g.node, .int .u32 (g.inc : Int), .int .i64 g.st], .bool ig]) ∧ Below w'.heap.size w' w2) := Lib.hid (fun w' h => by
            have h2 := rfind_any A6 L.length c6 L x.u.node w' h hn6 hm6
            unfold foundU at h2
            rw [← hL, hok5.find] at h2
            rw [hL] at h2
            have e : (r2.T x.u.node).getD zeroUp = g := hg
            rw [e, hig] at h2
            exact h2)
          have HLi : Hid (∀ w, RlAt w B M r2 (k + 1 + 1) → Calls Try.prog 20 #[.pointer (some ⟨B, 0, none⟩)] w (JoinPost w L)) := Lib.hid (fun w h => by have := list_any w h; rw [hL] at this; exact this)
          have HSf : Hid (∀ w, RlAt w B M r2 (k + 1 + 1) → Calls Try.prog 17 #[.pointer (some ⟨B, 0, none⟩)] w fun e w' => e = .returned (.agg #[.int .i64 s.node, .int .u32 (s.inc : Int), .int .i64 s.st]) ∧ Below w.heap.size w w') := Lib.hid (fun w h => by have := self_any w h; rw [hs] at this; exact this)
          have HSr : Hid (∀ w, RrAt w base B2 (.slice A6 L.length c6) r2 → Calls Try.prog 18 #[.pointer (some ⟨B2, 0, none⟩)] w fun e w' => e = .returned (.agg #[.int .i64 s.node, .int .u32 (s.inc : Int), .int .i64 s.st]) ∧ Below w.heap.size w w') := Lib.hid (fun w h => by have := rself_any w h; rw [hs] at this; exact this)
          have HEq : Hid (∀ w, (Op.equalIn 10000 32 (.agg #[.int .i64 g.node, .int .u32 (g.inc : Int), .int .i64 g.st]) (.agg #[.int .i64 g.node, .int .u32 (g.inc : Int), .int .i64 g.st])).run Try.prog w = .ok true w) := Lib.hid (fun w => by rw [up_eq, decide_eq_true rfl])
          have HEs : Hid (∀ w, (Op.equalIn 10000 32 (.agg #[.int .i64 s.node, .int .u32 (s.inc : Int), .int .i64 s.st]) (.agg #[.int .i64 s.node, .int .u32 (s.inc : Int), .int .i64 s.st])).run Try.prog w = .ok true w) := Lib.hid (fun w => by rw [up_eq, decide_eq_true rfl])
          have HRr5 := Lib.hid hRr5
          have HS6 := Lib.hid hS6
          have HL := Lib.hid hL
          clear hRr5 hS6 hn6 hm6 hL hg hig hs hok5
          obtain ⟨hk0, hk1, hk2, hk3⟩ := (HSt.out.of_block HB4.out).up hkl
          rw [HXk.out] at hk0 hk1 hk2 hk3
          have hbl4 : b < w4.heap.size := bcell_lt hk0
          go_wp2_with fail
          rw [HN_w5.out]
          refine HGt.out.mono ?_
          rintro e w6 ⟨rfl, hb⟩
          have HR6 := Lib.hid (HR5.out.below hb)
          have HRr6 := Lib.hid (HRr5.out.below hb)
          have HS66 := Lib.hid (HS6.out.of_block hb)
          have HB6 := Lib.hid (HB5.out.trans (hb.mono HB5.out.size))
          clear hb hk0 hk1 hk2 hk3 hbl4 HGt hla a0 a1 a2 ue zi
          have hb := below1 w6 (.cells #[.int .i64 g.node, .int .u32 (g.inc : Int), .int .i64 g.st] 32)
          have hk := heap_alloc_new w6 (.cells #[.int .i64 g.node, .int .u32 (g.inc : Int), .int .i64 g.st] 32)
          obtain ⟨Yu, hY⟩ : ∃ Y, w6.heap.size = Y := ⟨_, rfl⟩
          obtain ⟨wz, hw⟩ : ∃ wq, w6.alloc (.cells #[.int .i64 g.node, .int .u32 (g.inc : Int), .int .i64 g.st] 32) = wq := ⟨_, rfl⟩
          rw [hw] at hb hk
          rw [hY] at hk
          have HN_wz := Lib.hid hw
          have HS_wz := Lib.hid hY
          have HRz := Lib.hid (HR6.out.below hb)
          have HRrz := Lib.hid (HRr6.out.below hb)
          have HSz := Lib.hid (HS66.out.of_block hb)
          have HBz := Lib.hid (HB6.out.trans (hb.mono HB6.out.size))
          have HKu := Lib.hid hk
          clear hb hk hw hY
          obtain ⟨G, hG⟩ : ∃ G, wz.heap.size = G := ⟨_, rfl⟩
          have HFd : Hid (∀ w', Below wz.heap.size wz w' → Calls Try.prog 16 #[.slice A6 L.length c6, .int .i64 x.u.node] w' fun e w2 => e = .returned (.tuple #[.agg #[.int .i64 g.node, .int .u32 (g.inc : Int), .int .i64 g.st], .bool ig]) ∧ Below w'.heap.size w' w2) := Lib.hid (fun w' hb => HFd0.out w' (HSz.out.of_block hb))
          have HC : Hid (∀ w', LeT G wz w' → w'.cell? ⟨B2, 1, none⟩ = some (.slice A6 L.length c6) ∧ w'.cell? ⟨b, off + k * 4 + 1, none⟩ = some (.int .i64 x.u.node)) := Lib.hid (fun w' hle => by
            have hb' : Below wz.heap.size wz w' := hle.but.below (Nat.le_refl _) (fun k hk h => by omega)
            refine ⟨(HRrz.out.below hb').c1, ?_⟩
            have := ((HSt.out.of_block HBz.out).of_block hb').up hkl
            rw [HXk.out] at this
            exact this.2.1)
          have HG := Lib.hid hG
          clear hG
          go_wp2
          rw [HN_wz.out, HS_wz.out]
          refine Go.Rel.wp_region_acts (by kernel_rfl) (by kernel_rfl) (by kernel_rfl) (by kernel_rfl) (fun f a' w' => f 15 = true → Holds G g 21 a' w') (LeT G) (fun _ _ _ h k => h.trans k) ⟨(But.refl _ _).drew, fun B u0 u1 u2 _ h => ⟨u0, u1, u2, h⟩⟩ (fun h => by cases h) (plF G B2 A6 L c6 b off n c k x.u g ig) (plF_stable G B2 A6 L c6 b off n c k x.u g ig) ?hs1 ?he1
          case hs1 =>
            refine (.cons ?_ (.cons ?_ (.cons ?_ (.cons ?_ (.cons ?_ (.cons ?_ (.cons ?_ (.cons ?_ (.cons ?_ (.cons ?_ (.cons ?_ (.cons ?_ (.cons ?_ (.cons ?_ (.cons ?_ (.cons ?_ (.cons ?_ .nil)))))))))))))))))
            · intro f a' w' hI hf hanc hdesc hle hs' hd K hK
              have f9 : a'.tmps[9]? = some (.pointer (some ⟨B2, 0, none⟩)) := hs'.2.2 9 (by kernel_rfl)
              unfold Go.Rel.stepOf
              go_simp
              exact hK _ _ (LeT.refl _ _) (fun h => Holds.keep (hI (by simpa [Go.Rel.upd] using h)) (Below.refl _ _) (by decide) _) rfl
            · intro f a' w' hI hf hanc hdesc hle hs' hd K hK
              obtain ⟨_, t0, rfl⟩ := hd 0 115 (by kernel_rfl)
              unfold Go.Rel.stepOf
              go_simp
              exact hK _ _ (LeT.refl _ _) (fun h => Holds.keep (hI (by simpa [Go.Rel.upd] using h)) (Below.refl _ _) (by decide) _) rfl
            · intro f a' w' hI hf hanc hdesc hle hs' hd K hK
              obtain ⟨_, t1, rfl⟩ := hd 1 116 (by kernel_rfl)
              unfold Go.Rel.stepOf
              go_simp
              exact hK _ _ (LeT.refl _ _) (fun h => Holds.keep (hI (by simpa [Go.Rel.upd] using h)) (Below.refl _ _) (by decide) _) rfl
            · intro f a' w' hI hf hanc hdesc hle hs' hd K hK
              obtain ⟨_, t2, rfl⟩ := hd 2 117 (by kernel_rfl)
              obtain ⟨y0, y1⟩ := HC.out w' hle
              unfold Go.Rel.stepOf
              go_simp
              exact hK _ _ (LeT.refl _ _) (fun h => Holds.keep (hI (by simpa [Go.Rel.upd] using h)) (Below.refl _ _) (by decide) _) rfl
            · intro f a' w' hI hf hanc hdesc hle hs' hd K hK
              have f2 : a'.tmps[2]? = some (.slice ((some ⟨b, off, none⟩)) n c) := hs'.2.2 2 (by kernel_rfl)
              unfold Go.Rel.stepOf
              go_simp
              exact hK _ _ (LeT.refl _ _) (fun h => Holds.keep (hI (by simpa [Go.Rel.upd] using h)) (Below.refl _ _) (by decide) _) rfl
            · intro f a' w' hI hf hanc hdesc hle hs' hd K hK
              have f10 : a'.tmps[10]? = some (.int .i64 (k : Int)) := hs'.2.2 10 (by kernel_rfl)
              unfold Go.Rel.stepOf
              go_simp
              exact hK _ _ (LeT.refl _ _) (fun h => Holds.keep (hI (by simpa [Go.Rel.upd] using h)) (Below.refl _ _) (by decide) _) rfl
            · intro f a' w' hI hf hanc hdesc hle hs' hd K hK
              obtain ⟨_, t4, rfl⟩ := hd 4 119 (by kernel_rfl)
              obtain ⟨_, t5, rfl⟩ := hd 5 120 (by kernel_rfl)
              unfold Go.Rel.stepOf
              go_simp
              exact hK _ _ (LeT.refl _ _) (fun h => Holds.keep (hI (by simpa [Go.Rel.upd] using h)) (Below.refl _ _) (by decide) _) rfl
            · intro f a' w' hI hf hanc hdesc hle hs' hd K hK
              obtain ⟨_, t6, rfl⟩ := hd 6 121 (by kernel_rfl)
              unfold Go.Rel.stepOf
              go_simp
              exact hK _ _ (LeT.refl _ _) (fun h => Holds.keep (hI (by simpa [Go.Rel.upd] using h)) (Below.refl _ _) (by decide) _) rfl
            · intro f a' w' hI hf hanc hdesc hle hs' hd K hK
              obtain ⟨_, t7, rfl⟩ := hd 7 122 (by kernel_rfl)
              unfold Go.Rel.stepOf
              go_simp
              exact hK _ _ (LeT.refl _ _) (fun h => Holds.keep (hI (by simpa [Go.Rel.upd] using h)) (Below.refl _ _) (by decide) _) rfl
            · intro f a' w' hI hf hanc hdesc hle hs' hd K hK
              obtain ⟨_, t8, rfl⟩ := hd 8 123 (by kernel_rfl)
              obtain ⟨y0, y1⟩ := HC.out w' hle
              unfold Go.Rel.stepOf
              go_simp
              exact hK _ _ (LeT.refl _ _) (fun h => Holds.keep (hI (by simpa [Go.Rel.upd] using h)) (Below.refl _ _) (by decide) _) rfl
            · intro f a' w' hI hf hanc hdesc hle hs' hd K hK
              obtain ⟨_, t3, rfl⟩ := hd 3 118 (by kernel_rfl)
              obtain ⟨_, t9, rfl⟩ := hd 9 124 (by kernel_rfl)
              unfold Go.Rel.stepOf
              go_simp
              refine (HFd.out w' (hle.but.below (Nat.le_refl _) (fun k hk hG => by have := HG.out; omega))).mono ?_
              rintro e w6 ⟨rfl, hb6⟩
              exact hK _ _ (LeT.of_below hb6) (fun h => Holds.keep (hI (by simpa [Go.Rel.upd] using h)) hb6 (by decide) _) rfl
            · intro f a' w' hI hf hanc hdesc hle hs' hd K hK
              obtain ⟨_, t10, rfl⟩ := hd 10 125 (by kernel_rfl)
              unfold Go.Rel.stepOf
              go_simp
              exact hK _ _ (LeT.refl _ _) (fun h => Holds.keep (hI (by simpa [Go.Rel.upd] using h)) (Below.refl _ _) (by decide) _) rfl
            · intro f a' w' hI hf hanc hdesc hle hs' hd K hK
              obtain ⟨_, t11, rfl⟩ := hd 11 114 (by kernel_rfl)
              unfold Go.Rel.stepOf
              go_simp
              exact hK _ _ (LeT.refl _ _) (fun h => Holds.keep (hI (by simpa [Go.Rel.upd] using h)) (Below.refl _ _) (by decide) _) rfl
            · intro f a' w' hI hf hanc hdesc hle hs' hd K hK
              obtain ⟨_, t11, rfl⟩ := hd 11 114 (by kernel_rfl)
              unfold Go.Rel.stepOf
              go_simp
              exact hK _ _ (LeT.refl _ _) (fun h => Holds.keep (hI (by simpa [Go.Rel.upd] using h)) (Below.refl _ _) (by decide) _) rfl
            · intro f a' w' hI hf hanc hdesc hle hs' hd K hK
              have zS := hdesc 12 15 (by kernel_rfl)
              have hz := hle.but.size
              unfold Go.Rel.stepOf
              go_simp
              exact hK _ _ (LeT.of_below (below1 _ _)) (fun h => by simp [Go.Rel.upd, zS] at h) ⟨_, rfl, by have := HG.out; omega, _, _, _, heap_alloc_new _ _⟩
            · intro f a' w' hI hf hanc hdesc hle hs' hd K hK
              obtain ⟨_, ta, B, rfl, hB, u0, u1, u2, hh⟩ := hd 14 21 (by kernel_rfl)
              obtain ⟨_, tb, rfl⟩ := hd 12 126 (by kernel_rfl)
              obtain ⟨b0, b1, b2⟩ := blk3 hh
              have g0 := blk_froz hh 0
              have g1 := blk_froz hh 1
              have g2 := blk_froz hh 2
              unfold Go.Rel.stepOf
              go_simp
              exact hK undef _ (LeT.set w' hB hh _ _ _) (fun _ => ⟨B, ta, hB, set3_blk hh _ _ _⟩) trivial
            · intro f a' w' hI hf hanc hdesc hle hs' hd K hK
              obtain ⟨_, t13, rfl⟩ := hd 13 127 (by kernel_rfl)
              unfold Go.Rel.stepOf
              go_simp
              exact hK _ _ (LeT.refl _ _) (fun h => Holds.keep (hI (by simpa [Go.Rel.upd] using h)) (Below.refl _ _) (by decide) _) rfl
          case he1 =>
            intro f a' w7 hall hI hle hs' hR'
            obtain ⟨B7, s21, hB7, hh7⟩ := hI (hall 15 (by decide))
            obtain ⟨v115, s115, _⟩ := hR' 0 115 (by kernel_rfl)
            obtain ⟨v116, s116, _⟩ := hR' 1 116 (by kernel_rfl)
            obtain ⟨v117, s117, _⟩ := hR' 2 117 (by kernel_rfl)
            obtain ⟨v118, s118, _⟩ := hR' 3 118 (by kernel_rfl)
            obtain ⟨v119, s119, _⟩ := hR' 4 119 (by kernel_rfl)
            obtain ⟨v120, s120, _⟩ := hR' 5 120 (by kernel_rfl)
            obtain ⟨v121, s121, _⟩ := hR' 6 121 (by kernel_rfl)
            obtain ⟨v122, s122, _⟩ := hR' 7 122 (by kernel_rfl)
            obtain ⟨v123, s123, _⟩ := hR' 8 123 (by kernel_rfl)
            obtain ⟨v124, s124, _⟩ := hR' 9 124 (by kernel_rfl)
            obtain ⟨v125, s125, _⟩ := hR' 10 125 (by kernel_rfl)
            obtain ⟨v114, s114, _⟩ := hR' 11 114 (by kernel_rfl)
            obtain ⟨v126, s126, _⟩ := hR' 12 126 (by kernel_rfl)
            obtain ⟨v127, s127, _⟩ := hR' 13 127 (by kernel_rfl)
            obtain ⟨_, s22, rfl⟩ := hR' 16 22 (by kernel_rfl)
            have e := hs'.shape
            simp only [List.toList_toArray, List.foldl, Go.Rel.reset, Array.getD_eq_getD_getElem?, s21, s115, s116, s117, s118, s119, s120, s121, s122, s123, s124, s125, s114, s126, s127, s22, Option.getD_some] at e
            simp at e
            have HL7 := Lib.hid hle
            have HH7 := Lib.hid hh7
            have HB7 := Lib.hid hB7
            clear hR' hs' hI hall hle hh7 hB7 s21 s115 s116 s117 s118 s119 s120 s121 s122 s123 s124 s125 s114 s126 s127 s22
            subst e
            have hb7 : Below wz.heap.size wz w7 := HL7.out.but.below (Nat.le_refl _) (fun k hk hG => by have := HG.out; omega)
            have HR7 := Lib.hid (HRz.out.below hb7)
            have HRr7 := Lib.hid (HRrz.out.below hb7)
            have HS7 := Lib.hid (HSz.out.of_block hb7)
            have HBq := Lib.hid (HBz.out.trans (hb7.mono HBz.out.size))
            have HKu7 := Lib.hid ((hb7.block Yu (block_lt HKu.out)).trans HKu.out)
            have HRl : Hid (∀ w', Go.Rel.Grew w7 w' → RlAt w' B M r2 (k + 1 + 1)) := Lib.hid (fun w' hle => HR7.out.below hle)
            have HRr : Hid (∀ w', Go.Rel.Grew w7 w' → RrAt w' base B2 (.slice A6 L.length c6) r2) := Lib.hid (fun w' hle => HRr7.out.below hle)
            have HSu : Hid (∀ w', Go.Rel.Grew w7 w' → SUp w' A6 L.length L) := Lib.hid (fun w' hle => HS7.out.of_block hle)
            have HCo := HC
            clear HC
            have HC : Hid (∀ w', Go.Rel.Grew w7 w' → UpAt w' Yu 0 g ∧ UpAt w' B7 0 g ∧ w'.cell? ⟨B2, 1, none⟩ = some (.slice A6 L.length c6)) := Lib.hid (fun w' hle => by
              have hle' : Below w7.heap.size w7 w' := hle
              refine ⟨blk3 ((hle'.block Yu (block_lt HKu7.out)).trans HKu7.out), blk3 ((hle'.block B7 (block_lt HH7.out)).trans HH7.out), (HRr7.out.below hle').c1⟩)
            clear hb7 HCo HFd HFd0
            go_wp2
            refine Go.Rel.wp_region_grew (by kernel_rfl) (by kernel_rfl) (by kernel_rfl) (by kernel_rfl) (plT Yu B7 B2 B A6 L c6 g ig s) (plT_stable Yu B7 B2 B A6 L c6 g ig s) ?hs1b ?he1b
            case hs1b =>
              refine (.cons ?_ (.cons ?_ (.cons ?_ (.cons ?_ (.cons ?_ (.cons ?_ (.cons ?_ (.cons ?_ (.cons ?_ (.cons ?_ (.cons ?_ (.cons ?_ (.cons ?_ (.cons ?_ (.cons ?_ (.cons ?_ (.cons ?_ (.cons ?_ (.cons ?_ (.cons ?_ (.cons ?_ (.cons ?_ (.cons ?_ (.cons ?_ (.cons ?_ .nil)))))))))))))))))))))))))
              · intro a w' hle hs' hd K hK
                have f19 : a.tmps[19]? = some (.pointer (some ⟨Yu, 0, none⟩)) := hs'.2.2 19 (by kernel_rfl)
                obtain ⟨⟨x0, x1, x2⟩, ⟨y0, y1, y2⟩, y3⟩ := HC.out w' hle
                unfold Go.Rel.stepOf
                go_simp
                exact hK _ _ (Go.Rel.Grew.refl _) rfl
              · intro a w' hle hs' hd K hK
                have f21 : a.tmps[21]? = some (.pointer (some ⟨B7, 0, none⟩)) := hs'.2.2 21 (by kernel_rfl)
                obtain ⟨⟨x0, x1, x2⟩, ⟨y0, y1, y2⟩, y3⟩ := HC.out w' hle
                unfold Go.Rel.stepOf
                go_simp
                exact hK _ _ (Go.Rel.Grew.refl _) rfl
              · intro a w' hle hs' hd K hK
                obtain ⟨_, t0, rfl⟩ := hd 0 128 (by kernel_rfl)
                obtain ⟨_, t1, rfl⟩ := hd 1 129 (by kernel_rfl)
                have ug := up_guard
                have ue := HEq.out
                unfold Go.Rel.stepOf
                go_simp
                exact hK _ _ (Go.Rel.Grew.refl _) rfl
              · intro a w' hle hs' hd K hK
                obtain ⟨_, t2, rfl⟩ := hd 2 130 (by kernel_rfl)
                unfold Go.Rel.stepOf
                go_simp
                exact hK _ _ (Go.Rel.Grew.refl _) rfl
              · intro a w' hle hs' hd K hK
                obtain ⟨_, tg, rfl⟩ := hd 3 131 (by kernel_rfl)
                have f20 : a.tmps[20]? = some (.bool ig) := hs'.2.2 20 (by kernel_rfl)
                unfold Go.Rel.stepOf
                go_simp
                exact hK _ _ (Go.Rel.Grew.refl _) rfl
              · intro a w' hle hs' hd K hK
                obtain ⟨_, tg, rfl⟩ := hd 3 131 (by kernel_rfl)
                have f22 : a.tmps[22]? = some (.bool ig) := hs'.2.2 22 (by kernel_rfl)
                unfold Go.Rel.stepOf
                go_simp
                exact hK _ _ (Go.Rel.Grew.refl _) rfl
              · intro a w' hle hs' hd K hK
                obtain ⟨_, tg, rfl⟩ := hd 3 131 (by kernel_rfl)
                obtain ⟨_, t4, rfl⟩ := hd 4 132 (by kernel_rfl)
                obtain ⟨_, t5, rfl⟩ := hd 5 133 (by kernel_rfl)
                have zi : (ig != ig) = false := by simp
                unfold Go.Rel.stepOf
                go_simp
                exact hK _ _ (Go.Rel.Grew.refl _) rfl
              · intro a w' hle hs' hd K hK
                obtain ⟨_, t3, rfl⟩ := hd 3 131 (by kernel_rfl)
                obtain ⟨_, t6, rfl⟩ := hd 6 134 (by kernel_rfl)
                unfold Go.Rel.stepOf
                go_simp
                exact hK _ _ (Go.Rel.Grew.refl _) rfl
              · intro a w' hle hs' hd K hK
                obtain ⟨_, t7, rfl⟩ := hd 7 135 (by kernel_rfl)
                unfold Go.Rel.stepOf
                go_simp
                exact hK _ _ (Go.Rel.Grew.refl _) rfl
              · intro a w' hle hs' hd K hK
                obtain ⟨_, tg, rfl⟩ := hd 8 136 (by kernel_rfl)
                have f7 : a.tmps[7]? = some (.pointer (some ⟨B, 0, none⟩)) := hs'.2.2 7 (by kernel_rfl)
                unfold Go.Rel.stepOf
                go_simp
                exact hK _ _ (Go.Rel.Grew.refl _) rfl
              · intro a w' hle hs' hd K hK
                obtain ⟨_, tg, rfl⟩ := hd 8 136 (by kernel_rfl)
                obtain ⟨_, t9, rfl⟩ := hd 9 137 (by kernel_rfl)
                unfold Go.Rel.stepOf
                go_simp
                refine (HSf.out w' (HRl.out w' hle)).mono ?_
                rintro e w5 ⟨rfl, hb5⟩
                exact hK _ _ hb5 rfl
              · intro a w' hle hs' hd K hK
                obtain ⟨_, tg, rfl⟩ := hd 8 136 (by kernel_rfl)
                have f9 : a.tmps[9]? = some (.pointer (some ⟨B2, 0, none⟩)) := hs'.2.2 9 (by kernel_rfl)
                unfold Go.Rel.stepOf
                go_simp
                exact hK _ _ (Go.Rel.Grew.refl _) rfl
              · intro a w' hle hs' hd K hK
                obtain ⟨_, tg, rfl⟩ := hd 8 136 (by kernel_rfl)
                obtain ⟨_, t11, rfl⟩ := hd 11 139 (by kernel_rfl)
                unfold Go.Rel.stepOf
                go_simp
                refine (HSr.out w' (HRr.out w' hle)).mono ?_
                rintro e w5 ⟨rfl, hb5⟩
                exact hK _ _ hb5 rfl
              · intro a w' hle hs' hd K hK
                obtain ⟨_, tg, rfl⟩ := hd 8 136 (by kernel_rfl)
                obtain ⟨_, t10, rfl⟩ := hd 10 138 (by kernel_rfl)
                obtain ⟨_, t12, rfl⟩ := hd 12 140 (by kernel_rfl)
                have ug := up_guard
                have ue := HEs.out
                unfold Go.Rel.stepOf
                go_simp
                exact hK _ _ (Go.Rel.Grew.refl _) rfl
              · intro a w' hle hs' hd K hK
                obtain ⟨_, t8, rfl⟩ := hd 8 136 (by kernel_rfl)
                obtain ⟨_, t13, rfl⟩ := hd 13 141 (by kernel_rfl)
                unfold Go.Rel.stepOf
                go_simp
                exact hK _ _ (Go.Rel.Grew.refl _) rfl
              · intro a w' hle hs' hd K hK
                obtain ⟨_, t14, rfl⟩ := hd 14 142 (by kernel_rfl)
                unfold Go.Rel.stepOf
                go_simp
                exact hK _ _ (Go.Rel.Grew.refl _) rfl
              · intro a w' hle hs' hd K hK
                obtain ⟨_, tg, rfl⟩ := hd 15 143 (by kernel_rfl)
                have f7 : a.tmps[7]? = some (.pointer (some ⟨B, 0, none⟩)) := hs'.2.2 7 (by kernel_rfl)
                unfold Go.Rel.stepOf
                go_simp
                exact hK _ _ (Go.Rel.Grew.refl _) rfl
              · intro a w' hle hs' hd K hK
                obtain ⟨_, tg, rfl⟩ := hd 15 143 (by kernel_rfl)
                obtain ⟨_, t16, rfl⟩ := hd 16 144 (by kernel_rfl)
                unfold Go.Rel.stepOf
                go_simp
                refine (HLi.out w' (HRl.out w' hle)).mono ?_
                rintro e w5 ⟨A5, c5, rfl, hS5, hn5, hm5, hb5⟩
                exact hK _ _ hb5 ⟨A5, c5, rfl, hS5, hn5, hm5⟩
              · intro a w' hle hs' hd K hK
                obtain ⟨_, tg, rfl⟩ := hd 15 143 (by kernel_rfl)
                have f9 : a.tmps[9]? = some (.pointer (some ⟨B2, 0, none⟩)) := hs'.2.2 9 (by kernel_rfl)
                unfold Go.Rel.stepOf
                go_simp
                exact hK _ _ (Go.Rel.Grew.refl _) rfl
              · intro a w' hle hs' hd K hK
                obtain ⟨_, tg, rfl⟩ := hd 15 143 (by kernel_rfl)
                obtain ⟨_, t18, rfl⟩ := hd 18 146 (by kernel_rfl)
                unfold Go.Rel.stepOf
                go_simp
                exact hK _ _ (Go.Rel.Grew.refl _) rfl
              · intro a w' hle hs' hd K hK
                obtain ⟨_, tg, rfl⟩ := hd 15 143 (by kernel_rfl)
                obtain ⟨_, t19, rfl⟩ := hd 19 147 (by kernel_rfl)
                unfold Go.Rel.stepOf
                go_simp
                exact hK _ _ (Go.Rel.Grew.refl _) rfl
              · intro a w' hle hs' hd K hK
                obtain ⟨_, tg, rfl⟩ := hd 15 143 (by kernel_rfl)
                obtain ⟨_, t20, rfl⟩ := hd 20 148 (by kernel_rfl)
                obtain ⟨⟨x0, x1, x2⟩, ⟨y0, y1, y2⟩, y3⟩ := HC.out w' hle
                unfold Go.Rel.stepOf
                go_simp
                exact hK _ _ (Go.Rel.Grew.refl _) rfl
              · intro a w' hle hs' hd K hK
                obtain ⟨_, tg, rfl⟩ := hd 15 143 (by kernel_rfl)
                obtain ⟨_, t17, A17, c17, rfl, hs17, hn17, hm17⟩ := hd 17 145 (by kernel_rfl)
                obtain ⟨_, t21, rfl⟩ := hd 21 149 (by kernel_rfl)
                unfold Go.Rel.stepOf
                go_simp
                refine (same_yes A17 L.length c17 A6 L.length c6 L w' hs17 (HSu.out w' hle) hn17 hm17).mono ?_
                rintro e w5 ⟨rfl, hb5⟩
                exact hK _ _ hb5 rfl
              · intro a w' hle hs' hd K hK
                obtain ⟨_, tg, rfl⟩ := hd 15 143 (by kernel_rfl)
                obtain ⟨_, t22, rfl⟩ := hd 22 150 (by kernel_rfl)
                unfold Go.Rel.stepOf
                go_simp
                exact hK _ _ (Go.Rel.Grew.refl _) rfl
              · intro a w' hle hs' hd K hK
                obtain ⟨_, t15, rfl⟩ := hd 15 143 (by kernel_rfl)
                obtain ⟨_, t23, rfl⟩ := hd 23 151 (by kernel_rfl)
                unfold Go.Rel.stepOf
                go_simp
                exact hK _ _ (Go.Rel.Grew.refl _) rfl
            case he1b =>
              intro a3 wf hle hs' hR'
              have HLf := Lib.hid hle
              clear hle
              obtain ⟨v128, s128, _⟩ := hR' 0 128 (by kernel_rfl)
              obtain ⟨v129, s129, _⟩ := hR' 1 129 (by kernel_rfl)
              obtain ⟨v130, s130, _⟩ := hR' 2 130 (by kernel_rfl)
              obtain ⟨v131, s131, _⟩ := hR' 3 131 (by kernel_rfl)
              obtain ⟨v132, s132, _⟩ := hR' 4 132 (by kernel_rfl)
              obtain ⟨v133, s133, _⟩ := hR' 5 133 (by kernel_rfl)
              obtain ⟨v134, s134, _⟩ := hR' 6 134 (by kernel_rfl)
              obtain ⟨v135, s135, _⟩ := hR' 7 135 (by kernel_rfl)
              obtain ⟨v136, s136, _⟩ := hR' 8 136 (by kernel_rfl)
              obtain ⟨v137, s137, _⟩ := hR' 9 137 (by kernel_rfl)
              obtain ⟨v138, s138, _⟩ := hR' 10 138 (by kernel_rfl)
              obtain ⟨v139, s139, _⟩ := hR' 11 139 (by kernel_rfl)
              obtain ⟨v140, s140, _⟩ := hR' 12 140 (by kernel_rfl)
              obtain ⟨v141, s141, _⟩ := hR' 13 141 (by kernel_rfl)
              obtain ⟨v142, s142, _⟩ := hR' 14 142 (by kernel_rfl)
              obtain ⟨v143, s143, _⟩ := hR' 15 143 (by kernel_rfl)
              obtain ⟨v144, s144, _⟩ := hR' 16 144 (by kernel_rfl)
              obtain ⟨v145, s145, _⟩ := hR' 17 145 (by kernel_rfl)
              obtain ⟨v146, s146, _⟩ := hR' 18 146 (by kernel_rfl)
              obtain ⟨v147, s147, _⟩ := hR' 19 147 (by kernel_rfl)
              obtain ⟨v148, s148, _⟩ := hR' 20 148 (by kernel_rfl)
              obtain ⟨v149, s149, _⟩ := hR' 21 149 (by kernel_rfl)
              obtain ⟨v150, s150, _⟩ := hR' 22 150 (by kernel_rfl)
              obtain ⟨v151, s151, _⟩ := hR' 23 151 (by kernel_rfl)
              obtain ⟨_, s152, rfl⟩ := hR' 24 152 (by kernel_rfl)
              have e := hs'.shape
              simp only [List.toList_toArray, List.foldl, Go.Rel.reset, Array.getD_eq_getD_getElem?, s128, s129, s130, s131, s132, s133, s134, s135, s136, s137, s138, s139, s140, s141, s142, s143, s144, s145, s146, s147, s148, s149, s150, s151, s152, Option.getD_some] at e
              simp at e
              clear hR' hs' s128 s129 s130 s131 s132 s133 s134 s135 s136 s137 s138 s139 s140 s141 s142 s143 s144 s145 s146 s147 s148 s149 s150 s151 s152
              subst e
              have HBe := Lib.hid (HBq.out.trans (Below.mono HLf.out HBq.out.size))
              have HInv2 : Hid (PlInv w wf base B M B2 (k + 1)) := Lib.hid ⟨r2, HRl.out wf HLf.out, ⟨_, HRr.out wf HLf.out⟩, HSm2.out, HBe.out⟩
              go_wp2
              go_roundw
              case rel => exact ⟨k + 1, by omega, by omega, by go_num, HInv2⟩
              case measure => simp [intOf]; omega
        · have zk : (x.kind == 1) = false := by rw [beq_eq_false_iff_ne]; exact hkd
          obtain ⟨kk, ca, cb, r2, hap⟩ : ∃ kk ca cb r2, r.apply x.u = (kk, ca, cb, r2) := ⟨_, _, _, _, rfl⟩
          have HSm2 : Hid r2.small := Lib.hid (by have := HSm.out.apply hxi; rw [hap] at this; exact this)
          have HAp := Lib.hid (apply_any x.u wo HR.out (by omega) HSm.out hxi kk ca cb r2 hap)
          have HRAp := Lib.hid (fun w v (h : RrAt w base B2 v r) (hb : base ≤ w.heap.size) => rapply_any x.u w h hb HSm.out hxi kk ca cb r2 hap)
          clear hkd hap
          go_wp2_with fail
          refine HAp.out.mono ?_
          clear HAp hk0 hk1 hk2 hk3
          rintro e w2 ⟨rfl, hR2, hb⟩
          have HR2 := Lib.hid hR2
          have HRr2 := Lib.hid (HRr.out.but_map HR.out.map hb)
          have HB2 := Lib.hid (show Below w.heap.size w w2 from HBr.out.trans (hb.below HBr.out.size (fun k hk e => by have := HMs.out.1; omega)))
          clear hR2 hb
          obtain ⟨hk0, hk1, hk2, hk3⟩ := (HSt.out.of_block HB2.out).up hkl
          rw [HXk.out] at hk0 hk1 hk2 hk3
          have hbl2 := bcell_lt hk0
          have hbl3 : b < w2.heap.size := hbl2
          clear hbl2
          have hb := below1 w2 (.cells #[.int .i64 (kk : Int), .int .i64 ca.node, .int .u32 (ca.inc : Int), .int .i64 ca.st, .int .i64 cb.node, .int .u32 (cb.inc : Int), .int .i64 cb.st] 38)
          have hk := heap_alloc_new w2 (.cells #[.int .i64 (kk : Int), .int .i64 ca.node, .int .u32 (ca.inc : Int), .int .i64 ca.st, .int .i64 cb.node, .int .u32 (cb.inc : Int), .int .i64 cb.st] 38)
          obtain ⟨Ya, hY⟩ : ∃ Y, w2.heap.size = Y := ⟨_, rfl⟩
          obtain ⟨w3, hw⟩ : ∃ wq, w2.alloc (.cells #[.int .i64 (kk : Int), .int .i64 ca.node, .int .u32 (ca.inc : Int), .int .i64 ca.st, .int .i64 cb.node, .int .u32 (cb.inc : Int), .int .i64 cb.st] 38) = wq := ⟨_, rfl⟩
          rw [hw] at hb hk
          rw [hY] at hk
          have HN_w3 := Lib.hid hw
          have HS_w3 := Lib.hid hY
          have HR3 := Lib.hid (HR2.out.below hb)
          have HRr3 := Lib.hid (HRr2.out.below hb)
          have HB3 := Lib.hid (HB2.out.trans (hb.mono HB2.out.size))
          have HKa3 := Lib.hid hk
          clear hb hk hw hY
          go_wp2_with fail
          rw [HN_w3.out, HS_w3.out]
          refine (HRAp.out w3 _ HRr3.out (by have := block_lt HRr3.out.blk; have := HMs.out.2.2; omega)).mono ?_
          clear HRAp hk0 hk1 hk2 hk3 hbl3
          rintro e w4 ⟨rfl, ⟨v2, hRr4⟩, hb⟩
          have HR4 := Lib.hid (HR3.out.but_ref HRr3.out hb)
          have hka := (hb.block Ya (block_lt HKa3.out) (fun e => by have e2 : Ya = B2 := e; have h1 := HRr3.out.blk; rw [← e2, HKa3.out] at h1; simp at h1)).trans HKa3.out
          have HB4 := Lib.hid (show Below w.heap.size w w4 from HB3.out.trans (hb.below HB3.out.size (fun k hk e => by have := HMs.out.2.1; omega)))
          obtain ⟨a0, a1, a2, a3, a4, a5, a6⟩ := blk7 hka
          have hla := block_lt hka
          have cg := ch_guard
          have ce : ∀ w, (Op.equalIn 10000 38 (.agg #[.int .i64 (kk : Int), .int .i64 ca.node, .int .u32 (ca.inc : Int), .int .i64 ca.st, .int .i64 cb.node, .int .u32 (cb.inc : Int), .int .i64 cb.st]) (.agg #[.int .i64 (kk : Int), .int .i64 ca.node, .int .u32 (ca.inc : Int), .int .i64 ca.st, .int .i64 cb.node, .int .u32 (cb.inc : Int), .int .i64 cb.st])).run Try.prog w = .ok true w := fun w => by rw [ch_eq, decide_eq_true ⟨rfl, rfl, rfl⟩]
          have hb5 : Below w4.heap.size w4 ((w4.alloc (.cells #[.int .i64 ca.node, .int .u32 (ca.inc : Int), .int .i64 ca.st] 32)).alloc (.cells #[.int .i64 cb.node, .int .u32 (cb.inc : Int), .int .i64 cb.st] 32)) := below2 w4 _ _
          obtain ⟨w5, hw5⟩ : ∃ wq, (w4.alloc (.cells #[.int .i64 ca.node, .int .u32 (ca.inc : Int), .int .i64 ca.st] 32)).alloc (.cells #[.int .i64 cb.node, .int .u32 (cb.inc : Int), .int .i64 cb.st] 32) = wq := ⟨_, rfl⟩
          rw [hw5] at hb5
          have HW5 := Lib.hid hw5
          have HR5 := Lib.hid (HR4.out.below hb5)
          have hRr5 := hRr4.below hb5
          have HB5 := Lib.hid (HB4.out.trans (hb5.mono HB4.out.size))
          clear hb hka hw5 hb5 hRr4
          obtain ⟨A6, c6, rfl, hS6, hn6, hm6⟩ := hRr5.sup
          obtain ⟨L, hL⟩ : ∃ L, listTo r2.T 8 = L := ⟨_, rfl⟩
          rw [hL] at hS6 hn6 hRr5
          obtain ⟨g, hg⟩ : ∃ g, atU r2.T x.u.node = g := ⟨_, rfl⟩
          obtain ⟨ig, hig⟩ : ∃ g, (r2.T x.u.node).isSome = g := ⟨_, rfl⟩
          obtain ⟨s, hs⟩ : ∃ s, r2.selfU = s := ⟨_, rfl⟩
          have HGt := Lib.hid (get_any x.u.node HWx.out w5 HR5.out)
          rw [hg, hig] at HGt
          have hok5 := hRr5.ok
          have HFd0 : Hid (∀ w', SUp w' A6 L.length L → Calls Try.prog 16 #[.slice A6 L.length c6, .int .i64 x.u.node] w' fun e w2 => e = .returned (.tuple #[.agg #[.int .i64 g.node, .int .u32 (g.inc : Int), .int .i64 g.st], .bool ig]) ∧ Below w'.heap.size w' w2) := Lib.hid (fun w' h => by
            have h2 := rfind_any A6 L.length c6 L x.u.node w' h hn6 hm6
            unfold foundU at h2
            rw [← hL, hok5.find] at h2
            rw [hL] at h2
            have e : (r2.T x.u.node).getD zeroUp = g := hg
            rw [e, hig] at h2
            exact h2)
          have HLi : Hid (∀ w, RlAt w B M r2 (k + 1 + 1) → Calls Try.prog 20 #[.pointer (some ⟨B, 0, none⟩)] w (JoinPost w L)) := Lib.hid (fun w h => by have := list_any w h; rw [hL] at this; exact this)
          have HSf : Hid (∀ w, RlAt w B M r2 (k + 1 + 1) → Calls Try.prog 17 #[.pointer (some ⟨B, 0, none⟩)] w fun e w' => e = .returned (.agg #[.int .i64 s.node, .int .u32 (s.inc : Int), .int .i64 s.st]) ∧ Below w.heap.size w w') := Lib.hid (fun w h => by have := self_any w h; rw [hs] at this; exact this)
          have HSr : Hid (∀ w, RrAt w base B2 (.slice A6 L.length c6) r2 → Calls Try.prog 18 #[.pointer (some ⟨B2, 0, none⟩)] w fun e w' => e = .returned (.agg #[.int .i64 s.node, .int .u32 (s.inc : Int), .int .i64 s.st]) ∧ Below w.heap.size w w') := Lib.hid (fun w h => by have := rself_any w h; rw [hs] at this; exact this)
          have HEq : Hid (∀ w, (Op.equalIn 10000 32 (.agg #[.int .i64 g.node, .int .u32 (g.inc : Int), .int .i64 g.st]) (.agg #[.int .i64 g.node, .int .u32 (g.inc : Int), .int .i64 g.st])).run Try.prog w = .ok true w) := Lib.hid (fun w => by rw [up_eq, decide_eq_true rfl])
          have HEs : Hid (∀ w, (Op.equalIn 10000 32 (.agg #[.int .i64 s.node, .int .u32 (s.inc : Int), .int .i64 s.st]) (.agg #[.int .i64 s.node, .int .u32 (s.inc : Int), .int .i64 s.st])).run Try.prog w = .ok true w) := Lib.hid (fun w => by rw [up_eq, decide_eq_true rfl])
          have HRr5 := Lib.hid hRr5
          have HS6 := Lib.hid hS6
          have HL := Lib.hid hL
          clear hRr5 hS6 hn6 hm6 hL hg hig hs hok5
          obtain ⟨hk0, hk1, hk2, hk3⟩ := (HSt.out.of_block HB4.out).up hkl
          rw [HXk.out] at hk0 hk1 hk2 hk3
          have hbl4 : b < w4.heap.size := bcell_lt hk0
          go_wp2_with fail
          rw [HW5.out]
          refine HGt.out.mono ?_
          rintro e w6 ⟨rfl, hb⟩
          have HR6 := Lib.hid (HR5.out.below hb)
          have HRr6 := Lib.hid (HRr5.out.below hb)
          have HS66 := Lib.hid (HS6.out.of_block hb)
          have HB6 := Lib.hid (HB5.out.trans (hb.mono HB5.out.size))
          clear hb hk0 hk1 hk2 hk3 hbl4 HGt hla a0 a1 a2 a3 a4 a5 a6 ce
          have hb := below1 w6 (.cells #[.int .i64 g.node, .int .u32 (g.inc : Int), .int .i64 g.st] 32)
          have hk := heap_alloc_new w6 (.cells #[.int .i64 g.node, .int .u32 (g.inc : Int), .int .i64 g.st] 32)
          obtain ⟨Yu, hY⟩ : ∃ Y, w6.heap.size = Y := ⟨_, rfl⟩
          obtain ⟨wz, hw⟩ : ∃ wq, w6.alloc (.cells #[.int .i64 g.node, .int .u32 (g.inc : Int), .int .i64 g.st] 32) = wq := ⟨_, rfl⟩
          rw [hw] at hb hk
          rw [hY] at hk
          have HN_wz := Lib.hid hw
          have HS_wz := Lib.hid hY
          have HRz := Lib.hid (HR6.out.below hb)
          have HRrz := Lib.hid (HRr6.out.below hb)
          have HSz := Lib.hid (HS66.out.of_block hb)
          have HBz := Lib.hid (HB6.out.trans (hb.mono HB6.out.size))
          have HKu := Lib.hid hk
          clear hb hk hw hY
          obtain ⟨G, hG⟩ : ∃ G, wz.heap.size = G := ⟨_, rfl⟩
          have HFd : Hid (∀ w', Below wz.heap.size wz w' → Calls Try.prog 16 #[.slice A6 L.length c6, .int .i64 x.u.node] w' fun e w2 => e = .returned (.tuple #[.agg #[.int .i64 g.node, .int .u32 (g.inc : Int), .int .i64 g.st], .bool ig]) ∧ Below w'.heap.size w' w2) := Lib.hid (fun w' hb => HFd0.out w' (HSz.out.of_block hb))
          have HC : Hid (∀ w', LeT G wz w' → w'.cell? ⟨B2, 1, none⟩ = some (.slice A6 L.length c6) ∧ w'.cell? ⟨b, off + k * 4 + 1, none⟩ = some (.int .i64 x.u.node)) := Lib.hid (fun w' hle => by
            have hb' : Below wz.heap.size wz w' := hle.but.below (Nat.le_refl _) (fun k hk h => by omega)
            refine ⟨(HRrz.out.below hb').c1, ?_⟩
            have := ((HSt.out.of_block HBz.out).of_block hb').up hkl
            rw [HXk.out] at this
            exact this.2.1)
          have HG := Lib.hid hG
          clear hG
          go_wp2
          rw [HN_wz.out, HS_wz.out]
          refine Go.Rel.wp_region_acts (by kernel_rfl) (by kernel_rfl) (by kernel_rfl) (by kernel_rfl) (fun f a' w' => f 15 = true → Holds G g 21 a' w') (LeT G) (fun _ _ _ h k => h.trans k) ⟨(But.refl _ _).drew, fun B u0 u1 u2 _ h => ⟨u0, u1, u2, h⟩⟩ (fun h => by cases h) (plF G B2 A6 L c6 b off n c k x.u g ig) (plF_stable G B2 A6 L c6 b off n c k x.u g ig) ?hs2 ?he2
          case hs2 =>
            refine (.cons ?_ (.cons ?_ (.cons ?_ (.cons ?_ (.cons ?_ (.cons ?_ (.cons ?_ (.cons ?_ (.cons ?_ (.cons ?_ (.cons ?_ (.cons ?_ (.cons ?_ (.cons ?_ (.cons ?_ (.cons ?_ (.cons ?_ .nil)))))))))))))))))
            · intro f a' w' hI hf hanc hdesc hle hs' hd K hK
              have f9 : a'.tmps[9]? = some (.pointer (some ⟨B2, 0, none⟩)) := hs'.2.2 9 (by kernel_rfl)
              unfold Go.Rel.stepOf
              go_simp
              exact hK _ _ (LeT.refl _ _) (fun h => Holds.keep (hI (by simpa [Go.Rel.upd] using h)) (Below.refl _ _) (by decide) _) rfl
            · intro f a' w' hI hf hanc hdesc hle hs' hd K hK
              obtain ⟨_, t0, rfl⟩ := hd 0 115 (by kernel_rfl)
              unfold Go.Rel.stepOf
              go_simp
              exact hK _ _ (LeT.refl _ _) (fun h => Holds.keep (hI (by simpa [Go.Rel.upd] using h)) (Below.refl _ _) (by decide) _) rfl
            · intro f a' w' hI hf hanc hdesc hle hs' hd K hK
              obtain ⟨_, t1, rfl⟩ := hd 1 116 (by kernel_rfl)
              unfold Go.Rel.stepOf
              go_simp
              exact hK _ _ (LeT.refl _ _) (fun h => Holds.keep (hI (by simpa [Go.Rel.upd] using h)) (Below.refl _ _) (by decide) _) rfl
            · intro f a' w' hI hf hanc hdesc hle hs' hd K hK
              obtain ⟨_, t2, rfl⟩ := hd 2 117 (by kernel_rfl)
              obtain ⟨y0, y1⟩ := HC.out w' hle
              unfold Go.Rel.stepOf
              go_simp
              exact hK _ _ (LeT.refl _ _) (fun h => Holds.keep (hI (by simpa [Go.Rel.upd] using h)) (Below.refl _ _) (by decide) _) rfl
            · intro f a' w' hI hf hanc hdesc hle hs' hd K hK
              have f2 : a'.tmps[2]? = some (.slice ((some ⟨b, off, none⟩)) n c) := hs'.2.2 2 (by kernel_rfl)
              unfold Go.Rel.stepOf
              go_simp
              exact hK _ _ (LeT.refl _ _) (fun h => Holds.keep (hI (by simpa [Go.Rel.upd] using h)) (Below.refl _ _) (by decide) _) rfl
            · intro f a' w' hI hf hanc hdesc hle hs' hd K hK
              have f10 : a'.tmps[10]? = some (.int .i64 (k : Int)) := hs'.2.2 10 (by kernel_rfl)
              unfold Go.Rel.stepOf
              go_simp
              exact hK _ _ (LeT.refl _ _) (fun h => Holds.keep (hI (by simpa [Go.Rel.upd] using h)) (Below.refl _ _) (by decide) _) rfl
            · intro f a' w' hI hf hanc hdesc hle hs' hd K hK
              obtain ⟨_, t4, rfl⟩ := hd 4 119 (by kernel_rfl)
              obtain ⟨_, t5, rfl⟩ := hd 5 120 (by kernel_rfl)
              unfold Go.Rel.stepOf
              go_simp
              exact hK _ _ (LeT.refl _ _) (fun h => Holds.keep (hI (by simpa [Go.Rel.upd] using h)) (Below.refl _ _) (by decide) _) rfl
            · intro f a' w' hI hf hanc hdesc hle hs' hd K hK
              obtain ⟨_, t6, rfl⟩ := hd 6 121 (by kernel_rfl)
              unfold Go.Rel.stepOf
              go_simp
              exact hK _ _ (LeT.refl _ _) (fun h => Holds.keep (hI (by simpa [Go.Rel.upd] using h)) (Below.refl _ _) (by decide) _) rfl
            · intro f a' w' hI hf hanc hdesc hle hs' hd K hK
              obtain ⟨_, t7, rfl⟩ := hd 7 122 (by kernel_rfl)
              unfold Go.Rel.stepOf
              go_simp
              exact hK _ _ (LeT.refl _ _) (fun h => Holds.keep (hI (by simpa [Go.Rel.upd] using h)) (Below.refl _ _) (by decide) _) rfl
            · intro f a' w' hI hf hanc hdesc hle hs' hd K hK
              obtain ⟨_, t8, rfl⟩ := hd 8 123 (by kernel_rfl)
              obtain ⟨y0, y1⟩ := HC.out w' hle
              unfold Go.Rel.stepOf
              go_simp
              exact hK _ _ (LeT.refl _ _) (fun h => Holds.keep (hI (by simpa [Go.Rel.upd] using h)) (Below.refl _ _) (by decide) _) rfl
            · intro f a' w' hI hf hanc hdesc hle hs' hd K hK
              obtain ⟨_, t3, rfl⟩ := hd 3 118 (by kernel_rfl)
              obtain ⟨_, t9, rfl⟩ := hd 9 124 (by kernel_rfl)
              unfold Go.Rel.stepOf
              go_simp
              refine (HFd.out w' (hle.but.below (Nat.le_refl _) (fun k hk hG => by have := HG.out; omega))).mono ?_
              rintro e w6 ⟨rfl, hb6⟩
              exact hK _ _ (LeT.of_below hb6) (fun h => Holds.keep (hI (by simpa [Go.Rel.upd] using h)) hb6 (by decide) _) rfl
            · intro f a' w' hI hf hanc hdesc hle hs' hd K hK
              obtain ⟨_, t10, rfl⟩ := hd 10 125 (by kernel_rfl)
              unfold Go.Rel.stepOf
              go_simp
              exact hK _ _ (LeT.refl _ _) (fun h => Holds.keep (hI (by simpa [Go.Rel.upd] using h)) (Below.refl _ _) (by decide) _) rfl
            · intro f a' w' hI hf hanc hdesc hle hs' hd K hK
              obtain ⟨_, t11, rfl⟩ := hd 11 114 (by kernel_rfl)
              unfold Go.Rel.stepOf
              go_simp
              exact hK _ _ (LeT.refl _ _) (fun h => Holds.keep (hI (by simpa [Go.Rel.upd] using h)) (Below.refl _ _) (by decide) _) rfl
            · intro f a' w' hI hf hanc hdesc hle hs' hd K hK
              obtain ⟨_, t11, rfl⟩ := hd 11 114 (by kernel_rfl)
              unfold Go.Rel.stepOf
              go_simp
              exact hK _ _ (LeT.refl _ _) (fun h => Holds.keep (hI (by simpa [Go.Rel.upd] using h)) (Below.refl _ _) (by decide) _) rfl
            · intro f a' w' hI hf hanc hdesc hle hs' hd K hK
              have zS := hdesc 12 15 (by kernel_rfl)
              have hz := hle.but.size
              unfold Go.Rel.stepOf
              go_simp
              exact hK _ _ (LeT.of_below (below1 _ _)) (fun h => by simp [Go.Rel.upd, zS] at h) ⟨_, rfl, by have := HG.out; omega, _, _, _, heap_alloc_new _ _⟩
            · intro f a' w' hI hf hanc hdesc hle hs' hd K hK
              obtain ⟨_, ta, B, rfl, hB, u0, u1, u2, hh⟩ := hd 14 21 (by kernel_rfl)
              obtain ⟨_, tb, rfl⟩ := hd 12 126 (by kernel_rfl)
              obtain ⟨b0, b1, b2⟩ := blk3 hh
              have g0 := blk_froz hh 0
              have g1 := blk_froz hh 1
              have g2 := blk_froz hh 2
              unfold Go.Rel.stepOf
              go_simp
              exact hK undef _ (LeT.set w' hB hh _ _ _) (fun _ => ⟨B, ta, hB, set3_blk hh _ _ _⟩) trivial
            · intro f a' w' hI hf hanc hdesc hle hs' hd K hK
              obtain ⟨_, t13, rfl⟩ := hd 13 127 (by kernel_rfl)
              unfold Go.Rel.stepOf
              go_simp
              exact hK _ _ (LeT.refl _ _) (fun h => Holds.keep (hI (by simpa [Go.Rel.upd] using h)) (Below.refl _ _) (by decide) _) rfl
          case he2 =>
            intro f a' w7 hall hI hle hs' hR'
            obtain ⟨B7, s21, hB7, hh7⟩ := hI (hall 15 (by decide))
            obtain ⟨v115, s115, _⟩ := hR' 0 115 (by kernel_rfl)
            obtain ⟨v116, s116, _⟩ := hR' 1 116 (by kernel_rfl)
            obtain ⟨v117, s117, _⟩ := hR' 2 117 (by kernel_rfl)
            obtain ⟨v118, s118, _⟩ := hR' 3 118 (by kernel_rfl)
            obtain ⟨v119, s119, _⟩ := hR' 4 119 (by kernel_rfl)
            obtain ⟨v120, s120, _⟩ := hR' 5 120 (by kernel_rfl)
            obtain ⟨v121, s121, _⟩ := hR' 6 121 (by kernel_rfl)
            obtain ⟨v122, s122, _⟩ := hR' 7 122 (by kernel_rfl)
            obtain ⟨v123, s123, _⟩ := hR' 8 123 (by kernel_rfl)
            obtain ⟨v124, s124, _⟩ := hR' 9 124 (by kernel_rfl)
            obtain ⟨v125, s125, _⟩ := hR' 10 125 (by kernel_rfl)
            obtain ⟨v114, s114, _⟩ := hR' 11 114 (by kernel_rfl)
            obtain ⟨v126, s126, _⟩ := hR' 12 126 (by kernel_rfl)
            obtain ⟨v127, s127, _⟩ := hR' 13 127 (by kernel_rfl)
            obtain ⟨_, s22, rfl⟩ := hR' 16 22 (by kernel_rfl)
            have e := hs'.shape
            simp only [List.toList_toArray, List.foldl, Go.Rel.reset, Array.getD_eq_getD_getElem?, s21, s115, s116, s117, s118, s119, s120, s121, s122, s123, s124, s125, s114, s126, s127, s22, Option.getD_some] at e
            simp at e
            have HL7 := Lib.hid hle
            have HH7 := Lib.hid hh7
            have HB7 := Lib.hid hB7
            clear hR' hs' hI hall hle hh7 hB7 s21 s115 s116 s117 s118 s119 s120 s121 s122 s123 s124 s125 s114 s126 s127 s22
            subst e
            have hb7 : Below wz.heap.size wz w7 := HL7.out.but.below (Nat.le_refl _) (fun k hk hG => by have := HG.out; omega)
            have HR7 := Lib.hid (HRz.out.below hb7)
            have HRr7 := Lib.hid (HRrz.out.below hb7)
            have HS7 := Lib.hid (HSz.out.of_block hb7)
            have HBq := Lib.hid (HBz.out.trans (hb7.mono HBz.out.size))
            have HKu7 := Lib.hid ((hb7.block Yu (block_lt HKu.out)).trans HKu.out)
            have HRl : Hid (∀ w', Go.Rel.Grew w7 w' → RlAt w' B M r2 (k + 1 + 1)) := Lib.hid (fun w' hle => HR7.out.below hle)
            have HRr : Hid (∀ w', Go.Rel.Grew w7 w' → RrAt w' base B2 (.slice A6 L.length c6) r2) := Lib.hid (fun w' hle => HRr7.out.below hle)
            have HSu : Hid (∀ w', Go.Rel.Grew w7 w' → SUp w' A6 L.length L) := Lib.hid (fun w' hle => HS7.out.of_block hle)
            have HCo := HC
            clear HC
            have HC : Hid (∀ w', Go.Rel.Grew w7 w' → UpAt w' Yu 0 g ∧ UpAt w' B7 0 g ∧ w'.cell? ⟨B2, 1, none⟩ = some (.slice A6 L.length c6)) := Lib.hid (fun w' hle => by
              have hle' : Below w7.heap.size w7 w' := hle
              refine ⟨blk3 ((hle'.block Yu (block_lt HKu7.out)).trans HKu7.out), blk3 ((hle'.block B7 (block_lt HH7.out)).trans HH7.out), (HRr7.out.below hle').c1⟩)
            clear hb7 HCo HFd HFd0
            go_wp2
            refine Go.Rel.wp_region_grew (by kernel_rfl) (by kernel_rfl) (by kernel_rfl) (by kernel_rfl) (plT Yu B7 B2 B A6 L c6 g ig s) (plT_stable Yu B7 B2 B A6 L c6 g ig s) ?hs2b ?he2b
            case hs2b =>
              refine (.cons ?_ (.cons ?_ (.cons ?_ (.cons ?_ (.cons ?_ (.cons ?_ (.cons ?_ (.cons ?_ (.cons ?_ (.cons ?_ (.cons ?_ (.cons ?_ (.cons ?_ (.cons ?_ (.cons ?_ (.cons ?_ (.cons ?_ (.cons ?_ (.cons ?_ (.cons ?_ (.cons ?_ (.cons ?_ (.cons ?_ (.cons ?_ (.cons ?_ .nil)))))))))))))))))))))))))
              · intro a w' hle hs' hd K hK
                have f19 : a.tmps[19]? = some (.pointer (some ⟨Yu, 0, none⟩)) := hs'.2.2 19 (by kernel_rfl)
                obtain ⟨⟨x0, x1, x2⟩, ⟨y0, y1, y2⟩, y3⟩ := HC.out w' hle
                unfold Go.Rel.stepOf
                go_simp
                exact hK _ _ (Go.Rel.Grew.refl _) rfl
              · intro a w' hle hs' hd K hK
                have f21 : a.tmps[21]? = some (.pointer (some ⟨B7, 0, none⟩)) := hs'.2.2 21 (by kernel_rfl)
                obtain ⟨⟨x0, x1, x2⟩, ⟨y0, y1, y2⟩, y3⟩ := HC.out w' hle
                unfold Go.Rel.stepOf
                go_simp
                exact hK _ _ (Go.Rel.Grew.refl _) rfl
              · intro a w' hle hs' hd K hK
                obtain ⟨_, t0, rfl⟩ := hd 0 128 (by kernel_rfl)
                obtain ⟨_, t1, rfl⟩ := hd 1 129 (by kernel_rfl)
                have ug := up_guard
                have ue := HEq.out
                unfold Go.Rel.stepOf
                go_simp
                exact hK _ _ (Go.Rel.Grew.refl _) rfl
              · intro a w' hle hs' hd K hK
                obtain ⟨_, t2, rfl⟩ := hd 2 130 (by kernel_rfl)
                unfold Go.Rel.stepOf
                go_simp
                exact hK _ _ (Go.Rel.Grew.refl _) rfl
              · intro a w' hle hs' hd K hK
                obtain ⟨_, tg, rfl⟩ := hd 3 131 (by kernel_rfl)
                have f20 : a.tmps[20]? = some (.bool ig) := hs'.2.2 20 (by kernel_rfl)
                unfold Go.Rel.stepOf
                go_simp
                exact hK _ _ (Go.Rel.Grew.refl _) rfl
              · intro a w' hle hs' hd K hK
                obtain ⟨_, tg, rfl⟩ := hd 3 131 (by kernel_rfl)
                have f22 : a.tmps[22]? = some (.bool ig) := hs'.2.2 22 (by kernel_rfl)
                unfold Go.Rel.stepOf
                go_simp
                exact hK _ _ (Go.Rel.Grew.refl _) rfl
              · intro a w' hle hs' hd K hK
                obtain ⟨_, tg, rfl⟩ := hd 3 131 (by kernel_rfl)
                obtain ⟨_, t4, rfl⟩ := hd 4 132 (by kernel_rfl)
                obtain ⟨_, t5, rfl⟩ := hd 5 133 (by kernel_rfl)
                have zi : (ig != ig) = false := by simp
                unfold Go.Rel.stepOf
                go_simp
                exact hK _ _ (Go.Rel.Grew.refl _) rfl
              · intro a w' hle hs' hd K hK
                obtain ⟨_, t3, rfl⟩ := hd 3 131 (by kernel_rfl)
                obtain ⟨_, t6, rfl⟩ := hd 6 134 (by kernel_rfl)
                unfold Go.Rel.stepOf
                go_simp
                exact hK _ _ (Go.Rel.Grew.refl _) rfl
              · intro a w' hle hs' hd K hK
                obtain ⟨_, t7, rfl⟩ := hd 7 135 (by kernel_rfl)
                unfold Go.Rel.stepOf
                go_simp
                exact hK _ _ (Go.Rel.Grew.refl _) rfl
              · intro a w' hle hs' hd K hK
                obtain ⟨_, tg, rfl⟩ := hd 8 136 (by kernel_rfl)
                have f7 : a.tmps[7]? = some (.pointer (some ⟨B, 0, none⟩)) := hs'.2.2 7 (by kernel_rfl)
                unfold Go.Rel.stepOf
                go_simp
                exact hK _ _ (Go.Rel.Grew.refl _) rfl
              · intro a w' hle hs' hd K hK
                obtain ⟨_, tg, rfl⟩ := hd 8 136 (by kernel_rfl)
                obtain ⟨_, t9, rfl⟩ := hd 9 137 (by kernel_rfl)
                unfold Go.Rel.stepOf
                go_simp
                refine (HSf.out w' (HRl.out w' hle)).mono ?_
                rintro e w5 ⟨rfl, hb5⟩
                exact hK _ _ hb5 rfl
              · intro a w' hle hs' hd K hK
                obtain ⟨_, tg, rfl⟩ := hd 8 136 (by kernel_rfl)
                have f9 : a.tmps[9]? = some (.pointer (some ⟨B2, 0, none⟩)) := hs'.2.2 9 (by kernel_rfl)
                unfold Go.Rel.stepOf
                go_simp
                exact hK _ _ (Go.Rel.Grew.refl _) rfl
              · intro a w' hle hs' hd K hK
                obtain ⟨_, tg, rfl⟩ := hd 8 136 (by kernel_rfl)
                obtain ⟨_, t11, rfl⟩ := hd 11 139 (by kernel_rfl)
                unfold Go.Rel.stepOf
                go_simp
                refine (HSr.out w' (HRr.out w' hle)).mono ?_
                rintro e w5 ⟨rfl, hb5⟩
                exact hK _ _ hb5 rfl
              · intro a w' hle hs' hd K hK
                obtain ⟨_, tg, rfl⟩ := hd 8 136 (by kernel_rfl)
                obtain ⟨_, t10, rfl⟩ := hd 10 138 (by kernel_rfl)
                obtain ⟨_, t12, rfl⟩ := hd 12 140 (by kernel_rfl)
                have ug := up_guard
                have ue := HEs.out
                unfold Go.Rel.stepOf
                go_simp
                exact hK _ _ (Go.Rel.Grew.refl _) rfl
              · intro a w' hle hs' hd K hK
                obtain ⟨_, t8, rfl⟩ := hd 8 136 (by kernel_rfl)
                obtain ⟨_, t13, rfl⟩ := hd 13 141 (by kernel_rfl)
                unfold Go.Rel.stepOf
                go_simp
                exact hK _ _ (Go.Rel.Grew.refl _) rfl
              · intro a w' hle hs' hd K hK
                obtain ⟨_, t14, rfl⟩ := hd 14 142 (by kernel_rfl)
                unfold Go.Rel.stepOf
                go_simp
                exact hK _ _ (Go.Rel.Grew.refl _) rfl
              · intro a w' hle hs' hd K hK
                obtain ⟨_, tg, rfl⟩ := hd 15 143 (by kernel_rfl)
                have f7 : a.tmps[7]? = some (.pointer (some ⟨B, 0, none⟩)) := hs'.2.2 7 (by kernel_rfl)
                unfold Go.Rel.stepOf
                go_simp
                exact hK _ _ (Go.Rel.Grew.refl _) rfl
              · intro a w' hle hs' hd K hK
                obtain ⟨_, tg, rfl⟩ := hd 15 143 (by kernel_rfl)
                obtain ⟨_, t16, rfl⟩ := hd 16 144 (by kernel_rfl)
                unfold Go.Rel.stepOf
                go_simp
                refine (HLi.out w' (HRl.out w' hle)).mono ?_
                rintro e w5 ⟨A5, c5, rfl, hS5, hn5, hm5, hb5⟩
                exact hK _ _ hb5 ⟨A5, c5, rfl, hS5, hn5, hm5⟩
              · intro a w' hle hs' hd K hK
                obtain ⟨_, tg, rfl⟩ := hd 15 143 (by kernel_rfl)
                have f9 : a.tmps[9]? = some (.pointer (some ⟨B2, 0, none⟩)) := hs'.2.2 9 (by kernel_rfl)
                unfold Go.Rel.stepOf
                go_simp
                exact hK _ _ (Go.Rel.Grew.refl _) rfl
              · intro a w' hle hs' hd K hK
                obtain ⟨_, tg, rfl⟩ := hd 15 143 (by kernel_rfl)
                obtain ⟨_, t18, rfl⟩ := hd 18 146 (by kernel_rfl)
                unfold Go.Rel.stepOf
                go_simp
                exact hK _ _ (Go.Rel.Grew.refl _) rfl
              · intro a w' hle hs' hd K hK
                obtain ⟨_, tg, rfl⟩ := hd 15 143 (by kernel_rfl)
                obtain ⟨_, t19, rfl⟩ := hd 19 147 (by kernel_rfl)
                unfold Go.Rel.stepOf
                go_simp
                exact hK _ _ (Go.Rel.Grew.refl _) rfl
              · intro a w' hle hs' hd K hK
                obtain ⟨_, tg, rfl⟩ := hd 15 143 (by kernel_rfl)
                obtain ⟨_, t20, rfl⟩ := hd 20 148 (by kernel_rfl)
                obtain ⟨⟨x0, x1, x2⟩, ⟨y0, y1, y2⟩, y3⟩ := HC.out w' hle
                unfold Go.Rel.stepOf
                go_simp
                exact hK _ _ (Go.Rel.Grew.refl _) rfl
              · intro a w' hle hs' hd K hK
                obtain ⟨_, tg, rfl⟩ := hd 15 143 (by kernel_rfl)
                obtain ⟨_, t17, A17, c17, rfl, hs17, hn17, hm17⟩ := hd 17 145 (by kernel_rfl)
                obtain ⟨_, t21, rfl⟩ := hd 21 149 (by kernel_rfl)
                unfold Go.Rel.stepOf
                go_simp
                refine (same_yes A17 L.length c17 A6 L.length c6 L w' hs17 (HSu.out w' hle) hn17 hm17).mono ?_
                rintro e w5 ⟨rfl, hb5⟩
                exact hK _ _ hb5 rfl
              · intro a w' hle hs' hd K hK
                obtain ⟨_, tg, rfl⟩ := hd 15 143 (by kernel_rfl)
                obtain ⟨_, t22, rfl⟩ := hd 22 150 (by kernel_rfl)
                unfold Go.Rel.stepOf
                go_simp
                exact hK _ _ (Go.Rel.Grew.refl _) rfl
              · intro a w' hle hs' hd K hK
                obtain ⟨_, t15, rfl⟩ := hd 15 143 (by kernel_rfl)
                obtain ⟨_, t23, rfl⟩ := hd 23 151 (by kernel_rfl)
                unfold Go.Rel.stepOf
                go_simp
                exact hK _ _ (Go.Rel.Grew.refl _) rfl
            case he2b =>
              intro a3 wf hle hs' hR'
              have HLf := Lib.hid hle
              clear hle
              obtain ⟨v128, s128, _⟩ := hR' 0 128 (by kernel_rfl)
              obtain ⟨v129, s129, _⟩ := hR' 1 129 (by kernel_rfl)
              obtain ⟨v130, s130, _⟩ := hR' 2 130 (by kernel_rfl)
              obtain ⟨v131, s131, _⟩ := hR' 3 131 (by kernel_rfl)
              obtain ⟨v132, s132, _⟩ := hR' 4 132 (by kernel_rfl)
              obtain ⟨v133, s133, _⟩ := hR' 5 133 (by kernel_rfl)
              obtain ⟨v134, s134, _⟩ := hR' 6 134 (by kernel_rfl)
              obtain ⟨v135, s135, _⟩ := hR' 7 135 (by kernel_rfl)
              obtain ⟨v136, s136, _⟩ := hR' 8 136 (by kernel_rfl)
              obtain ⟨v137, s137, _⟩ := hR' 9 137 (by kernel_rfl)
              obtain ⟨v138, s138, _⟩ := hR' 10 138 (by kernel_rfl)
              obtain ⟨v139, s139, _⟩ := hR' 11 139 (by kernel_rfl)
              obtain ⟨v140, s140, _⟩ := hR' 12 140 (by kernel_rfl)
              obtain ⟨v141, s141, _⟩ := hR' 13 141 (by kernel_rfl)
              obtain ⟨v142, s142, _⟩ := hR' 14 142 (by kernel_rfl)
              obtain ⟨v143, s143, _⟩ := hR' 15 143 (by kernel_rfl)
              obtain ⟨v144, s144, _⟩ := hR' 16 144 (by kernel_rfl)
              obtain ⟨v145, s145, _⟩ := hR' 17 145 (by kernel_rfl)
              obtain ⟨v146, s146, _⟩ := hR' 18 146 (by kernel_rfl)
              obtain ⟨v147, s147, _⟩ := hR' 19 147 (by kernel_rfl)
              obtain ⟨v148, s148, _⟩ := hR' 20 148 (by kernel_rfl)
              obtain ⟨v149, s149, _⟩ := hR' 21 149 (by kernel_rfl)
              obtain ⟨v150, s150, _⟩ := hR' 22 150 (by kernel_rfl)
              obtain ⟨v151, s151, _⟩ := hR' 23 151 (by kernel_rfl)
              obtain ⟨_, s152, rfl⟩ := hR' 24 152 (by kernel_rfl)
              have e := hs'.shape
              simp only [List.toList_toArray, List.foldl, Go.Rel.reset, Array.getD_eq_getD_getElem?, s128, s129, s130, s131, s132, s133, s134, s135, s136, s137, s138, s139, s140, s141, s142, s143, s144, s145, s146, s147, s148, s149, s150, s151, s152, Option.getD_some] at e
              simp at e
              clear hR' hs' s128 s129 s130 s131 s132 s133 s134 s135 s136 s137 s138 s139 s140 s141 s142 s143 s144 s145 s146 s147 s148 s149 s150 s151 s152
              subst e
              have HBe := Lib.hid (HBq.out.trans (Below.mono HLf.out HBq.out.size))
              have HInv2 : Hid (PlInv w wf base B M B2 (k + 1)) := Lib.hid ⟨r2, HRl.out wf HLf.out, ⟨_, HRr.out wf HLf.out⟩, HSm2.out, HBe.out⟩
              go_wp2
              go_roundw
              case rel => exact ⟨k + 1, by omega, by omega, by go_num, HInv2⟩
              case measure => simp [intOf]; omega
      · have q1 : (k : Int) < (n : Int) := by omega
        have q80 : ¬ (k : Int) < 80 := by omega
        obtain ⟨A6, c6, rfl, hS6, hn6, hm6⟩ := hRr.sup
        obtain ⟨L, hL⟩ : ∃ L, listTo r.T 8 = L := ⟨_, rfl⟩
        obtain ⟨h1, h2⟩ := lives_sel (own := r.own) (l := listTo r.T 8) (listTo_right hR.ok)
        rw [hL] at hS6 hn6 hRr h1 h2
        obtain ⟨Nl, hNl⟩ : ∃ N, selL r.own false L = N := ⟨_, rfl⟩
        obtain ⟨Np, hNp⟩ : ∃ N, selL r.own true L = N := ⟨_, rfl⟩
        rw [hNl] at h1
        rw [hNp] at h2
        have HLi : Hid (∀ w, RlAt w B M r (k + 1) → Calls Try.prog 20 #[.pointer (some ⟨B, 0, none⟩)] w (JoinPost w L)) := Lib.hid (fun w h => by have := list_any w h; rw [hL] at this; exact this)
        have HLv : Hid (∀ w, RlAt w B M r (k + 1) → Calls Try.prog 22 #[.pointer (some ⟨B, 0, none⟩)] w (IntsPost w Nl)) := Lib.hid (fun w h => by have := live_any w h; rw [hL, h1] at this; exact this)
        have HPe : Hid (∀ w, RlAt w B M r (k + 1) → Calls Try.prog 24 #[.pointer (some ⟨B, 0, none⟩)] w (IntsPost w Np)) := Lib.hid (fun w h => by have := peers_any w h; rw [hL, h2] at this; exact this)
        have HRvfalse : Hid (∀ w, RrAt w base B2 (.slice A6 L.length c6) r → Calls Try.prog 23 #[.pointer (some ⟨B2, 0, none⟩), .bool false] w (IntsPost w Nl)) := Lib.hid (fun w h => by have := rlive_any false w h; rw [hL, hNl] at this; exact this)
        have HRvtrue : Hid (∀ w, RrAt w base B2 (.slice A6 L.length c6) r → Calls Try.prog 23 #[.pointer (some ⟨B2, 0, none⟩), .bool true] w (IntsPost w Np)) := Lib.hid (fun w h => by have := rlive_any true w h; rw [hL, hNp] at this; exact this)
        have HRl : Hid (∀ w', Go.Rel.Grew wo w' → RlAt w' B M r (k + 1)) := Lib.hid (fun w' hle => hR.below hle)
        have HRr : Hid (∀ w', Go.Rel.Grew wo w' → RrAt w' base B2 (.slice A6 L.length c6) r) := Lib.hid (fun w' hle => hRr.below hle)
        have HSu : Hid (∀ w', Go.Rel.Grew wo w' → SUp w' A6 L.length L) := Lib.hid (fun w' hle => hS6.of_block hle)
        have HC : Hid (∀ w', Go.Rel.Grew wo w' → w'.cell? ⟨B2, 1, none⟩ = some (.slice A6 L.length c6)) := Lib.hid (fun w' hle => (hRr.below hle).c1)
        clear hS6 hn6 hm6 hL h1 h2 hNl hNp hR hRr hsm
        go_wp2
        refine Go.Rel.wp_region_grew (by kernel_rfl) (by kernel_rfl) (by kernel_rfl) (by kernel_rfl) (plE B2 B A6 L c6 Nl Np) (plE_stable B2 B A6 L c6 Nl Np) ?hsx1 ?hex1
        case hsx1 =>
          refine (.cons ?_ (.cons ?_ (.cons ?_ (.cons ?_ (.cons ?_ (.cons ?_ (.cons ?_ (.cons ?_ (.cons ?_ (.cons ?_ (.cons ?_ (.cons ?_ (.cons ?_ (.cons ?_ (.cons ?_ (.cons ?_ (.cons ?_ (.cons ?_ (.cons ?_ (.cons ?_ (.cons ?_ (.cons ?_ (.cons ?_ (.cons ?_ (.cons ?_ .nil)))))))))))))))))))))))))
          · intro a w' hle hs' hd K hK
            have f7 : a.tmps[7]? = some (.pointer (some ⟨B, 0, none⟩)) := hs'.2.2 7 (by kernel_rfl)
            unfold Go.Rel.stepOf
            go_simp
            exact hK _ _ (Go.Rel.Grew.refl _) rfl
          · intro a w' hle hs' hd K hK
            obtain ⟨_, t0, rfl⟩ := hd 0 153 (by kernel_rfl)
            unfold Go.Rel.stepOf
            go_simp
            refine (HLv.out w' (HRl.out w' hle)).mono ?_
            rintro e w5 ⟨A5, c5, rfl, hS5, hn5, hm5, hb5⟩
            exact hK _ _ hb5 ⟨A5, c5, rfl, hS5, hn5, hm5⟩
          · intro a w' hle hs' hd K hK
            have f9 : a.tmps[9]? = some (.pointer (some ⟨B2, 0, none⟩)) := hs'.2.2 9 (by kernel_rfl)
            unfold Go.Rel.stepOf
            go_simp
            exact hK _ _ (Go.Rel.Grew.refl _) rfl
          · intro a w' hle hs' hd K hK
            obtain ⟨_, t2, rfl⟩ := hd 2 155 (by kernel_rfl)
            unfold Go.Rel.stepOf
            go_simp
            refine (HRvfalse.out w' (HRr.out w' hle)).mono ?_
            rintro e w5 ⟨A5, c5, rfl, hS5, hn5, hm5, hb5⟩
            exact hK _ _ hb5 ⟨A5, c5, rfl, hS5, hn5, hm5⟩
          · intro a w' hle hs' hd K hK
            obtain ⟨_, t1, A1, c1, rfl, hs1, hn1, hm1⟩ := hd 1 154 (by kernel_rfl)
            obtain ⟨_, t3, A3, c3, rfl, hs3, hn3, hm3⟩ := hd 3 156 (by kernel_rfl)
            unfold Go.Rel.stepOf
            go_simp
            refine (ints_yes A1 Nl.length c1 A3 Nl.length c3 Nl Nl w' rfl rfl rfl hs1 hs3 hn1 hm1).mono ?_
            rintro e w5 ⟨rfl, hb5⟩
            exact hK _ _ hb5 rfl
          · intro a w' hle hs' hd K hK
            obtain ⟨_, t4, rfl⟩ := hd 4 157 (by kernel_rfl)
            unfold Go.Rel.stepOf
            go_simp
            exact hK _ _ (Go.Rel.Grew.refl _) rfl
          · intro a w' hle hs' hd K hK
            obtain ⟨_, tg, rfl⟩ := hd 5 158 (by kernel_rfl)
            have f7 : a.tmps[7]? = some (.pointer (some ⟨B, 0, none⟩)) := hs'.2.2 7 (by kernel_rfl)
            unfold Go.Rel.stepOf
            go_simp
            exact hK _ _ (Go.Rel.Grew.refl _) rfl
          · intro a w' hle hs' hd K hK
            obtain ⟨_, tg, rfl⟩ := hd 5 158 (by kernel_rfl)
            obtain ⟨_, t6, rfl⟩ := hd 6 159 (by kernel_rfl)
            unfold Go.Rel.stepOf
            go_simp
            refine (HPe.out w' (HRl.out w' hle)).mono ?_
            rintro e w5 ⟨A5, c5, rfl, hS5, hn5, hm5, hb5⟩
            exact hK _ _ hb5 ⟨A5, c5, rfl, hS5, hn5, hm5⟩
          · intro a w' hle hs' hd K hK
            obtain ⟨_, tg, rfl⟩ := hd 5 158 (by kernel_rfl)
            have f9 : a.tmps[9]? = some (.pointer (some ⟨B2, 0, none⟩)) := hs'.2.2 9 (by kernel_rfl)
            unfold Go.Rel.stepOf
            go_simp
            exact hK _ _ (Go.Rel.Grew.refl _) rfl
          · intro a w' hle hs' hd K hK
            obtain ⟨_, tg, rfl⟩ := hd 5 158 (by kernel_rfl)
            obtain ⟨_, t8, rfl⟩ := hd 8 161 (by kernel_rfl)
            unfold Go.Rel.stepOf
            go_simp
            refine (HRvtrue.out w' (HRr.out w' hle)).mono ?_
            rintro e w5 ⟨A5, c5, rfl, hS5, hn5, hm5, hb5⟩
            exact hK _ _ hb5 ⟨A5, c5, rfl, hS5, hn5, hm5⟩
          · intro a w' hle hs' hd K hK
            obtain ⟨_, tg, rfl⟩ := hd 5 158 (by kernel_rfl)
            obtain ⟨_, t7, A7, c7, rfl, hs7, hn7, hm7⟩ := hd 7 160 (by kernel_rfl)
            obtain ⟨_, t9, A9, c9, rfl, hs9, hn9, hm9⟩ := hd 9 162 (by kernel_rfl)
            unfold Go.Rel.stepOf
            go_simp
            refine (ints_yes A7 Np.length c7 A9 Np.length c9 Np Np w' rfl rfl rfl hs7 hs9 hn7 hm7).mono ?_
            rintro e w5 ⟨rfl, hb5⟩
            exact hK _ _ hb5 rfl
          · intro a w' hle hs' hd K hK
            obtain ⟨_, t5, rfl⟩ := hd 5 158 (by kernel_rfl)
            obtain ⟨_, t10, rfl⟩ := hd 10 163 (by kernel_rfl)
            unfold Go.Rel.stepOf
            go_simp
            exact hK _ _ (Go.Rel.Grew.refl _) rfl
          · intro a w' hle hs' hd K hK
            obtain ⟨_, t11, rfl⟩ := hd 11 164 (by kernel_rfl)
            unfold Go.Rel.stepOf
            go_simp
            exact hK _ _ (Go.Rel.Grew.refl _) rfl
          · intro a w' hle hs' hd K hK
            obtain ⟨_, tg, rfl⟩ := hd 12 165 (by kernel_rfl)
            have f7 : a.tmps[7]? = some (.pointer (some ⟨B, 0, none⟩)) := hs'.2.2 7 (by kernel_rfl)
            unfold Go.Rel.stepOf
            go_simp
            exact hK _ _ (Go.Rel.Grew.refl _) rfl
          · intro a w' hle hs' hd K hK
            obtain ⟨_, tg, rfl⟩ := hd 12 165 (by kernel_rfl)
            obtain ⟨_, t13, rfl⟩ := hd 13 166 (by kernel_rfl)
            unfold Go.Rel.stepOf
            go_simp
            refine (HLi.out w' (HRl.out w' hle)).mono ?_
            rintro e w5 ⟨A5, c5, rfl, hS5, hn5, hm5, hb5⟩
            exact hK _ _ hb5 ⟨A5, c5, rfl, hS5, hn5, hm5⟩
          · intro a w' hle hs' hd K hK
            obtain ⟨_, tg, rfl⟩ := hd 12 165 (by kernel_rfl)
            have f9 : a.tmps[9]? = some (.pointer (some ⟨B2, 0, none⟩)) := hs'.2.2 9 (by kernel_rfl)
            unfold Go.Rel.stepOf
            go_simp
            exact hK _ _ (Go.Rel.Grew.refl _) rfl
          · intro a w' hle hs' hd K hK
            obtain ⟨_, tg, rfl⟩ := hd 12 165 (by kernel_rfl)
            obtain ⟨_, t15, rfl⟩ := hd 15 168 (by kernel_rfl)
            unfold Go.Rel.stepOf
            go_simp
            exact hK _ _ (Go.Rel.Grew.refl _) rfl
          · intro a w' hle hs' hd K hK
            obtain ⟨_, tg, rfl⟩ := hd 12 165 (by kernel_rfl)
            obtain ⟨_, t16, rfl⟩ := hd 16 169 (by kernel_rfl)
            unfold Go.Rel.stepOf
            go_simp
            exact hK _ _ (Go.Rel.Grew.refl _) rfl
          · intro a w' hle hs' hd K hK
            obtain ⟨_, tg, rfl⟩ := hd 12 165 (by kernel_rfl)
            obtain ⟨_, t17, rfl⟩ := hd 17 170 (by kernel_rfl)
            have y3 := HC.out w' hle
            unfold Go.Rel.stepOf
            go_simp
            exact hK _ _ (Go.Rel.Grew.refl _) rfl
          · intro a w' hle hs' hd K hK
            obtain ⟨_, tg, rfl⟩ := hd 12 165 (by kernel_rfl)
            obtain ⟨_, t14, A14, c14, rfl, hs14, hn14, hm14⟩ := hd 14 167 (by kernel_rfl)
            obtain ⟨_, t18, rfl⟩ := hd 18 171 (by kernel_rfl)
            unfold Go.Rel.stepOf
            go_simp
            refine (same_yes A14 L.length c14 A6 L.length c6 L w' hs14 (HSu.out w' hle) hn14 hm14).mono ?_
            rintro e w5 ⟨rfl, hb5⟩
            exact hK _ _ hb5 rfl
          · intro a w' hle hs' hd K hK
            obtain ⟨_, t12, rfl⟩ := hd 12 165 (by kernel_rfl)
            obtain ⟨_, t19, rfl⟩ := hd 19 172 (by kernel_rfl)
            unfold Go.Rel.stepOf
            go_simp
            exact hK _ _ (Go.Rel.Grew.refl _) rfl
          · intro a w' hle hs' hd K hK
            obtain ⟨_, t20, rfl⟩ := hd 20 173 (by kernel_rfl)
            unfold Go.Rel.stepOf
            go_simp
            exact hK _ _ (Go.Rel.Grew.refl _) rfl
          · intro a w' hle hs' hd K hK
            obtain ⟨_, tg, rfl⟩ := hd 21 174 (by kernel_rfl)
            unfold Go.Rel.stepOf
            go_simp
            refine (HWk.out w').mono ?_
            rintro e w5 ⟨rfl, hb5⟩
            exact hK _ _ hb5 rfl
          · intro a w' hle hs' hd K hK
            obtain ⟨_, t21, rfl⟩ := hd 21 174 (by kernel_rfl)
            obtain ⟨_, t22, rfl⟩ := hd 22 175 (by kernel_rfl)
            unfold Go.Rel.stepOf
            go_simp
            exact hK _ _ (Go.Rel.Grew.refl _) rfl
          · intro a w' hle hs' hd K hK
            obtain ⟨_, t23, rfl⟩ := hd 23 176 (by kernel_rfl)
            unfold Go.Rel.stepOf
            go_simp
            exact hK _ _ (Go.Rel.Grew.refl _) rfl
        case hex1 =>
          intro a3 wf hle hs' hR'
          have HLf := Lib.hid hle
          clear hle
          obtain ⟨v153, s153, _⟩ := hR' 0 153 (by kernel_rfl)
          obtain ⟨v154, s154, _⟩ := hR' 1 154 (by kernel_rfl)
          obtain ⟨v155, s155, _⟩ := hR' 2 155 (by kernel_rfl)
          obtain ⟨v156, s156, _⟩ := hR' 3 156 (by kernel_rfl)
          obtain ⟨v157, s157, _⟩ := hR' 4 157 (by kernel_rfl)
          obtain ⟨v158, s158, _⟩ := hR' 5 158 (by kernel_rfl)
          obtain ⟨v159, s159, _⟩ := hR' 6 159 (by kernel_rfl)
          obtain ⟨v160, s160, _⟩ := hR' 7 160 (by kernel_rfl)
          obtain ⟨v161, s161, _⟩ := hR' 8 161 (by kernel_rfl)
          obtain ⟨v162, s162, _⟩ := hR' 9 162 (by kernel_rfl)
          obtain ⟨v163, s163, _⟩ := hR' 10 163 (by kernel_rfl)
          obtain ⟨v164, s164, _⟩ := hR' 11 164 (by kernel_rfl)
          obtain ⟨v165, s165, _⟩ := hR' 12 165 (by kernel_rfl)
          obtain ⟨v166, s166, _⟩ := hR' 13 166 (by kernel_rfl)
          obtain ⟨v167, s167, _⟩ := hR' 14 167 (by kernel_rfl)
          obtain ⟨v168, s168, _⟩ := hR' 15 168 (by kernel_rfl)
          obtain ⟨v169, s169, _⟩ := hR' 16 169 (by kernel_rfl)
          obtain ⟨v170, s170, _⟩ := hR' 17 170 (by kernel_rfl)
          obtain ⟨v171, s171, _⟩ := hR' 18 171 (by kernel_rfl)
          obtain ⟨v172, s172, _⟩ := hR' 19 172 (by kernel_rfl)
          obtain ⟨v173, s173, _⟩ := hR' 20 173 (by kernel_rfl)
          obtain ⟨v174, s174, _⟩ := hR' 21 174 (by kernel_rfl)
          obtain ⟨v175, s175, _⟩ := hR' 22 175 (by kernel_rfl)
          obtain ⟨v176, s176, _⟩ := hR' 23 176 (by kernel_rfl)
          obtain ⟨_, s6, rfl⟩ := hR' 24 6 (by kernel_rfl)
          have e := hs'.shape
          simp only [List.toList_toArray, List.foldl, Go.Rel.reset, Array.getD_eq_getD_getElem?, s153, s154, s155, s156, s157, s158, s159, s160, s161, s162, s163, s164, s165, s166, s167, s168, s169, s170, s171, s172, s173, s174, s175, s176, s6, Option.getD_some] at e
          simp at e
          clear hR' hs' s153 s154 s155 s156 s157 s158 s159 s160 s161 s162 s163 s164 s165 s166 s167 s168 s169 s170 s171 s172 s173 s174 s175 s176 s6
          subst e
          have HBe := Lib.hid (HBr.out.trans (Below.mono HLf.out HBr.out.size))
          go_wp2
          go_ret
          exact ⟨rfl, HBe.out⟩
    · have q1 : ¬ (k : Int) < (n : Int) := by omega
      obtain ⟨A6, c6, rfl, hS6, hn6, hm6⟩ := hRr.sup
      obtain ⟨L, hL⟩ : ∃ L, listTo r.T 8 = L := ⟨_, rfl⟩
      obtain ⟨h1, h2⟩ := lives_sel (own := r.own) (l := listTo r.T 8) (listTo_right hR.ok)
      rw [hL] at hS6 hn6 hRr h1 h2
      obtain ⟨Nl, hNl⟩ : ∃ N, selL r.own false L = N := ⟨_, rfl⟩
      obtain ⟨Np, hNp⟩ : ∃ N, selL r.own true L = N := ⟨_, rfl⟩
      rw [hNl] at h1
      rw [hNp] at h2
      have HLi : Hid (∀ w, RlAt w B M r (k + 1) → Calls Try.prog 20 #[.pointer (some ⟨B, 0, none⟩)] w (JoinPost w L)) := Lib.hid (fun w h => by have := list_any w h; rw [hL] at this; exact this)
      have HLv : Hid (∀ w, RlAt w B M r (k + 1) → Calls Try.prog 22 #[.pointer (some ⟨B, 0, none⟩)] w (IntsPost w Nl)) := Lib.hid (fun w h => by have := live_any w h; rw [hL, h1] at this; exact this)
      have HPe : Hid (∀ w, RlAt w B M r (k + 1) → Calls Try.prog 24 #[.pointer (some ⟨B, 0, none⟩)] w (IntsPost w Np)) := Lib.hid (fun w h => by have := peers_any w h; rw [hL, h2] at this; exact this)
      have HRvfalse : Hid (∀ w, RrAt w base B2 (.slice A6 L.length c6) r → Calls Try.prog 23 #[.pointer (some ⟨B2, 0, none⟩), .bool false] w (IntsPost w Nl)) := Lib.hid (fun w h => by have := rlive_any false w h; rw [hL, hNl] at this; exact this)
      have HRvtrue : Hid (∀ w, RrAt w base B2 (.slice A6 L.length c6) r → Calls Try.prog 23 #[.pointer (some ⟨B2, 0, none⟩), .bool true] w (IntsPost w Np)) := Lib.hid (fun w h => by have := rlive_any true w h; rw [hL, hNp] at this; exact this)
      have HRl : Hid (∀ w', Go.Rel.Grew wo w' → RlAt w' B M r (k + 1)) := Lib.hid (fun w' hle => hR.below hle)
      have HRr : Hid (∀ w', Go.Rel.Grew wo w' → RrAt w' base B2 (.slice A6 L.length c6) r) := Lib.hid (fun w' hle => hRr.below hle)
      have HSu : Hid (∀ w', Go.Rel.Grew wo w' → SUp w' A6 L.length L) := Lib.hid (fun w' hle => hS6.of_block hle)
      have HC : Hid (∀ w', Go.Rel.Grew wo w' → w'.cell? ⟨B2, 1, none⟩ = some (.slice A6 L.length c6)) := Lib.hid (fun w' hle => (hRr.below hle).c1)
      clear hS6 hn6 hm6 hL h1 h2 hNl hNp hR hRr hsm
      go_wp2
      refine Go.Rel.wp_region_grew (by kernel_rfl) (by kernel_rfl) (by kernel_rfl) (by kernel_rfl) (plE B2 B A6 L c6 Nl Np) (plE_stable B2 B A6 L c6 Nl Np) ?hsx2 ?hex2
      case hsx2 =>
        refine (.cons ?_ (.cons ?_ (.cons ?_ (.cons ?_ (.cons ?_ (.cons ?_ (.cons ?_ (.cons ?_ (.cons ?_ (.cons ?_ (.cons ?_ (.cons ?_ (.cons ?_ (.cons ?_ (.cons ?_ (.cons ?_ (.cons ?_ (.cons ?_ (.cons ?_ (.cons ?_ (.cons ?_ (.cons ?_ (.cons ?_ (.cons ?_ (.cons ?_ .nil)))))))))))))))))))))))))
        · intro a w' hle hs' hd K hK
          have f7 : a.tmps[7]? = some (.pointer (some ⟨B, 0, none⟩)) := hs'.2.2 7 (by kernel_rfl)
          unfold Go.Rel.stepOf
          go_simp
          exact hK _ _ (Go.Rel.Grew.refl _) rfl
        · intro a w' hle hs' hd K hK
          obtain ⟨_, t0, rfl⟩ := hd 0 153 (by kernel_rfl)
          unfold Go.Rel.stepOf
          go_simp
          refine (HLv.out w' (HRl.out w' hle)).mono ?_
          rintro e w5 ⟨A5, c5, rfl, hS5, hn5, hm5, hb5⟩
          exact hK _ _ hb5 ⟨A5, c5, rfl, hS5, hn5, hm5⟩
        · intro a w' hle hs' hd K hK
          have f9 : a.tmps[9]? = some (.pointer (some ⟨B2, 0, none⟩)) := hs'.2.2 9 (by kernel_rfl)
          unfold Go.Rel.stepOf
          go_simp
          exact hK _ _ (Go.Rel.Grew.refl _) rfl
        · intro a w' hle hs' hd K hK
          obtain ⟨_, t2, rfl⟩ := hd 2 155 (by kernel_rfl)
          unfold Go.Rel.stepOf
          go_simp
          refine (HRvfalse.out w' (HRr.out w' hle)).mono ?_
          rintro e w5 ⟨A5, c5, rfl, hS5, hn5, hm5, hb5⟩
          exact hK _ _ hb5 ⟨A5, c5, rfl, hS5, hn5, hm5⟩
        · intro a w' hle hs' hd K hK
          obtain ⟨_, t1, A1, c1, rfl, hs1, hn1, hm1⟩ := hd 1 154 (by kernel_rfl)
          obtain ⟨_, t3, A3, c3, rfl, hs3, hn3, hm3⟩ := hd 3 156 (by kernel_rfl)
          unfold Go.Rel.stepOf
          go_simp
          refine (ints_yes A1 Nl.length c1 A3 Nl.length c3 Nl Nl w' rfl rfl rfl hs1 hs3 hn1 hm1).mono ?_
          rintro e w5 ⟨rfl, hb5⟩
          exact hK _ _ hb5 rfl
        · intro a w' hle hs' hd K hK
          obtain ⟨_, t4, rfl⟩ := hd 4 157 (by kernel_rfl)
          unfold Go.Rel.stepOf
          go_simp
          exact hK _ _ (Go.Rel.Grew.refl _) rfl
        · intro a w' hle hs' hd K hK
          obtain ⟨_, tg, rfl⟩ := hd 5 158 (by kernel_rfl)
          have f7 : a.tmps[7]? = some (.pointer (some ⟨B, 0, none⟩)) := hs'.2.2 7 (by kernel_rfl)
          unfold Go.Rel.stepOf
          go_simp
          exact hK _ _ (Go.Rel.Grew.refl _) rfl
        · intro a w' hle hs' hd K hK
          obtain ⟨_, tg, rfl⟩ := hd 5 158 (by kernel_rfl)
          obtain ⟨_, t6, rfl⟩ := hd 6 159 (by kernel_rfl)
          unfold Go.Rel.stepOf
          go_simp
          refine (HPe.out w' (HRl.out w' hle)).mono ?_
          rintro e w5 ⟨A5, c5, rfl, hS5, hn5, hm5, hb5⟩
          exact hK _ _ hb5 ⟨A5, c5, rfl, hS5, hn5, hm5⟩
        · intro a w' hle hs' hd K hK
          obtain ⟨_, tg, rfl⟩ := hd 5 158 (by kernel_rfl)
          have f9 : a.tmps[9]? = some (.pointer (some ⟨B2, 0, none⟩)) := hs'.2.2 9 (by kernel_rfl)
          unfold Go.Rel.stepOf
          go_simp
          exact hK _ _ (Go.Rel.Grew.refl _) rfl
        · intro a w' hle hs' hd K hK
          obtain ⟨_, tg, rfl⟩ := hd 5 158 (by kernel_rfl)
          obtain ⟨_, t8, rfl⟩ := hd 8 161 (by kernel_rfl)
          unfold Go.Rel.stepOf
          go_simp
          refine (HRvtrue.out w' (HRr.out w' hle)).mono ?_
          rintro e w5 ⟨A5, c5, rfl, hS5, hn5, hm5, hb5⟩
          exact hK _ _ hb5 ⟨A5, c5, rfl, hS5, hn5, hm5⟩
        · intro a w' hle hs' hd K hK
          obtain ⟨_, tg, rfl⟩ := hd 5 158 (by kernel_rfl)
          obtain ⟨_, t7, A7, c7, rfl, hs7, hn7, hm7⟩ := hd 7 160 (by kernel_rfl)
          obtain ⟨_, t9, A9, c9, rfl, hs9, hn9, hm9⟩ := hd 9 162 (by kernel_rfl)
          unfold Go.Rel.stepOf
          go_simp
          refine (ints_yes A7 Np.length c7 A9 Np.length c9 Np Np w' rfl rfl rfl hs7 hs9 hn7 hm7).mono ?_
          rintro e w5 ⟨rfl, hb5⟩
          exact hK _ _ hb5 rfl
        · intro a w' hle hs' hd K hK
          obtain ⟨_, t5, rfl⟩ := hd 5 158 (by kernel_rfl)
          obtain ⟨_, t10, rfl⟩ := hd 10 163 (by kernel_rfl)
          unfold Go.Rel.stepOf
          go_simp
          exact hK _ _ (Go.Rel.Grew.refl _) rfl
        · intro a w' hle hs' hd K hK
          obtain ⟨_, t11, rfl⟩ := hd 11 164 (by kernel_rfl)
          unfold Go.Rel.stepOf
          go_simp
          exact hK _ _ (Go.Rel.Grew.refl _) rfl
        · intro a w' hle hs' hd K hK
          obtain ⟨_, tg, rfl⟩ := hd 12 165 (by kernel_rfl)
          have f7 : a.tmps[7]? = some (.pointer (some ⟨B, 0, none⟩)) := hs'.2.2 7 (by kernel_rfl)
          unfold Go.Rel.stepOf
          go_simp
          exact hK _ _ (Go.Rel.Grew.refl _) rfl
        · intro a w' hle hs' hd K hK
          obtain ⟨_, tg, rfl⟩ := hd 12 165 (by kernel_rfl)
          obtain ⟨_, t13, rfl⟩ := hd 13 166 (by kernel_rfl)
          unfold Go.Rel.stepOf
          go_simp
          refine (HLi.out w' (HRl.out w' hle)).mono ?_
          rintro e w5 ⟨A5, c5, rfl, hS5, hn5, hm5, hb5⟩
          exact hK _ _ hb5 ⟨A5, c5, rfl, hS5, hn5, hm5⟩
        · intro a w' hle hs' hd K hK
          obtain ⟨_, tg, rfl⟩ := hd 12 165 (by kernel_rfl)
          have f9 : a.tmps[9]? = some (.pointer (some ⟨B2, 0, none⟩)) := hs'.2.2 9 (by kernel_rfl)
          unfold Go.Rel.stepOf
          go_simp
          exact hK _ _ (Go.Rel.Grew.refl _) rfl
        · intro a w' hle hs' hd K hK
          obtain ⟨_, tg, rfl⟩ := hd 12 165 (by kernel_rfl)
          obtain ⟨_, t15, rfl⟩ := hd 15 168 (by kernel_rfl)
          unfold Go.Rel.stepOf
          go_simp
          exact hK _ _ (Go.Rel.Grew.refl _) rfl
        · intro a w' hle hs' hd K hK
          obtain ⟨_, tg, rfl⟩ := hd 12 165 (by kernel_rfl)
          obtain ⟨_, t16, rfl⟩ := hd 16 169 (by kernel_rfl)
          unfold Go.Rel.stepOf
          go_simp
          exact hK _ _ (Go.Rel.Grew.refl _) rfl
        · intro a w' hle hs' hd K hK
          obtain ⟨_, tg, rfl⟩ := hd 12 165 (by kernel_rfl)
          obtain ⟨_, t17, rfl⟩ := hd 17 170 (by kernel_rfl)
          have y3 := HC.out w' hle
          unfold Go.Rel.stepOf
          go_simp
          exact hK _ _ (Go.Rel.Grew.refl _) rfl
        · intro a w' hle hs' hd K hK
          obtain ⟨_, tg, rfl⟩ := hd 12 165 (by kernel_rfl)
          obtain ⟨_, t14, A14, c14, rfl, hs14, hn14, hm14⟩ := hd 14 167 (by kernel_rfl)
          obtain ⟨_, t18, rfl⟩ := hd 18 171 (by kernel_rfl)
          unfold Go.Rel.stepOf
          go_simp
          refine (same_yes A14 L.length c14 A6 L.length c6 L w' hs14 (HSu.out w' hle) hn14 hm14).mono ?_
          rintro e w5 ⟨rfl, hb5⟩
          exact hK _ _ hb5 rfl
        · intro a w' hle hs' hd K hK
          obtain ⟨_, t12, rfl⟩ := hd 12 165 (by kernel_rfl)
          obtain ⟨_, t19, rfl⟩ := hd 19 172 (by kernel_rfl)
          unfold Go.Rel.stepOf
          go_simp
          exact hK _ _ (Go.Rel.Grew.refl _) rfl
        · intro a w' hle hs' hd K hK
          obtain ⟨_, t20, rfl⟩ := hd 20 173 (by kernel_rfl)
          unfold Go.Rel.stepOf
          go_simp
          exact hK _ _ (Go.Rel.Grew.refl _) rfl
        · intro a w' hle hs' hd K hK
          obtain ⟨_, tg, rfl⟩ := hd 21 174 (by kernel_rfl)
          unfold Go.Rel.stepOf
          go_simp
          refine (HWk.out w').mono ?_
          rintro e w5 ⟨rfl, hb5⟩
          exact hK _ _ hb5 rfl
        · intro a w' hle hs' hd K hK
          obtain ⟨_, t21, rfl⟩ := hd 21 174 (by kernel_rfl)
          obtain ⟨_, t22, rfl⟩ := hd 22 175 (by kernel_rfl)
          unfold Go.Rel.stepOf
          go_simp
          exact hK _ _ (Go.Rel.Grew.refl _) rfl
        · intro a w' hle hs' hd K hK
          obtain ⟨_, t23, rfl⟩ := hd 23 176 (by kernel_rfl)
          unfold Go.Rel.stepOf
          go_simp
          exact hK _ _ (Go.Rel.Grew.refl _) rfl
      case hex2 =>
        intro a3 wf hle hs' hR'
        have HLf := Lib.hid hle
        clear hle
        obtain ⟨v153, s153, _⟩ := hR' 0 153 (by kernel_rfl)
        obtain ⟨v154, s154, _⟩ := hR' 1 154 (by kernel_rfl)
        obtain ⟨v155, s155, _⟩ := hR' 2 155 (by kernel_rfl)
        obtain ⟨v156, s156, _⟩ := hR' 3 156 (by kernel_rfl)
        obtain ⟨v157, s157, _⟩ := hR' 4 157 (by kernel_rfl)
        obtain ⟨v158, s158, _⟩ := hR' 5 158 (by kernel_rfl)
        obtain ⟨v159, s159, _⟩ := hR' 6 159 (by kernel_rfl)
        obtain ⟨v160, s160, _⟩ := hR' 7 160 (by kernel_rfl)
        obtain ⟨v161, s161, _⟩ := hR' 8 161 (by kernel_rfl)
        obtain ⟨v162, s162, _⟩ := hR' 9 162 (by kernel_rfl)
        obtain ⟨v163, s163, _⟩ := hR' 10 163 (by kernel_rfl)
        obtain ⟨v164, s164, _⟩ := hR' 11 164 (by kernel_rfl)
        obtain ⟨v165, s165, _⟩ := hR' 12 165 (by kernel_rfl)
        obtain ⟨v166, s166, _⟩ := hR' 13 166 (by kernel_rfl)
        obtain ⟨v167, s167, _⟩ := hR' 14 167 (by kernel_rfl)
        obtain ⟨v168, s168, _⟩ := hR' 15 168 (by kernel_rfl)
        obtain ⟨v169, s169, _⟩ := hR' 16 169 (by kernel_rfl)
        obtain ⟨v170, s170, _⟩ := hR' 17 170 (by kernel_rfl)
        obtain ⟨v171, s171, _⟩ := hR' 18 171 (by kernel_rfl)
        obtain ⟨v172, s172, _⟩ := hR' 19 172 (by kernel_rfl)
        obtain ⟨v173, s173, _⟩ := hR' 20 173 (by kernel_rfl)
        obtain ⟨v174, s174, _⟩ := hR' 21 174 (by kernel_rfl)
        obtain ⟨v175, s175, _⟩ := hR' 22 175 (by kernel_rfl)
        obtain ⟨v176, s176, _⟩ := hR' 23 176 (by kernel_rfl)
        obtain ⟨_, s6, rfl⟩ := hR' 24 6 (by kernel_rfl)
        have e := hs'.shape
        simp only [List.toList_toArray, List.foldl, Go.Rel.reset, Array.getD_eq_getD_getElem?, s153, s154, s155, s156, s157, s158, s159, s160, s161, s162, s163, s164, s165, s166, s167, s168, s169, s170, s171, s172, s173, s174, s175, s176, s6, Option.getD_some] at e
        simp at e
        clear hR' hs' s153 s154 s155 s156 s157 s158 s159 s160 s161 s162 s163 s164 s165 s166 s167 s168 s169 s170 s171 s172 s173 s174 s175 s176 s6
        subst e
        have HBe := Lib.hid (HBr.out.trans (Below.mono HLf.out HBr.out.size))
        go_wp2
        go_ret
        exact ⟨rfl, HBe.out⟩
set_option maxHeartbeats 8000000 in
set_option maxRecDepth 100000 in
theorem plays_no (z : Int) (inc : Nat) (A : Option Addr) (n c : Nat) (w : World) (hnb : nodeB z = false) :
    Calls Try.prog 3 #[.int .i64 z, .int .u32 (inc : Int), .slice A n c] w fun e w' => e = .returned (.bool true) ∧ Below w.heap.size w w' := by
  have HNew := Lib.hid (pnew_no z inc w hnb)
  have HRNew := Lib.hid (fun w => rnew_no z inc w hnb)
  have HWk := Lib.hid (fun w => works_any w)
  clear hnb
  go_enter Try.func3, Try.ntmps3
  go_wp2_with fail
  refine HNew.out.mono ?_
  rintro e w1 ⟨rfl, hb⟩
  have HB1 := Lib.hid hb
  clear hb
  go_wp2_with fail
  refine (HRNew.out w1).mono ?_
  rintro e w2 ⟨rfl, hb⟩
  have HB2 := Lib.hid (HB1.out.trans (hb.mono HB1.out.size))
  clear hb
  go_wp2_with fail
  refine (HWk.out w2).mono ?_
  rintro e w3 ⟨rfl, hb⟩
  have HB3 := Lib.hid (HB2.out.trans (hb.mono HB2.out.size))
  clear hb
  go_wp2
  go_ret
  exact ⟨rfl, HB3.out⟩
theorem plays_row (z i : Int) (A : Option Addr) (n c : Nat) (l : List St) (w : World) (hz : -9223372036854775808 ≤ z ∧ z ≤ 9223372036854775807) (hi : 0 ≤ i ∧ i ≤ 4294967295) (hS : SSt w A n l) (hl : ∀ u ∈ l, okSt u) (hnc : n ≤ c) (hm : c ≤ maxLen) :
    Calls Try.prog 3 #[.int .i64 z, .int .u32 i, .slice A n c] w fun e w' => e = .returned (.bool true) ∧ Below w.heap.size w w' := by
  have e : ((i.toNat : Nat) : Int) = i := by omega
  cases hnb : nodeB z with
  | true =>
    have h := plays_yes z i.toNat A n c l w hnb (by omega) hS hl hnc hm
    rwa [e] at h
  | false =>
    have h := plays_no z i.toNat A n c w hnb
    rwa [e] at h
end Go.Proofs.Ytmfokogckfoheaa
