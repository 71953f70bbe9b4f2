/-
  Of two that compare with one index just the first one is taken: the law sodalitylaw16.KvOnce, walked.
-/
import Derived.Test.YtohnkagabpefdaaGreatDoorZj44
import Derived.Test.YtohnkagabpefdaaGreatDoorZj45
namespace Go.Proofs.YtohnkagabpefdaaGreatDoor
open Go.RowKit Go.Rel
set_option linter.unusedSimpArgs false
set_option linter.unusedVariables false

set_option maxHeartbeats 8000000 in
set_option maxRecDepth 100000 in
theorem once_walk (A : Option Addr) (n c : Nat) (ss : List KSt) (key va vb : ByteArray) (w : World) (hS : SK stCs 6 w A n ss) (hok : ∀ s ∈ ss, s.Ok) (hn : n ≤ maxLen) (hky : key.size ≤ maxLen) (hva : va.size ≤ maxLen) (hvb : vb.size ≤ maxLen) (hM : MaxIs w) :
    Calls Tryz.prog 4 #[.slice A n c, .string key, .agg #[.string va, .string vb]] w fun e w' => e = .returned (.bool true) ∧ Below w.heap.size w w' := by
  unfold maxLen at hn
  have hn' : (n : Int) ≤ 9223372036854775807 := by omega
  obtain ⟨g0, hg0⟩ : ∃ g0, w.heap.size = g0 := ⟨_, rfl⟩
  obtain ⟨W0, hW0⟩ : ∃ W0, w.alloc (.cells #[.string va, .string vb] 43) = W0 := ⟨_, rfl⟩
  have hb0 : Below g0 w W0 := by rw [← hW0, ← hg0]; exact below1 _ _ _
  have k0 : W0.heap[g0]? = some (.cells #[.string va, .string vb] 43 (0, 0)) := by rw [← hW0, ← hg0]; exact heap_alloc_new w _
  have f0 := cellsN k0 0 _ rfl
  have f1 := cellsN k0 1 _ rfl
  have HN : Hid (∀ w0, Below g0 w w0 → Calls Tryz.prog 7 #[.int .i64 20] w0 fun e w' => ∃ B Bt, e = .returned (.pointer (some ⟨B, 0, none⟩)) ∧ KvAt (fun k => g0 ≤ k) w' B Bt ⟨mostT 20, [], 0⟩ ∧ Below g0 w w') := Lib.hid fun w0 hw => by
    have hz : g0 ≤ w0.heap.size := by rw [← hg0]; exact hw.size
    refine (knew_any 20 w0 (by decide)).mono ?_
    rintro e w' ⟨B, Bt, e1, h1, h2⟩
    exact ⟨B, Bt, e1, h1.narrow (fun k _ z => Nat.le_trans hz z), hw.trans (h2.mono hz)⟩
  have HNd : Hid (∀ w1, Calls Tryz.prog 8 #[.int .i64 20] w1 fun e w' => e = .returned (.pointer (some ⟨w1.heap.size, 0, none⟩)) ∧ KrAt (· = w1.heap.size) w' w1.heap.size ⟨mostT 20, [], 0⟩ ∧ Below w1.heap.size w1 w') := Lib.hid fun w1 => krnew_any 20 w1 (by decide)
  have HSS := Lib.hid hS
  have HSl := Lib.hid hS.1
  have HOk := Lib.hid hok
  have HM := Lib.hid hM
  have HG0 := Lib.hid hg0
  have HKy := Lib.hid hky
  have HVa := Lib.hid hva
  have HVb := Lib.hid hvb
  have HB0 := Lib.hid hb0
  have HW0 := Lib.hid hW0
  clear hS hok hn hg0 hM hky hva hvb hb0 hW0 k0
  go_enter Tryz.func4, Tryz.ntmps4
  rw [HG0.out]
  go_wp2_with fail
  rw [HW0.out, HG0.out]
  go_quiet (fail)
  generalize hWq : W0.drewN _ = Wq
  have HBq : Hid (Below g0 w Wq) := Lib.hid (by rw [← hWq]; exact below_drewN HB0.out _)
  clear hWq f0 f1
  go_wp2_with fail
  refine (HN.out Wq HBq.out).mono ?_
  rintro e w1 ⟨Bp, Bt, rfl, hp, hb1⟩
  have HP1 := Lib.hid hp
  have HB1 := Lib.hid hb1
  clear HN hp hb1
  go_wp2_with fail
  refine (HNd.out w1).mono ?_
  rintro e w2 ⟨rfl, hd, hb2⟩
  obtain ⟨Bd, hBd⟩ : ∃ Bd, w1.heap.size = Bd := ⟨_, rfl⟩
  rw [hBd] at hd ⊢
  have HBo := Lib.hid (both_new HM.out HG0.out HP1.out HB1.out hd hBd hb2)
  have HB2 : Hid (Below g0 w w2) := Lib.hid (HB1.out.trans (hb2.mono (by rw [← HG0.out]; have := HB1.out.size; exact this)))
  clear HNd hd hb2 hBd HP1 HB1
  go_wp2
  go_loopw [10, 12] (fun av iv wr => ∃ (k : Nat) (t : Tb Kp), k ≤ n ∧ k ≤ 40 ∧ av = .int .u64 (k : Int) ∧ iv = .int .i64 (k : Int) ∧ Hid (Both (fun k => g0 ≤ k) wr Bp Bt t Bd t) ∧ Hid (Below g0 w wr) ∧ Hid (IxOk t k)) (fun _ iv _ => n - (intOf iv).toNat)
  case atStart => exact ⟨0, _, Nat.zero_le _, Nat.zero_le _, rfl, rfl, HBo, HB2, Lib.hid (IxOk.new _)⟩
  case round =>
    obtain ⟨k, t, hk, hk2, rfl, rfl, hbo, hb, hix⟩ := hrel
    have hgw : g0 ≤ wr.heap.size := by have := hb.out.size; have := HG0.out; omega
    rcases (show (¬ k < n) ∨ (k < n ∧ ¬ k < 40) ∨ (k < n ∧ k < 40) by omega) with h1 | ⟨h1, h2⟩ | ⟨h1, h2⟩
    case inr.inr =>
      have hkl : k < ss.length := by rw [HSl.out]; exact h1
      have ht := HSS.out.below (w' := wr) (by rw [HG0.out]; exact hb.out)
      obtain ⟨b, off, rfl, hbl, hit⟩ := ht.at_ h1 hkl
      have hso := HOk.out ss[k] (List.getElem_mem _)
      obtain ⟨s, hs⟩ : ∃ s, ss[k] = s := ⟨_, rfl⟩
      rw [hs] at hit hso
      obtain ⟨c0, c1, c2, c3, c4, c5⟩ := st_cells hit
      obtain ⟨n1, hn1⟩ : ∃ n1, k + 1 = n1 := ⟨_, rfl⟩
      have HN1 := Lib.hid hn1
      obtain ⟨W3, hW3⟩ : ∃ W3, wr.alloc (.cells #[.int .i64 s.kind, .string s.key, .string s.val, .int .u64 (s.old : Int), .int .u64 (s.ses : Int), .int .u64 (n1 : Int)] TS) = W3 := ⟨_, rfl⟩
      have hb3 : Below wr.heap.size wr W3 := by rw [← hW3]; exact below1 _ _ _
      have HB3 : Hid (Below g0 w W3) := Lib.hid (hb.out.trans (hb3.mono hgw))
      have HSt := Lib.hid (step_any ({ s with ix := n1 } : KSt) W3 (hbo.out.below hb3) ⟨hso.key, hso.val, hso.old, hso.ses, by show n1 < _; omega⟩)
      unfold stV at HSt
      obtain ⟨t', ht'⟩ : ∃ t', ({ s with ix := n1 } : KSt).after t = t' := ⟨_, rfl⟩
      rw [ht'] at HSt
      have HIx : Hid (IxOk t' n1) := Lib.hid (by rw [← ht']; exact hix.out.after ({ s with ix := n1 } : KSt) (by show k ≤ n1; omega) (by show 1 ≤ n1; omega))
      have HW3 := Lib.hid hW3
      have rw1 : IntKind.u64.wrap ((k : Int) + 1) = (n1 : Int) := by rw [← hn1]; simp [IntKind.wrap, IntKind.bits, IntKind.signed]; omega
      have q1 : (k : Int) < (n : Int) := by omega
      have q2 : (k : Int) < 40 := by omega
      have q0 : (0 : Int) ≤ (k : Int) := by omega
      clear ht hit hso hs ht' hkl hb3 hW3 hn1
      go_wp2_with fail
      rw [HW3.out]
      refine HSt.out.mono ?_
      rintro e w4 ⟨rfl, hb4, hbt⟩
      have HB4 : Hid (Below g0 w w4) := Lib.hid (HB3.out.trans (hbt.below (by have := HB3.out.size; have := HG0.out; omega) fun k hk hs => by omega))
      have HO4 := Lib.hid hb4
      clear HSt hb4 hbt
      go_wp2
      go_roundw
      case rel => exact ⟨n1, t', by rw [← HN1.out]; omega, by rw [← HN1.out]; omega, rfl, by rw [← HN1.out]; go_num, HO4, HB4, HIx⟩
      case measure => simp [intOf]; omega
    case inl =>
      have q1 : ¬ (k : Int) < (n : Int) := by omega
      obtain ⟨n1, hn1⟩ : ∃ n1, k + 1 = n1 := ⟨_, rfl⟩
      obtain ⟨n2, hn2⟩ : ∃ n2, k + 2 = n2 := ⟨_, rfl⟩
      have HN1 := Lib.hid hn1
      have HN2 := Lib.hid hn2
      obtain ⟨r, hr⟩ : ∃ r, entO t key = r := ⟨_, rfl⟩
      obtain ⟨is, his⟩ : ∃ is, isO t key = is := ⟨_, rfl⟩
      obtain ⟨Sp, hkp⟩ := hbo.out.read
      have HG := Lib.hid (kget_any key hkp)
      rw [hr, his] at HG
      have HTl := Lib.hid hkp.tlt
      have hf := once_first (k := key) hix.out va n1
      rw [hr] at hf
      obtain ⟨t1, ht1⟩ : ∃ t1, kCas t key va r.ix n1 = t1 := ⟨_, rfl⟩
      rw [ht1] at hf
      have hrx : r.ix ≤ k := by rw [← hr]; exact (isO_ix hix.out).2
      have HF := Lib.hid hf
      have HT1 := Lib.hid ht1
      have HRx := Lib.hid hrx
      have rw1 : IntKind.u64.wrap ((k : Int) + 1) = (n1 : Int) := by rw [← hn1]; simp [IntKind.wrap, IntKind.bits, IntKind.signed]; omega
      have rw2 : IntKind.u64.wrap ((k : Int) + 2) = (n2 : Int) := by rw [← hn2]; simp [IntKind.wrap, IntKind.bits, IntKind.signed]; omega
      unfold enV Kt.trV at HG
      clear hkp hr his hf ht1 hrx hn1 hn2
      go_wp2_with fail
      refine HG.out.mono ?_
      rintro e w5 ⟨rfl, hb5⟩
      obtain ⟨Y1, hY1⟩ : ∃ Y1, w5.heap.size = Y1 := ⟨_, rfl⟩
      obtain ⟨W5, hW5⟩ : ∃ W5, w5.alloc (.cells #[.string r.key, .string r.val.v, .int .u64 (r.val.ses : Int), .int .u64 (r.val.lck : Int), .int .u64 (r.made : Int), .int .u64 (r.ix : Int)] TEn) = W5 := ⟨_, rfl⟩
      have hbw : Below wr.heap.size wr W5 := by rw [← hW5]; exact hb5.alloc hb5.size _
      have ky : W5.heap[Y1]? = some (.cells #[.string r.key, .string r.val.v, .int .u64 (r.val.ses : Int), .int .u64 (r.val.lck : Int), .int .u64 (r.made : Int), .int .u64 (r.ix : Int)] TEn (0, 0)) := by rw [← hW5, ← hY1]; exact heap_alloc_new w5 _
      have hYt : ¬ Y1 = Bt := by have := HTl.out; have := hb5.size; omega
      have HB5 : Hid (Below g0 w W5) := Lib.hid (hb.out.trans (hbw.mono hgw))
      have hbo5 := hbo.out.below hbw
      have HBo5 := Lib.hid hbo5
      obtain ⟨Sq, k1, k2, -, k4⟩ := hbo5.left
      have HC1 := Lib.hid (kcas_any key va r.ix n1 k1 k2 (by have := HN1.out; omega) HKy.out HVa.out)
      rw [HT1.out] at HC1
      have HL1 := Lib.hid k4
      have HYt := Lib.hid hYt
      have HKyb := Lib.hid ky
      have HW5 := Lib.hid hW5
      have HY1 := Lib.hid hY1
      clear hb5 hY1 hW5 hbw ky hYt hbo5 k1 k2 k4 HG
      go_wp2_with fail
      rw [HW5.out]
      refine HC1.out.mono ?_
      rintro e w6 ⟨rfl, hk6, hb6⟩
      obtain ⟨hbo6, hbt6⟩ := HL1.out w6 t1.2 _ (fun _ => False) hk6 (fun k z => z) (fun k z => z.elim) hb6
      have hbo6' := hbo6.wide (O' := fun k => g0 ≤ k) (fun k z => z.1) (fun z => by have := HM.out.lt; have := HG0.out; omega)
      have HB6 : Hid (Below g0 w w6) := Lib.hid (HB5.out.trans (hbt6.below (by have := HB5.out.size; have := HG0.out; omega) fun k hk hs => by omega))
      obtain ⟨d0, d1, d2, d3, d4, d5⟩ := Kt.blk ((hb6.block Y1 (block_lt HKyb.out) HYt.out).trans HKyb.out)
      have hyl := block_lt ((hb6.block Y1 (block_lt HKyb.out) HYt.out).trans HKyb.out)
      obtain ⟨Sr, m1, m2, -, m4⟩ := hbo6'.left
      obtain ⟨t2, ht2⟩ : ∃ t2, kCas t1.2 key vb r.ix n2 = t2 := ⟨_, rfl⟩
      have HC2 := Lib.hid (kcas_any key vb r.ix n2 m1 m2 (by have := HN2.out; omega) HKy.out HVb.out)
      rw [ht2] at HC2
      have HT2 := Lib.hid ht2
      have HL2 := Lib.hid m4
      clear hk6 hb6 hbo6 hbt6 hbo6' m1 m2 m4 ht2 HC1 HL1
      rw [HY1.out]
      go_wp2_with fail
      refine HC2.out.mono ?_
      rintro e w7 ⟨rfl, hk7, hb7⟩
      obtain ⟨hbo7, hbt7⟩ := HL2.out w7 t2.2 _ (fun _ => False) hk7 (fun k z => z) (fun k z => z.elim) hb7
      have HBo7 := Lib.hid (hbo7.wide (O' := fun k => g0 ≤ k) (fun k z => z.1) (fun z => by have := HM.out.lt; have := HG0.out; omega))
      have HB7 : Hid (Below g0 w w7) := Lib.hid (HB6.out.trans (hbt7.below (by have := HB6.out.size; have := HG0.out; omega) fun k hk hs => by omega))
      clear hk7 hb7 hbo7 hbt7 HC2 HL2 d0 d1 d2 d3 d4 d5 hyl
      obtain ⟨t1n, t1t⟩ := t1
      obtain ⟨t2n, t2t⟩ := t2
      simp only at HF HBo7 HT2
      rcases HF.out with ⟨rfl, ⟨m, hgm⟩, hkb⟩ | rfl | rfl | rfl
      case inr.inl =>
        clear HF
        have HWk := Lib.hid (works_any w7 HBo7.out.mx.1)
        go_wp2_with fail
        refine HWk.out.mono ?_
        rintro e w9 ⟨rfl, hb9⟩
        have HB9 : Hid (Below g0 w w9) := Lib.hid (HB7.out.trans (hb9.mono (by have := HB7.out.size; have := HG0.out; omega)))
        clear hb9 HWk
        go_wp2
        go_ret
        exact ⟨rfl, HB9.out⟩
      case inr.inr.inl =>
        clear HF
        have HWk := Lib.hid (works_any w7 HBo7.out.mx.1)
        go_wp2_with fail
        refine HWk.out.mono ?_
        rintro e w9 ⟨rfl, hb9⟩
        have HB9 : Hid (Below g0 w w9) := Lib.hid (HB7.out.trans (hb9.mono (by have := HB7.out.size; have := HG0.out; omega)))
        clear hb9 HWk
        go_wp2
        go_ret
        exact ⟨rfl, HB9.out⟩
      case inr.inr.inr =>
        clear HF
        have HWk := Lib.hid (works_any w7 HBo7.out.mx.1)
        go_wp2_with fail
        refine HWk.out.mono ?_
        rintro e w9 ⟨rfl, hb9⟩
        have HB9 : Hid (Below g0 w w9) := Lib.hid (HB7.out.trans (hb9.mono (by have := HB7.out.size; have := HG0.out; omega)))
        clear hb9 HWk
        go_wp2
        go_ret
        exact ⟨rfl, HB9.out⟩
      have h2 := once_second (v := vb) (old := r.ix) hgm (by have := HRx.out; have := HN1.out; omega) hkb (i := n2)
      rw [HT2.out] at h2
      simp only at h2
      obtain ⟨rfl, h2⟩ := h2
      obtain ⟨St, hkt⟩ := HBo7.out.read
      have HG2 := Lib.hid (kget_any key hkt)
      obtain ⟨y, hy⟩ : ∃ y : En, (⟨key, { r.val with v := va }, m, n1⟩ : En) = y := ⟨_, rfl⟩
      have hent : entO t2t key = y := by unfold entO; rw [hgm]; exact hy
      have hise : isO t2t key = true := by unfold isO; rw [hgm]; rfl
      rw [hent, hise] at HG2
      have s1 : (y.val.v.toList == va.toList) = true := by rw [← hy]; exact text_same.2 rfl
      have s2 : ((y.ix : Int) == (n1 : Int)) = true := by rw [← hy]; simp
      have HBw7 := Lib.hid HBo7.out
      unfold enV Kt.trV at HG2
      clear hkt hy hent hise hgm
      go_wp2_with fail
      refine HG2.out.mono ?_
      rintro e w8 ⟨rfl, hb8⟩
      obtain ⟨W8, hW8⟩ : ∃ W8, w8.alloc (.cells #[.string y.key, .string y.val.v, .int .u64 (y.val.ses : Int), .int .u64 (y.val.lck : Int), .int .u64 (y.made : Int), .int .u64 (y.ix : Int)] TEn) = W8 := ⟨_, rfl⟩
      have hbw8 : Below w7.heap.size w7 W8 := by rw [← hW8]; exact hb8.alloc hb8.size _
      have HB8 : Hid (Below g0 w W8) := Lib.hid (HB7.out.trans (hbw8.mono (by have := HB7.out.size; have := HG0.out; omega)))
      have HWk := Lib.hid (works_any W8 (HBo7.out.below hbw8).mx.1)
      have HW8 := Lib.hid hW8
      clear hb8 hbw8 hW8 HG2
      rcases h2 with rfl | rfl
      all_goals
        go_wp2_with fail
        rw [HW8.out]
        try go_wp2_with fail
        refine HWk.out.mono ?_
        rintro e w9 ⟨rfl, hb9⟩
        have HB9 : Hid (Below g0 w w9) := Lib.hid (HB8.out.trans (hb9.mono (by have := HB8.out.size; have := HG0.out; omega)))
        clear hb9 HWk
        go_wp2
        go_ret
        exact ⟨rfl, HB9.out⟩
    case inr.inl =>
      have q1 : (k : Int) < (n : Int) := by omega
      have q2 : ¬ (k : Int) < 40 := by omega
      obtain ⟨n1, hn1⟩ : ∃ n1, k + 1 = n1 := ⟨_, rfl⟩
      obtain ⟨n2, hn2⟩ : ∃ n2, k + 2 = n2 := ⟨_, rfl⟩
      have HN1 := Lib.hid hn1
      have HN2 := Lib.hid hn2
      obtain ⟨r, hr⟩ : ∃ r, entO t key = r := ⟨_, rfl⟩
      obtain ⟨is, his⟩ : ∃ is, isO t key = is := ⟨_, rfl⟩
      obtain ⟨Sp, hkp⟩ := hbo.out.read
      have HG := Lib.hid (kget_any key hkp)
      rw [hr, his] at HG
      have HTl := Lib.hid hkp.tlt
      have hf := once_first (k := key) hix.out va n1
      rw [hr] at hf
      obtain ⟨t1, ht1⟩ : ∃ t1, kCas t key va r.ix n1 = t1 := ⟨_, rfl⟩
      rw [ht1] at hf
      have hrx : r.ix ≤ k := by rw [← hr]; exact (isO_ix hix.out).2
      have HF := Lib.hid hf
      have HT1 := Lib.hid ht1
      have HRx := Lib.hid hrx
      have rw1 : IntKind.u64.wrap ((k : Int) + 1) = (n1 : Int) := by rw [← hn1]; simp [IntKind.wrap, IntKind.bits, IntKind.signed]; omega
      have rw2 : IntKind.u64.wrap ((k : Int) + 2) = (n2 : Int) := by rw [← hn2]; simp [IntKind.wrap, IntKind.bits, IntKind.signed]; omega
      unfold enV Kt.trV at HG
      clear hkp hr his hf ht1 hrx hn1 hn2
      go_wp2_with fail
      refine HG.out.mono ?_
      rintro e w5 ⟨rfl, hb5⟩
      obtain ⟨Y1, hY1⟩ : ∃ Y1, w5.heap.size = Y1 := ⟨_, rfl⟩
      obtain ⟨W5, hW5⟩ : ∃ W5, w5.alloc (.cells #[.string r.key, .string r.val.v, .int .u64 (r.val.ses : Int), .int .u64 (r.val.lck : Int), .int .u64 (r.made : Int), .int .u64 (r.ix : Int)] TEn) = W5 := ⟨_, rfl⟩
      have hbw : Below wr.heap.size wr W5 := by rw [← hW5]; exact hb5.alloc hb5.size _
      have ky : W5.heap[Y1]? = some (.cells #[.string r.key, .string r.val.v, .int .u64 (r.val.ses : Int), .int .u64 (r.val.lck : Int), .int .u64 (r.made : Int), .int .u64 (r.ix : Int)] TEn (0, 0)) := by rw [← hW5, ← hY1]; exact heap_alloc_new w5 _
      have hYt : ¬ Y1 = Bt := by have := HTl.out; have := hb5.size; omega
      have HB5 : Hid (Below g0 w W5) := Lib.hid (hb.out.trans (hbw.mono hgw))
      have hbo5 := hbo.out.below hbw
      have HBo5 := Lib.hid hbo5
      obtain ⟨Sq, k1, k2, -, k4⟩ := hbo5.left
      have HC1 := Lib.hid (kcas_any key va r.ix n1 k1 k2 (by have := HN1.out; omega) HKy.out HVa.out)
      rw [HT1.out] at HC1
      have HL1 := Lib.hid k4
      have HYt := Lib.hid hYt
      have HKyb := Lib.hid ky
      have HW5 := Lib.hid hW5
      have HY1 := Lib.hid hY1
      clear hb5 hY1 hW5 hbw ky hYt hbo5 k1 k2 k4 HG
      go_wp2_with fail
      rw [HW5.out]
      refine HC1.out.mono ?_
      rintro e w6 ⟨rfl, hk6, hb6⟩
      obtain ⟨hbo6, hbt6⟩ := HL1.out w6 t1.2 _ (fun _ => False) hk6 (fun k z => z) (fun k z => z.elim) hb6
      have hbo6' := hbo6.wide (O' := fun k => g0 ≤ k) (fun k z => z.1) (fun z => by have := HM.out.lt; have := HG0.out; omega)
      have HB6 : Hid (Below g0 w w6) := Lib.hid (HB5.out.trans (hbt6.below (by have := HB5.out.size; have := HG0.out; omega) fun k hk hs => by omega))
      obtain ⟨d0, d1, d2, d3, d4, d5⟩ := Kt.blk ((hb6.block Y1 (block_lt HKyb.out) HYt.out).trans HKyb.out)
      have hyl := block_lt ((hb6.block Y1 (block_lt HKyb.out) HYt.out).trans HKyb.out)
      obtain ⟨Sr, m1, m2, -, m4⟩ := hbo6'.left
      obtain ⟨t2, ht2⟩ : ∃ t2, kCas t1.2 key vb r.ix n2 = t2 := ⟨_, rfl⟩
      have HC2 := Lib.hid (kcas_any key vb r.ix n2 m1 m2 (by have := HN2.out; omega) HKy.out HVb.out)
      rw [ht2] at HC2
      have HT2 := Lib.hid ht2
      have HL2 := Lib.hid m4
      clear hk6 hb6 hbo6 hbt6 hbo6' m1 m2 m4 ht2 HC1 HL1
      rw [HY1.out]
      go_wp2_with fail
      refine HC2.out.mono ?_
      rintro e w7 ⟨rfl, hk7, hb7⟩
      obtain ⟨hbo7, hbt7⟩ := HL2.out w7 t2.2 _ (fun _ => False) hk7 (fun k z => z) (fun k z => z.elim) hb7
      have HBo7 := Lib.hid (hbo7.wide (O' := fun k => g0 ≤ k) (fun k z => z.1) (fun z => by have := HM.out.lt; have := HG0.out; omega))
      have HB7 : Hid (Below g0 w w7) := Lib.hid (HB6.out.trans (hbt7.below (by have := HB6.out.size; have := HG0.out; omega) fun k hk hs => by omega))
      clear hk7 hb7 hbo7 hbt7 HC2 HL2 d0 d1 d2 d3 d4 d5 hyl
      obtain ⟨t1n, t1t⟩ := t1
      obtain ⟨t2n, t2t⟩ := t2
      simp only at HF HBo7 HT2
      rcases HF.out with ⟨rfl, ⟨m, hgm⟩, hkb⟩ | rfl | rfl | rfl
      case inr.inl =>
        clear HF
        have HWk := Lib.hid (works_any w7 HBo7.out.mx.1)
        go_wp2_with fail
        refine HWk.out.mono ?_
        rintro e w9 ⟨rfl, hb9⟩
        have HB9 : Hid (Below g0 w w9) := Lib.hid (HB7.out.trans (hb9.mono (by have := HB7.out.size; have := HG0.out; omega)))
        clear hb9 HWk
        go_wp2
        go_ret
        exact ⟨rfl, HB9.out⟩
      case inr.inr.inl =>
        clear HF
        have HWk := Lib.hid (works_any w7 HBo7.out.mx.1)
        go_wp2_with fail
        refine HWk.out.mono ?_
        rintro e w9 ⟨rfl, hb9⟩
        have HB9 : Hid (Below g0 w w9) := Lib.hid (HB7.out.trans (hb9.mono (by have := HB7.out.size; have := HG0.out; omega)))
        clear hb9 HWk
        go_wp2
        go_ret
        exact ⟨rfl, HB9.out⟩
      case inr.inr.inr =>
        clear HF
        have HWk := Lib.hid (works_any w7 HBo7.out.mx.1)
        go_wp2_with fail
        refine HWk.out.mono ?_
        rintro e w9 ⟨rfl, hb9⟩
        have HB9 : Hid (Below g0 w w9) := Lib.hid (HB7.out.trans (hb9.mono (by have := HB7.out.size; have := HG0.out; omega)))
        clear hb9 HWk
        go_wp2
        go_ret
        exact ⟨rfl, HB9.out⟩
      have h2 := once_second (v := vb) (old := r.ix) hgm (by have := HRx.out; have := HN1.out; omega) hkb (i := n2)
      rw [HT2.out] at h2
      simp only at h2
      obtain ⟨rfl, h2⟩ := h2
      obtain ⟨St, hkt⟩ := HBo7.out.read
      have HG2 := Lib.hid (kget_any key hkt)
      obtain ⟨y, hy⟩ : ∃ y : En, (⟨key, { r.val with v := va }, m, n1⟩ : En) = y := ⟨_, rfl⟩
      have hent : entO t2t key = y := by unfold entO; rw [hgm]; exact hy
      have hise : isO t2t key = true := by unfold isO; rw [hgm]; rfl
      rw [hent, hise] at HG2
      have s1 : (y.val.v.toList == va.toList) = true := by rw [← hy]; exact text_same.2 rfl
      have s2 : ((y.ix : Int) == (n1 : Int)) = true := by rw [← hy]; simp
      have HBw7 := Lib.hid HBo7.out
      unfold enV Kt.trV at HG2
      clear hkt hy hent hise hgm
      go_wp2_with fail
      refine HG2.out.mono ?_
      rintro e w8 ⟨rfl, hb8⟩
      obtain ⟨W8, hW8⟩ : ∃ W8, w8.alloc (.cells #[.string y.key, .string y.val.v, .int .u64 (y.val.ses : Int), .int .u64 (y.val.lck : Int), .int .u64 (y.made : Int), .int .u64 (y.ix : Int)] TEn) = W8 := ⟨_, rfl⟩
      have hbw8 : Below w7.heap.size w7 W8 := by rw [← hW8]; exact hb8.alloc hb8.size _
      have HB8 : Hid (Below g0 w W8) := Lib.hid (HB7.out.trans (hbw8.mono (by have := HB7.out.size; have := HG0.out; omega)))
      have HWk := Lib.hid (works_any W8 (HBo7.out.below hbw8).mx.1)
      have HW8 := Lib.hid hW8
      clear hb8 hbw8 hW8 HG2
      rcases h2 with rfl | rfl
      all_goals
        go_wp2_with fail
        rw [HW8.out]
        try go_wp2_with fail
        refine HWk.out.mono ?_
        rintro e w9 ⟨rfl, hb9⟩
        have HB9 : Hid (Below g0 w w9) := Lib.hid (HB8.out.trans (hb9.mono (by have := HB8.out.size; have := HG0.out; omega)))
        clear hb9 HWk
        go_wp2
        go_ret
        exact ⟨rfl, HB9.out⟩
end Go.Proofs.YtohnkagabpefdaaGreatDoor
