/-
  Load, walked (layer 16).
-/
import Derived.Test.YtohnkagabpefdaaDoorZj41
namespace Go.Proofs.YtohnkagabpefdaaDoor
open Go.RowKit Go.Rel Go.Shelf
set_option linter.unusedSimpArgs false
set_option linter.unusedVariables false

/-- What comes into Load. -/
def InE (e : En) : Prop := e.key.size ≤ maxLen ∧ e.val.v.size ≤ maxLen ∧ e.val.ses < 18446744073709551616 ∧ e.val.lck < 18446744073709551616 ∧ e.made < 18446744073709551616 ∧ e.ix < 18446744073709551616
def loadCks (X last : Nat) : List Ck := [⟨.func (.func 47) #[] #[], 2, fun e => keyB e.key.data.toList && decide (e.val.v.size ≤ 64)⟩, ⟨.func (.func 50) #[] #[.pointer (some ⟨X, 0, none⟩)], 2, fun e => decide (e.made ≤ e.ix) && decide (e.ix ≤ last)⟩]
theorem loadCks_said (X last : Nat) (e : En) : firstE (saidOf (loadCks X last) e) = none ↔ fitE last e := by
  unfold loadCks saidOf fitE
  simp only [List.map_cons, List.map_nil]
  rw [firstE_cons, firstE_cons, firstE_nil]
  by_cases h1 : keyB e.key.data.toList = true <;> by_cases h2 : e.val.v.size ≤ 64 <;> by_cases h3 : e.made ≤ e.ix <;> by_cases h4 : e.ix ≤ last <;> simp [h1, h2, h3, h4]
theorem loadCks_some (X last : Nat) (e : En) (x : Nat) (h : firstE (saidOf (loadCks X last) e) = some x) : x = 2 := by
  unfold firstE at h
  obtain ⟨y, hy, rfl⟩ := Option.map_eq_some_iff.1 h
  have := List.mem_of_find?_eq_some hy
  unfold loadCks saidOf at this
  simp only [List.map_cons, List.map_nil, List.mem_cons, List.not_mem_nil, or_false] at this
  rcases this with rfl | rfl <;> rfl
theorem load_fault (X last : Nat) (l : List En) : (faultE (loadCks X last) l = 0 ∧ ∀ e ∈ l, fitE last e) ∨ (faultE (loadCks X last) l = 2 ∧ ¬ ∀ e ∈ l, fitE last e) := by
  by_cases h : ∀ e ∈ l, fitE last e
  · exact .inl ⟨fault_none fun e he => (loadCks_said X last e).2 (h e he), h⟩
  · refine .inr ⟨?_, h⟩
    unfold faultE
    cases hf : l.findSome? fun e => firstE (saidOf (loadCks X last) e) with
    | none => exact absurd (fun e he => (loadCks_said X last e).1 (List.findSome?_eq_none_iff.1 hf e he)) h
    | some x =>
      obtain ⟨e, _, hx⟩ := List.exists_of_findSome?_eq_some hf
      exact loadCks_some X last e x hx
theorem KvOk.loaded {m : Nat} {l : List En} {b last : Nat} (hm : 1 ≤ m ∧ m ≤ 64) (hl : l.length ≤ m) (hr : Rises l) (hf : ∀ e ∈ l, fitE last e) (hi : ∀ e ∈ l, InE e) (hb : b < 18446744073709551616) (hx : ∀ e ∈ l, e.ix ≤ b) : KvOk ⟨m, l, b⟩ :=
  ⟨⟨hm, hl, hr.sr, hb, fun x h => ⟨(hi x h).2.2.2.2.1, hx x h⟩, fun x h => (hi x h).1⟩, fun x h => (hf x h).1, fun x h => ⟨(hf x h).2.1, (hi x h).2.2.1, (hi x h).2.2.2.1⟩⟩
def LoadPost (w : World) (M : Nat) (l : List En) (last : Nat) (e : Ending) (w' : World) : Prop := Below w.heap.size w w' ∧ ((LoadOk M l last ∧ ∃ B Bt, e = .returned (.tuple #[.pointer (some ⟨B, 0, none⟩), .int .i64 0]) ∧ KvAt (fun k => w.heap.size ≤ k) w' B Bt ⟨M, l, last⟩) ∨ (¬ LoadOk M l last ∧ e = .returned (.tuple #[.pointer none, .int .i64 2])))
structure LdSt (w wr : World) (M : Nat) (l : List En) (last B Bt k b : Nat) : Prop where
  kv : KvAt (fun k => w.heap.size ≤ k) wr B Bt ⟨M, l.take k, b⟩
  below : Below w.heap.size w wr
  le : b ≤ last
/-- The store at index j of an entry. -/
def ldT (M : Nat) (l : List En) (e : En) (b : Nat) : Nat → Tb Kp
  | 0 => ⟨M, l, b⟩
  | 1 => ⟨M, l ++ [{ e with ix := e.made }], max b e.made⟩
  | _ => ⟨M, l ++ [e], max (max b e.made) e.ix⟩
set_option maxHeartbeats 8000000 in
set_option maxRecDepth 100000 in
theorem load_any (m : Int) (A : Option Addr) (n c : Nat) (l : List En) (last : Nat) (w : World) (hm : -9223372036854775808 ≤ m ∧ m ≤ 9223372036854775807) (hS : SK enC 6 w A n l) (hn : n ≤ maxLen) (hi : ∀ e ∈ l, InE e) (hlast : last < 18446744073709551616) (hM : MaxIs w) :
    Calls Tryd.prog 5 #[.int .i64 m, .slice A n c, .int .u64 (last : Int)] w (LoadPost w (mostT m) l last) := by
  have hn0 := hn
  unfold maxLen at hn
  have hn' : (n : Int) ≤ 9223372036854775807 := by omega
  have HR := Lib.hid (rising_any A n c l w hS hn0)
  have HMo := Lib.hid (mostT_le m)
  have HNew := Lib.hid (fun W => knew_any m W hm)
  obtain ⟨M, hMM⟩ : ∃ M, mostT m = M := ⟨_, rfl⟩
  rw [hMM] at HNew HMo ⊢
  have HSS := Lib.hid hS
  have HSl := Lib.hid hS.1
  have HIn := Lib.hid hi
  have HLa := Lib.hid hlast
  have HM := Lib.hid hM
  have HN0 := Lib.hid hn0
  clear hS hn hn0 hi hlast hM hm hMM
  go_enter Tryd.func5, Tryd.ntmps5
  go_wp2_with fail
  refine HR.out.mono ?_
  rintro e w1 ⟨r, rfl, hr, hb1⟩
  have HB1 := Lib.hid hb1
  cases r with
  | false =>
    have HNo : Hid (¬ LoadOk M l last) := Lib.hid fun z => by
      have := hr.2 z.2.1
      cases this
    clear hr hb1 HR
    go_wp2
    exact bodyPost_ret (v := .tuple #[.pointer none, .int .i64 2]) (by simp [results, Tryd.results5, go_sem]) rfl ⟨HB1.out, .inr ⟨HNo.out, rfl⟩⟩
  | true =>
    have HRi := Lib.hid (hr.1 rfl)
    clear hr hb1 HR
    go_wp2_with fail
    refine (ofl_at last w1).mono ?_
    rintro e w2 ⟨rfl, kx, kz, hb2⟩
    obtain ⟨X, hX⟩ : ∃ X, w1.heap.size = X := ⟨_, rfl⟩
    rw [hX] at kx kz ⊢
    have HB2 := Lib.hid (step_trans HB1.out hb2)
    have hM2 : MaxIs w2 := (HM.out.keep HB2.out)
    have HFa := Lib.hid (fault_any (loadCks X last) l (some ⟨X + 1, 0, none⟩) A 2 c w2 (SK.cks kz rfl) (by rw [HSl.out]; exact HSS.out.below HB2.out) (by show 2 ≤ 100; decide) (by rw [HSl.out]; exact HN0.out) (fun e he ck hck => by
      have hin := HIn.out e he
      simp only [loadCks, List.mem_cons, List.not_mem_nil, or_false] at hck
      rcases hck with rfl | rfl
      · exact ⟨Does.of (enters_of Tryd.func47 (by kernel_rfl) rfl) fun W hW => of1_any e W (hM2.keep hW) hin.1 hin.2.1, by show 0 < 2; decide, by show 2 < 100; decide, rfl⟩
      · exact ⟨Does.of (enters_of Tryd.func50 (by kernel_rfl) rfl) fun W hW => of2_any last X e W ((hW.block X (block_lt kx)).trans kx), by show 0 < 2; decide, by show 2 < 100; decide, rfl⟩))
    rw [show (loadCks X last).length = 2 from rfl, HSl.out] at HFa
    have hlf := load_fault X last l
    obtain ⟨fe, hfe⟩ : ∃ fe, faultE (loadCks X last) l = fe := ⟨_, rfl⟩
    rw [hfe] at HFa hlf
    have HLf := Lib.hid hlf
    clear hb2 kx kz hM2 hX hfe hlf
    go_wp2_with fail
    refine HFa.out.mono ?_
    rintro e w3 ⟨rfl, hb3⟩
    have HB3 := Lib.hid (step_trans HB2.out hb3)
    clear hb3 HFa
    rcases HLf.out with ⟨rfl, hall⟩ | ⟨rfl, hno⟩
    case inr =>
      have HNo : Hid (¬ LoadOk M l last) := Lib.hid fun z => hno z.2.2
      clear hno HLf
      go_wp2
      exact bodyPost_ret (v := .tuple #[.pointer none, .int .i64 2]) (by simp [results, Tryd.results5, go_sem]) rfl ⟨HB3.out, .inr ⟨HNo.out, rfl⟩⟩
    have HAll := Lib.hid hall
    clear hall HLf
    go_wp2_with fail
    refine (HNew.out w3).mono ?_
    rintro e w4 ⟨B, Bt, rfl, hk4, hb4⟩
    have HL0 : Hid (LdSt w w4 M l last B Bt 0 0) := Lib.hid ⟨hk4.narrow fun k _ z => Nat.le_trans HB3.out.size z, step_trans HB3.out hb4, Nat.zero_le _⟩
    clear hk4 hb4 HNew
    go_wp2
    go_loopw [27] (fun iv wr => ∃ k b : Nat, k ≤ n ∧ k ≤ M ∧ iv = .int .i64 (k : Int) ∧ Hid (LdSt w wr M l last B Bt k b)) (fun iv _ => n - (intOf iv).toNat)
    case atStart => exact ⟨0, 0, Nat.zero_le _, Nat.zero_le _, rfl, HL0⟩
    case round =>
      obtain ⟨k, b, hk, hkM, rfl, hld⟩ := hrel
      have hgw : w.heap.size ≤ wr.heap.size := hld.out.below.size
      by_cases hlt : k < n
      · have hkl : k < l.length := by rw [HSl.out]; exact hlt
        obtain ⟨bk, off, rfl, hbl, hit⟩ := (HSS.out.below hld.out.below).at_ hlt hkl
        have hin := HIn.out l[k] (List.getElem_mem _)
        have hfit := HAll.out l[k] (List.getElem_mem _)
        have hlt2 : ∀ x ∈ l.take k, ltT x.key l[k].key = true := fun x hx => by
          obtain ⟨j, hj, rfl⟩ := List.getElem_of_mem hx
          rw [List.length_take] at hj
          rw [List.getElem_take]
          exact HRi.out.sr.get hkl (i := j) (by omega)
        have hst : l.take (k + 1) = l.take k ++ [l[k]] := List.take_succ_eq_append_getElem hkl
        have hlen : (l.take k).length = k := by rw [List.length_take]; omega
        obtain ⟨y, hy⟩ : ∃ y, l[k] = y := ⟨_, rfl⟩
        rw [hy] at hit hin hfit hlt2 hst
        obtain ⟨T, hT⟩ : ∃ T, l.take k = T := ⟨_, rfl⟩
        rw [hT] at hlt2 hst hlen
        have hkv := hld.out.kv
        rw [hT] at hkv
        obtain ⟨e0, e1, e2, e3, e4, e5⟩ := Kt.tr_cells hit
        obtain ⟨Y, hY⟩ : ∃ Y, wr.heap.size = Y := ⟨_, rfl⟩
        obtain ⟨W5, hW5⟩ : ∃ W5, (wr.alloc (.cells #[.string y.key, .string y.val.v, .int .u64 (y.val.ses : Int), .int .u64 (y.val.lck : Int), .int .u64 (y.made : Int), .int .u64 (y.ix : Int)] TEn)).alloc (.cells #[.int .u64 (y.made : Int), .int .u64 (y.ix : Int)] 23) = W5 := ⟨_, rfl⟩
        have hb5 : Below wr.heap.size wr W5 := by rw [← hW5]; exact below2 _ _ _ _ _
        have ky : W5.heap[Y]? = some (.cells #[.string y.key, .string y.val.v, .int .u64 (y.val.ses : Int), .int .u64 (y.val.lck : Int), .int .u64 (y.made : Int), .int .u64 (y.ix : Int)] TEn (0, 0)) := by
          rw [← hW5, ← hY]
          exact ((below1 (wr.alloc (.cells #[.string y.key, .string y.val.v, .int .u64 (y.val.ses : Int), .int .u64 (y.val.lck : Int), .int .u64 (y.made : Int), .int .u64 (y.ix : Int)] TEn)) _ _).block wr.heap.size (by simp)).trans (heap_alloc_new wr _)
        have kz : W5.heap[Y + 1]? = some (.cells #[.int .u64 (y.made : Int), .int .u64 (y.ix : Int)] 23 (0, 0)) := by
          rw [← hW5, ← hY]
          have := heap_alloc_new (wr.alloc (.cells #[.string y.key, .string y.val.v, .int .u64 (y.val.ses : Int), .int .u64 (y.val.lck : Int), .int .u64 (y.made : Int), .int .u64 (y.ix : Int)] TEn)) (.cells #[.int .u64 (y.made : Int), .int .u64 (y.ix : Int)] 23)
          simpa using this
        have hYt : ¬ Y = Bt ∧ ¬ Y + 1 = Bt := by have := hkv.tlt; omega
        have HKy := Lib.hid (fun W (hb : But (· = Bt) W5 W) => (hb.block Y (block_lt ky) hYt.1).trans ky)
        have HKz := Lib.hid (fun W (hb : But (· = Bt) W5 W) => (hb.block (Y + 1) (block_lt kz) hYt.2).trans kz)
        have H0 : Hid (KvAt (fun k => w.heap.size ≤ k) W5 B Bt (ldT M T y b 0)) := Lib.hid (hkv.below hb5)
        have HLay := Lib.hid (fun (W : World) (t : Tb Kp) (i : Nat) (h : KvAt (fun k => w.heap.size ≤ k) W B Bt t) (hz : w.heap.size ≤ W.heap.size) (hi : i < 18446744073709551616) => (lay_any y i h hi hin.1 (h.ok.putK hfit.1 hin.1 ⟨hfit.2.1, hin.2.2.1, hin.2.2.2.1⟩ hi)).mono (R' := fun e w' => e = .returned (.int .i64 ((putK t y.key y.val i).1 : Int)) ∧ KvAt (fun k => w.heap.size ≤ k) w' B Bt (putK t y.key y.val i).2 ∧ But (· = Bt) W w') fun e w' ⟨a1, a2, a3⟩ => ⟨a1, a2.narrow fun k _ z => z.elim id fun q => Nat.le_trans hz q, a3⟩)
        have HOne := Lib.hid (lay_one (m := M) (b := b) hlt2)
        rw [hlen] at HOne
        have HTwo := Lib.hid (fun b => lay_two (m := M) (b := b) hlt2)
        have HB5 : Hid (Below w.heap.size w W5) := Lib.hid (step_trans hld.out.below hb5)
        have HBt : Hid (w.heap.size ≤ Bt) := Lib.hid hkv.tmine.1
        have HW5 := Lib.hid hW5
        have HY := Lib.hid hY
        have HSt := Lib.hid hst
        have HT := Lib.hid hT
        have HInn := Lib.hid hin
        have HFit := Lib.hid hfit
        have HLe := Lib.hid hld.out.le
        clear hit hin hfit hlt2 hst hlen hy hT hkv hY hW5 hb5 ky kz hYt hkl
        go_wp2_with fail
        rw [HW5.out, HY.out]
        clear e0 e1 e2 e3 e4 e5
        go_loopw [37] (fun iv wq => ∃ j : Nat, j ≤ 2 ∧ iv = .int .i64 (j : Int) ∧ Hid (KvAt (fun k => w.heap.size ≤ k) wq B Bt (ldT M T y b j)) ∧ Hid (But (· = Bt) W5 wq) ∧ Hid (1 ≤ j → ¬ M ≤ k)) (fun iv _ => 2 - (intOf iv).toNat)
        case atStart => exact ⟨0, by omega, rfl, H0, Lib.hid (But.refl _ _), Lib.hid (fun z => by omega)⟩
        case round =>
          obtain ⟨wq, rfl⟩ : ∃ wq : World, wq = wr := ⟨_, rfl⟩
          obtain ⟨j, hj, rfl, hkj, hbj, hjm⟩ := hrel
          have hz : w.heap.size ≤ wq.heap.size := Nat.le_trans HB5.out.size hbj.out.size
          obtain ⟨x0, x1, x2, x3, x4, x5⟩ := Kt.blk (HKy.out wq hbj.out)
          have kzq := HKz.out wq hbj.out
          rcases (show j = 0 ∨ j = 1 ∨ j = 2 by omega) with rfl | rfl | rfl
          · have z0 := cellsN kzq 0 _ rfl
            have HC := Lib.hid (HLay.out wq _ y.made hkj.out hz HInn.out.2.2.2.2.1)
            rw [show ldT M T y b 0 = ⟨M, T, b⟩ from rfl, HOne.out] at HC
            unfold enV Kt.trV at HC
            clear kzq
            by_cases hMk : M ≤ k
            · rw [if_pos hMk] at HC
              have HNo : Hid (¬ LoadOk M l last) := Lib.hid fun z => by have := z.1; rw [HSl.out] at this; omega
              clear hMk
              go_wp2_with fail
              refine HC.out.mono ?_
              rintro e w6 ⟨rfl, -, hb6⟩
              have HB6 : Hid (Below w.heap.size w w6) := Lib.hid (HB5.out.trans ((hbj.out.trans hb6).below HB5.out.size fun k hk e => by have := HBt.out; have : k = Bt := e; omega))
              clear hb6 HC z0 x0 x1 x2 x3 x4 x5
              go_wp2
              exact bodyPost_ret (v := .tuple #[.pointer none, .int .i64 2]) (by simp [results, Tryd.results5, go_sem]) rfl ⟨HB6.out, .inr ⟨HNo.out, rfl⟩⟩
            · rw [if_neg hMk] at HC
              have HMk := Lib.hid (fun (_ : 1 ≤ 1) => hMk)
              clear hMk
              go_wp2_with fail
              refine HC.out.mono ?_
              rintro e w6 ⟨rfl, hk6, hb6⟩
              have HK6 : Hid (KvAt (fun k => w.heap.size ≤ k) w6 B Bt (ldT M T y b 1)) := Lib.hid hk6
              have HB6 := Lib.hid (hbj.out.trans hb6)
              clear hk6 hb6 HC z0 x0 x1 x2 x3 x4 x5
              go_wp2
              go_roundw
              case rel => exact ⟨1, by omega, rfl, HK6, HB6, HMk⟩
              case measure => simp [intOf]
          · have z1 := cellsN kzq 1 _ rfl
            have HC := Lib.hid (HLay.out wq _ y.ix hkj.out hz HInn.out.2.2.2.2.2)
            rw [show ldT M T y b 1 = ⟨M, T ++ [{ y with ix := y.made }], max b y.made⟩ from rfl, HTwo.out] at HC
            unfold enV Kt.trV at HC
            have HMk := Lib.hid (fun (_ : 1 ≤ 2) => hjm.out (Nat.le_refl _))
            clear kzq
            go_wp2_with fail
            refine HC.out.mono ?_
            rintro e w6 ⟨rfl, hk6, hb6⟩
            have HK6 : Hid (KvAt (fun k => w.heap.size ≤ k) w6 B Bt (ldT M T y b 2)) := Lib.hid hk6
            have HB6 := Lib.hid (hbj.out.trans hb6)
            clear hk6 hb6 HC z1 x0 x1 x2 x3 x4 x5
            go_wp2
            go_roundw
            case rel => exact ⟨2, by omega, rfl, HK6, HB6, HMk⟩
            case measure => simp [intOf]
          · have HL1 : Hid (LdSt w wq M l last B Bt (k + 1) (max (max b y.made) y.ix)) := Lib.hid ⟨by rw [HSt.out]; exact hkj.out, HB5.out.trans (hbj.out.below HB5.out.size fun k hk e => by have := HBt.out; have : k = Bt := e; omega), by have h1 := HLe.out; have h2 := HFit.out.2.2; omega⟩
            have hMk := hjm.out (by omega)
            clear kzq x0 x1 x2 x3 x4 x5
            go_wp2
            go_roundw
            case rel => exact ⟨k + 1, _, by omega, by omega, by go_num, HL1⟩
            case measure => simp [intOf]; omega
      · have hkn : k = n := by omega
        have hkl : l.take k = l := List.take_of_length_le (by rw [HSl.out]; omega)
        have hkv := hld.out.kv
        rw [hkl] at hkv
        have HYes : Hid (LoadOk M l last) := Lib.hid ⟨by rw [HSl.out]; omega, HRi.out, HAll.out⟩
        have hrz := Kt.raise_any last hkv.tab HLa.out
        have HRz := Lib.hid hrz
        have HKv := Lib.hid hkv
        have cB := cellsN hkv.ptr 0 _ rfl
        have HBx := Lib.hid hld.out.below
        have hmax : (⟨M, l, b⟩ : Tb Kp).raise last = ⟨M, l, last⟩ := by
          unfold Tb.raise
          have := hld.out.le
          show (⟨M, l, max b last⟩ : Tb Kp) = _
          rw [Nat.max_eq_right this]
        have HMax := Lib.hid hmax
        have hixb : ∀ e ∈ l, e.ix ≤ last := fun e he => (HAll.out e he).2.2.2
        have HOk2 : Hid (KvOk (⟨M, l, last⟩ : Tb Kp)) := Lib.hid (KvOk.loaded HMo.out HYes.out.1 HRi.out HAll.out HIn.out HLa.out hixb)
        clear hkl hkv hrz hkn hmax hixb
        go_wp2_with fail
        refine HRz.out.mono ?_
        rintro e w7 ⟨rfl, ht7, hb7⟩
        rw [HMax.out] at ht7
        have HK7 : Hid (KvAt (fun k => w.heap.size ≤ k) w7 B Bt ⟨M, l, last⟩) := Lib.hid ((HKv.out.turned HOk2.out (ht7.narrow fun k _ z => .inl z) hb7).narrow fun k _ z => z.elim id fun q => Nat.le_trans hgw q)
        have HB7 : Hid (Below w.heap.size w w7) := Lib.hid (HBx.out.trans (hb7.below hgw fun k hk e => by have h1 : w.heap.size ≤ Bt := HKv.out.tmine.1; have : k = Bt := e; omega))
        clear ht7 hb7 HRz cB
        go_wp2
        exact bodyPost_ret (v := .tuple #[.pointer (some ⟨B, 0, none⟩), .int .i64 0]) (by simp [results, Tryd.results5, go_sem]) rfl ⟨HB7.out, .inl ⟨HYes.out, B, Bt, rfl, HK7.out⟩⟩
end Go.Proofs.YtohnkagabpefdaaDoor
