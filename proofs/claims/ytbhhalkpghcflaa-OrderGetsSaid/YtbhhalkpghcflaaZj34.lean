/-
  The program's read, walked (layer 20).
-/
import Derived.Test.YtbhhalkpghcflaaZj30
namespace Go.Proofs.Ytbhhalkpghcflaa
open Go.RowKit
set_option linter.unusedSimpArgs false
set_option linter.unusedVariables false

def kc0 (kn : Nat) : Array Value := #[.int .i64 (kn : Int), .int .i64 0, .int .i64 0, .int .i64 0, .string ⟨#[]⟩, .string ⟨#[]⟩, .string ⟨#[]⟩, .string ⟨#[]⟩, .string ⟨#[]⟩, .string ⟨#[]⟩, .string ⟨#[]⟩, .string ⟨#[]⟩, .slice none 0 0, .bool false, .int .u64 0, .int .u64 0, .slice none 0 0]
def panChain (n : Nat) : List PanicEntry := [{ v := .iface 33 (.int .i64 (n : Int)), recovered := false }]
/-- What stands behind k fields. -/
def LpM (S : Nat → Prop) (R B n0 kn : Nat) (s1 : St) (k : Nat) (wr : World) : Prop := ∃ cur l, BoxL n0 B (kn : Int) cur l wr ∧ cur[16]? = some (.slice none 0 0) ∧ RdAt S wr R (stK kn s1 k) ∧ ((stK kn s1 k).e = 0 → l = expL kn s1 k)
/-- What stands behind all. -/
def LpF (S : Nat → Prop) (R B n0 kn : Nat) (s1 : St) (F : Nat) (g : ((Nat × Fs) × List (Nat × Fs)) × St) (wr : World) : Prop := ∃ cur l sA sn sc subs, BoxL n0 B (kn : Int) cur l wr ∧ cur[16]? = some (.slice sA sn sc) ∧ sn ≤ maxLen ∧ RdAt S wr R g.2 ∧ SK cmC 17 wr sA sn (subs.map (·.1)) ∧ (∀ b off, sA = some ⟨b, off, none⟩ → 0 < sn → n0 ≤ b) ∧ (∀ z ∈ subs, FrT n0 wr z ∧ z.1.sn = 0 ∧ 0 ≤ z.1.kind) ∧ (F.testBit 15 = false → subs = []) ∧ (g.2.e = 0 → ((kn, l), subs.map absS) = g.1)
theorem box_start {n0 B kn : Nat} {w : World} (h : w.heap[B]? = some (.cells (kc0 kn) TCm (0, 0))) : BoxL n0 B (kn : Int) (kc0 kn) ((List.range 15).map fvZ) w := by
  refine ⟨h, rfl, rfl, rfl, fun j v hv => ?_⟩
  have hj : j < 15 := by
    have := (List.getElem?_eq_some_iff.1 hv).1
    simpa using this
  rw [List.getElem?_map, List.getElem?_range hj] at hv
  obtain rfl : fvZ j = v := by simpa using hv
  match j, hj with
  | 0, _ => exact ⟨show (0 : Nat) < 3 by decide, _, rfl, rfl, by decide, by decide⟩
  | 1, _ => exact ⟨show (1 : Nat) < 3 by decide, _, rfl, rfl, by decide, by decide⟩
  | 2, _ => exact ⟨show (2 : Nat) < 3 by decide, _, rfl, rfl, by decide, by decide⟩
  | 3, _ => exact ⟨⟨by decide, by decide⟩, _, rfl, rfl, Nat.zero_le _⟩
  | 4, _ => exact ⟨⟨by decide, by decide⟩, _, rfl, rfl, Nat.zero_le _⟩
  | 5, _ => exact ⟨⟨by decide, by decide⟩, _, rfl, rfl, Nat.zero_le _⟩
  | 6, _ => exact ⟨⟨by decide, by decide⟩, _, rfl, rfl, Nat.zero_le _⟩
  | 7, _ => exact ⟨⟨by decide, by decide⟩, _, rfl, rfl, Nat.zero_le _⟩
  | 8, _ => exact ⟨⟨by decide, by decide⟩, _, rfl, rfl, Nat.zero_le _⟩
  | 9, _ => exact ⟨⟨by decide, by decide⟩, _, rfl, rfl, Nat.zero_le _⟩
  | 10, _ => exact ⟨⟨by decide, by decide⟩, _, rfl, rfl, Nat.zero_le _⟩
  | 11, _ => exact ⟨rfl, _, rfl, none, 0, 0, rfl, ⟨rfl, fun h => absurd h (by decide)⟩, (fun b off e h => absurd h (by decide)), Nat.zero_le _, fun s h => by cases h⟩
  | 12, _ => exact ⟨rfl, _, rfl, rfl⟩
  | 13, _ => exact ⟨⟨by decide, by decide⟩, _, rfl, rfl, by decide⟩
  | 14, _ => exact ⟨⟨by decide, by decide⟩, _, rfl, rfl, by decide⟩
  | j + 15, h => exact absurd h (by omega)
theorem but_setRow (w : World) (g : Nat) (cs : Array Value) : But (fun k => k = g) w (w.setRow g cs) := ⟨rfl, rfl, rfl, by simp, fun k _ hk => setRow_other w g k cs hk⟩
theorem range_row {w : World} {B : Nat} {cur : List Value} {t : TypeId} (h : w.heap[B]? = some (.cells cur.toArray t (0, 0))) : w.rangeAt B 0 cur := fun j v hj => by
  rw [cell_of_row w B (0 + j) _ t (0, 0) h, Nat.zero_add]
  simpa using hj
section
variable {S : Nat → Prop} {R B n0 kn k F b : Nat} {s1 : St} {W W' : World} {g : ((Nat × Fs) × List (Nat × Fs)) × St}
theorem BoxL.below {kind : Int} {cur : Array Value} {l : List Fv} (h : BoxL n0 B kind cur l W) (hb : Below W.heap.size W W') : BoxL n0 B kind cur l W' := h.but (S := fun _ => False) (But.of_below hb) (fun _ h => h.elim) (fun h => h)
theorem LpM.below (h : LpM S R B n0 kn s1 k W) (hb : Below W.heap.size W W') : LpM S R B n0 kn s1 k W' := by
  obtain ⟨cur, l, h1, h2, h3, h4⟩ := h
  exact ⟨cur, l, h1.below hb, h2, h3.below hb, h4⟩
theorem LpF.below (h : LpF S R B n0 kn s1 F g W) (hb : Below W.heap.size W W') : LpF S R B n0 kn s1 F g W' := by
  obtain ⟨cur, l, sA, sn, sc, subs, h1, h2, h3, h4, h5, h5', h6, h7⟩ := h
  exact ⟨cur, l, sA, sn, sc, subs, h1.below hb, h2, h3, h4.below hb, h5.below hb, h5', fun z hz => ⟨(h6 z hz).1.but (S := fun _ => False) (But.of_below hb) (fun _ h => h.elim), (h6 z hz).2⟩, h7⟩
theorem LpM.no (h : LpM S R B n0 kn s1 k W) (hk : k < 15) (hb : hasB kn k = false) : LpM S R B n0 kn s1 (k + 1) W := by
  obtain ⟨cur, l, h1, h2, h3, h4⟩ := h
  obtain ⟨e1, e2⟩ := expL_no (s := s1) hk hb
  exact ⟨cur, l, h1, h2, by rw [e2]; exact h3, by rw [e1, e2]; exact h4⟩
theorem LpM.last (h : LpM S R B n0 kn s1 15 W) (hg : g = (((kn, ((fieldsC kn).rd s1).1), []), stK kn s1 15)) : LpF S R B n0 kn s1 F g W := by
  obtain ⟨cur, l, h1, h2, h3, h4⟩ := h
  subst hg
  exact ⟨cur, l, none, 0, 0, [], h1, h2, Nat.zero_le _, h3, ⟨rfl, fun h => absurd h (by decide)⟩, (fun b off e h => absurd h (by decide)), (fun z hz => by cases hz), fun _ => rfl, fun e => by rw [h4 e, expL_15]; rfl⟩
theorem lpm_read {cur : Array Value} {l : List Fv} {e : Ending} (h1 : BoxL n0 B (kn : Int) cur l W) (h2 : cur[16]? = some (.slice none 0 0)) (h4 : (stK kn s1 k).e = 0 → l = expL kn s1 k) (hk : k < 15) (hb : hasB kn k = true) (hR : R < n0) (hBn : B < n0) (h : FRd n0 S R B k W (stK kn s1 k) cur e W') : LpM S R B n0 kn s1 (k + 1) W' := by
  obtain ⟨he, hr, hbt, v, c, hv, hc, hx, hval⟩ := h
  obtain ⟨e1, e2⟩ := expL_has (s := s1) hk hb
  refine ⟨_, _, h1.put hbt (fun k hk => by rcases hk with h | h <;> omega) hk hv hc hx, ?_, by rw [e2]; exact hr, fun e0 => ?_⟩
  · rw [Array.getElem?_setIfInBounds_ne (by omega)]
    exact h2
  · have e3 := e0
    rw [e2] at e3
    rw [e1, h4 (stK_ok e0), hval e3]
theorem lpf_subs {cur : Array Value} {l : List Fv} {b m : Nat} {s0 : St} {vk : Value} {subs : List Sub} (h1 : BoxL n0 B (kn : Int) cur l W) (h4 : (stK kn s1 15).e = 0 → l = expL kn s1 15) (hR : R < n0) (hBn : B < n0) (hn : n0 ≤ W.heap.size) (hF : F.testBit 15 = true) (hm : m ≤ 8) (h : RkI S R B b W s0 cur m vk subs W') (hg : g = (((kn, ((fieldsC kn).rd s1).1), (subC.many m s0).1), (subC.many m s0).2)) (hst : (subC.many m s0).2.e = 0 → (stK kn s1 15).e = 0) : LpF S R B n0 kn s1 F g W' := by
  subst hg
  obtain ⟨A, c, hv, hsk, hlc, hcm, _⟩ := SK.of_row cmC_len h.row
  have hbx := h1.box
  have hS : ∀ k, (k = R ∨ k = B) → k < n0 := fun k hk => by rcases hk with h | h <;> omega
  refine ⟨cur.setIfInBounds 16 vk, l, A, (subs.map (·.1)).length, c, subs, ⟨h.box, by simp [h1.size], by rw [Array.getElem?_setIfInBounds_ne (by decide)]; exact h1.k0, h1.len, fun j v hv => ?_⟩, by rw [Array.getElem?_setIfInBounds_self_of_lt (by rw [h1.size]; decide), hv], by rw [List.length_map, h.len]; unfold maxLen; omega, h.rd, hsk, (fun b off e hn2 => Nat.le_trans hn (h.own b (by rw [hv, e]; rfl))), fun z hz => ?_, (fun e => by rw [hF] at e; cases e), fun e => ?_⟩
  · have hj : j < 15 := by rw [← h1.len]; exact (List.getElem?_eq_some_iff.1 hv).1
    obtain ⟨g1, c2, g2, g3⟩ := h1.each j v hv
    exact ⟨g1, c2, by rw [Array.getElem?_setIfInBounds_ne (by omega)]; exact g2, g3.but h.low hS⟩
  · obtain ⟨g1, g2, g3, _⟩ := h.each z hz
    exact ⟨⟨g1.1, fun b off e hn2 => Nat.le_trans hn (g1.2 b off e hn2)⟩, g2, g3⟩
  · rw [h4 (hst e), expL_15, h.val e]
end
set_option maxRecDepth 100000 in
set_option maxHeartbeats 4000000 in
theorem read_gen (may : Nat) (hm : may < 65536) (hmay : ∀ k, k < 15 → may.testBit k = true) (S : Nat → Prop) (R : Nat) (s : St) (w : World) (hr : RdAt S w R s) (hSn : ∀ k, w.heap.size ≤ k → S k)
    (hsub : ∀ kn : Int, (maskN kn &&& may).testBit 15 = true → ∀ W s', w.heap.size ≤ W.heap.size → RdAt S W R s' → Calls Try.prog 26 #[.pointer (some ⟨R, 0, none⟩), .int .u64 32767] W (RdSub S R W s')) :
    Calls Try.prog 26 #[.pointer (some ⟨R, 0, none⟩), .int .u64 (may : Int)] w (RdGen may S R w s) := by
  have hRlt := hr.lt
  have hb0 := (Below.refl _ w).alloc (Nat.le_refl _) (.cells #[.int .i64 0, .int .i64 0, .int .i64 0, .int .i64 0, .string ⟨#[]⟩, .string ⟨#[]⟩, .string ⟨#[]⟩, .string ⟨#[]⟩, .string ⟨#[]⟩, .string ⟨#[]⟩, .string ⟨#[]⟩, .string ⟨#[]⟩, .slice none 0 0, .bool false, .int .u64 0, .int .u64 0, .slice none 0 0] TCm)
  have CN := Lib.hid (rNum_any S R 255 s _ (hr.below hb0) (by decide))
  have hk255 := num_out_le 255 s
  have hkg := kindG_num may s
  obtain ⟨kn, hkn⟩ : ∃ kn, (itNum 255).out s = kn := ⟨_, rfl⟩
  obtain ⟨s1, hs1⟩ : ∃ s1, (itNum 255).next s = s1 := ⟨_, rfl⟩
  rw [hkn, hs1] at CN hkg
  rw [hkn] at hk255
  obtain ⟨F, hF⟩ : ∃ F, maskN (kn : Int) &&& may = F := ⟨_, rfl⟩
  have hFlt : F < 65536 := by rw [← hF]; exact Nat.lt_of_le_of_lt Nat.and_le_left (maskN_lt _)
  have hand : bits .and .u64 (maskN (kn : Int) : Int) (may : Int) = (F : Int) := by rw [and_u64 _ _ (by have := maskN_lt (kn : Int); omega) (by omega), hF]
  rw [hF] at hkg
  obtain ⟨P, hP⟩ : ∃ P, RdGen may S R w s = P := ⟨_, rfl⟩
  have PAN := Lib.hid (fun n W (h1 : n ≠ 0) (h2 : n = ((genC may).rd s).2.e) (h3 : But (fun k => k = R) w W) => (hP ▸ ⟨h3, .inl ⟨n, h1, h2, rfl⟩⟩ : P (PanE n) W))
  have DONE := Lib.hid (fun W (y : Sub) subs (h1 : But (fun k => k = R) w W) (h2 : RdAt S W R ((genC may).rd s).2) (h3 : GenR w.heap.size may s W y subs) => (hP ▸ ⟨h1, .inr ⟨y, subs, rfl, h2, h3⟩⟩ : P (.returned (cmV y.1)) W))
  rw [hP]
  have HBITS := Lib.hid (show ∀ k, k < 15 → F.testBit k = hasB kn k from fun k hk => by
    rw [← hF, Nat.testBit_and, hmay k hk, Bool.and_true, maskN_bit _ (by omega)]
    rfl)
  have HKG := Lib.hid hkg
  have HSN := Lib.hid hSn
  have HSUB := Lib.hid (hsub kn)
  rw [hF] at HSUB
  have HF := Lib.hid hF
  have HFL := Lib.hid hFlt
  have CS := Lib.hid (fun W => setOf_any (kn : Int) W)
  obtain ⟨M, hM⟩ : ∃ M, maskN (kn : Int) = M := ⟨_, rfl⟩
  rw [hM] at hand CS
  have HAND := Lib.hid hand
  have HB0 := Lib.hid hb0
  clear hmay hr hSn hsub hb0 hkg hkn hs1 hF hFlt hand hP hM hm
  unfold u64V at CN
  go_enter Try.func26, Try.ntmps26
  go_wp2_with fail
  refine CN.out.mono ?_
  rintro e w2 ⟨rfl, hr2, hb2⟩
  have HR2 := Lib.hid hr2
  have HBW := Lib.hid ((But.of_below (S := fun k => k = R) HB0.out).trans hb2)
  have HB1 : Hid (w2.heap[w.heap.size]? = some (.cells #[.int .i64 0, .int .i64 0, .int .i64 0, .int .i64 0, .string ⟨#[]⟩, .string ⟨#[]⟩, .string ⟨#[]⟩, .string ⟨#[]⟩, .string ⟨#[]⟩, .string ⟨#[]⟩, .string ⟨#[]⟩, .string ⟨#[]⟩, .slice none 0 0, .bool false, .int .u64 0, .int .u64 0, .slice none 0 0] TCm (0, 0))) := Lib.hid ((hb2.block w.heap.size (by simp) (by omega)).trans (heap_alloc_new w _))
  have e1 : IntKind.i64.wrap (kn : Int) = (kn : Int) := IntWalk.i64_in _ (by omega)
  have hlt2 : w.heap.size < w2.heap.size := by have := hb2.size; simp at this; omega
  clear hr2 hb2 CN
  go_wp2_with (first | (refine wpList_store_row rfl TCm (.tmp 5) (.tmp 12) rfl w2.heap.size (kc0 kn) rfl rfl TCm #[.int .i64 0, .int .i64 0, .int .i64 0, .int .i64 0, .string ⟨#[]⟩, .string ⟨#[]⟩, .string ⟨#[]⟩, .string ⟨#[]⟩, .string ⟨#[]⟩, .string ⟨#[]⟩, .string ⟨#[]⟩, .string ⟨#[]⟩, .slice none 0 0, .bool false, .int .u64 0, .int .u64 0, .slice none 0 0] (heap_alloc_new w2 _) cm_info rfl rfl ?_; rw [World.setRow_alloc_new]) | fail)
  obtain ⟨w3, hw3⟩ : ∃ w3, w2.alloc (.cells #[.int .i64 (kn : Int), .int .i64 0, .int .i64 0, .int .i64 0, .string ⟨#[]⟩, .string ⟨#[]⟩, .string ⟨#[]⟩, .string ⟨#[]⟩, .string ⟨#[]⟩, .string ⟨#[]⟩, .string ⟨#[]⟩, .string ⟨#[]⟩, .slice none 0 0, .bool false, .int .u64 0, .int .u64 0, .slice none 0 0] TCm) = w3 := ⟨_, rfl⟩
  obtain ⟨B, hB⟩ : ∃ B, w2.heap.size = B := ⟨_, rfl⟩
  rw [hw3, hB]
  have hb3 : Below w2.heap.size w2 w3 := by rw [← hw3]; exact (Below.refl _ w2).alloc (Nat.le_refl _) _
  have HR3 := Lib.hid (HR2.out.below hb3)
  have HBW3 := Lib.hid (HBW.out.trans (But.of_below hb3))
  have HB13 := Lib.hid ((hb3.block w.heap.size hlt2).trans HB1.out)
  have HBX : Hid (w3.heap[B]? = some (.cells (kc0 kn) TCm (0, 0))) := Lib.hid (by rw [← hw3, ← hB]; exact heap_alloc_new w2 _)
  have hBlt : w.heap.size < B := by omega
  have hB3 : w3.heap.size = B + 1 := by rw [← hw3, ← hB]; simp
  have HB3 := Lib.hid hB3
  have qk : w3.cell? ⟨B, 0, none⟩ = some (.int .i64 (kn : Int)) := by rw [cell_of_row w3 B 0 _ TCm (0, 0) HBX.out]; rfl
  clear hw3 hB hb3 HR2 HBW HB1 hlt2 e1 hB3
  refine (rWrong_any S R s1 w3 HR3.out).mono ?_
  rintro e w4 ⟨rfl, rfl⟩
  by_cases he : s1.e = 0
  · have HE := Lib.hid he
    rw [he]
    clear he
    go_wp2_with (go_at_call 27; refine (need_ok _).mono ?_; rintro e w5 ⟨rfl, rfl⟩)
    have HG : Hid (((kindG may).rd s) = (kn, if F = 0 then ⟨s1.b, 40⟩ else s1)) := Lib.hid (by
      rw [HKG.out, HE.out]
      by_cases hz : F = 0
      · simp [hz]
      · simp [hz])
    have hand := HAND.out
    by_cases hz : F = 0
    · have HG2 := Lib.hid (HG.out.trans (by rw [if_pos hz]) : ((kindG may).rd s) = (kn, ⟨s1.b, 40⟩))
      have hz' : ((F : Int) == 0) = true := by rw [hz]; rfl
      clear hz
      go_wp2_with (go_at_call 33; refine (CS.out _).mono ?_; rintro e wA ⟨rfl, rfl⟩)
      exact ⟨rfl, PAN.out 40 w3 (by decide) (by rw [genC_err (by rw [HG2.out]; show (40 : Nat) ≠ 0; decide), HG2.out]) HBW3.out⟩
    · have HG2 := Lib.hid (HG.out.trans (by rw [if_neg hz]) : ((kindG may).rd s) = (kn, s1))
      have HZ := Lib.hid hz
      have hz' : ((F : Int) == 0) = false := by simpa using hz
      obtain ⟨acs, hacs⟩ : ∃ acs, (acCs (B + 1)).toArray = acs := ⟨_, rfl⟩
      have HIX := Lib.hid (fun k hk w => ac_index (B + 1) k hk w)
      rw [hacs] at HIX
      have CA : Hid (Calls Try.prog 34 #[.pointer (some ⟨B, 0, none⟩)] w3 fun e w' => e = .returned (.agg acs) ∧ AcAt w' (B + 1) B ∧ w'.heap.size = B + 1 + 33 ∧ Below w3.heap.size w3 w') := Lib.hid (by
        have := accesses_any B w3
        rw [HB3.out, hacs] at this
        rw [HB3.out]
        exact this)
      clear hz hacs
      go_wp2_with (go_at_call 33; refine (CS.out _).mono ?_; rintro e wA ⟨rfl, rfl⟩)
      refine CA.out.mono ?_
      rintro e w5 ⟨rfl, hac, hsz, hb5⟩
      have HAC := Lib.hid hac
      have HS5 := Lib.hid hsz
      have HR5 := Lib.hid (HR3.out.below hb5)
      have HBW5 := Lib.hid (HBW3.out.trans (But.of_below hb5))
      have HB15 := Lib.hid ((hb5.block w.heap.size (by rw [HB3.out]; omega)).trans HB13.out)
      have HBX5 := Lib.hid ((hb5.block B (by rw [HB3.out]; omega)).trans HBX.out)
      have hRB : R < B := by omega
      have LOW := Lib.hid (fun wr (h1 : But (fun j => j = R ∨ j = B) w5 wr) => (HBW5.out.then_ h1 (fun j hj hjl => by rcases hj with h | h <;> omega) : But (fun k => k = R) w wr))
      have ST0 := Lib.hid (show LpM S R B w5.heap.size kn s1 0 w5 from ⟨kc0 kn, _, box_start HBX5.out, rfl, HR5.out, fun _ => rfl⟩)
      clear hac hsz hb5 CA HR3 HBW3 HB13 HBX qk hand hz'
      go_wp2
      go_loopw [25] (fun i wr => ∃ k : Nat, k ≤ 16 ∧ i = .int .i64 k ∧ But (fun j => j = R ∨ j = B) w5 wr ∧ (k ≤ 15 → LpM S R B w5.heap.size kn s1 k wr) ∧ (k = 16 → LpF S R B w5.heap.size kn s1 F ((genC may).rd s) wr)) (fun i _ => 16 - (intOf i).toNat)
      case atStart => exact ⟨0, Nat.zero_le _, rfl, But.refl _ _, fun _ => ST0.out, fun e => by cases e⟩
      case round =>
        obtain ⟨k, hk, rfl, hlow, hm1, hm2⟩ := hrel
        have HLW := Lib.hid hlow
        have HM1 := Lib.hid hm1
        have HM2 := Lib.hid hm2
        clear hlow hm1 hm2
        by_cases hlt : k < 16
        · have u1 : (k : Int) < 16 := by omega
          have hix := HIX.out k hlt
          have CBk := Lib.hid (fun W => bit_has F k W HFL.out hlt)
          have hcd := call_fnD k hlt
          have hszw := HLW.out.size
          have hS5 := HS5.out
          have hAC : ∀ W, Below wr.heap.size wr W → W.cell? ⟨B + 1 + 1 + 2 * k, 0, none⟩ = some (.pointer (some ⟨B, 1 + k, none⟩)) := fun W hW => by
            have h1 := HAC.out k hlt
            have hlt5 : B + 1 + 1 + 2 * k < w5.heap.size := by omega
            have h2 : wr.cell? ⟨B + 1 + 1 + 2 * k, 0, none⟩ = some (.pointer (some ⟨B, 1 + k, none⟩)) := (HLW.out.cell (p := ⟨B + 1 + 1 + 2 * k, 0, none⟩) hlt5 (fun h => by rcases h with h | h <;> (have h' : B + 1 + 1 + 2 * k = _ := h; omega))).trans h1
            exact (hW.cell (p := ⟨B + 1 + 1 + 2 * k, 0, none⟩) (by show B + 1 + 1 + 2 * k < wr.heap.size; omega)).trans h2
          obtain ⟨cur, l, hbx, h16, hrd, hval⟩ := HM1.out (by omega)
          have RZ : Hid (∀ W, Below wr.heap.size wr W → Rz S R B (1 + k) (B + 1 + 1 + 2 * k) W (stK kn s1 k) cur W ∧ BoxL w5.heap.size B (kn : Int) cur l W) := Lib.hid (fun W hW => ⟨⟨hrd.below hW, (hbx.below hW).box, hAC W hW, But.refl _ _⟩, hbx.below hW⟩)
          have HLM : Hid (LpM S R B w5.heap.size kn s1 k wr) := Lib.hid (HM1.out (by omega))
          have HVAL := Lib.hid hval
          have H16 := Lib.hid h16
          have HSZC := Lib.hid hbx.size
          have hSB : S B := HSN.out B (by omega)
          have hbR : B + 1 + 1 + 2 * k ≠ R := by omega
          have hbB : B + 1 + 1 + 2 * k ≠ B := by omega
          have hBR : B ≠ R := by omega
          have CALL : Hid (F.testBit k = true → ∀ W, Below wr.heap.size wr W → Calls Try.prog (fnD k) #[.pointer (some ⟨R, 0, none⟩), .pointer (some ⟨B + 1 + 1 + 2 * k, 0, none⟩)] W fun e W' => (e = .returned (.tuple #[]) ∧ But (fun j => j = R ∨ j = B) W W' ∧ (k + 1 ≤ 15 → LpM S R B w5.heap.size kn s1 (k + 1) W') ∧ (k + 1 = 16 → LpF S R B w5.heap.size kn s1 F ((genC may).rd s) W')) ∨ ∃ n : Nat, n ≠ 0 ∧ n = ((genC may).rd s).2.e ∧ e = PanE n ∧ But (fun j => j = R ∨ j = B) W W') := Lib.hid (fun hbit W hW => by
            obtain ⟨hz, hbx2⟩ := RZ.out W hW
            have hnW : w5.heap.size ≤ W.heap.size := Nat.le_trans hszw hW.size
            by_cases h15 : k = 15
            · subst h15
              have hg := genC_ok HG2.out
              rw [HF.out, hbit] at hg
              have hg2 : (genC may).rd s = (((kn, ((fieldsC kn).rd s1).1), (lstC.rd (stK kn s1 15)).1), (lstC.rd (stK kn s1 15)).2) := hg
              refine (subs_read S R B _ (stK kn s1 15) cur W hz HSZC.out H16.out hSB (fun j hj => HSN.out j (by have := HBW5.out.size; omega)) hBR hbR hbB (fun W2 s2 h2 hr2 => HSUB.out hbit W2 s2 (by have := HBW5.out.size; omega) hr2)).mono fun e W' hq => ?_
              rcases hq with ⟨n, h1, h2, h3, h4⟩ | ⟨h1, vk, subs, h2⟩
              · exact .inr ⟨n, h1, by rw [hg2]; exact h2, h3, h4⟩
              · refine .inl ⟨h1, h2.low, (fun e => absurd e (by omega)), fun _ => lpf_subs hbx2 HVAL.out (by omega) (by omega) hnW hbit (num_out_le 8 _) h2 hg2 fun e0 => ?_⟩
                exact (lstC.bw (stK kn s1 15) e0).1
            · have hk15 : k < 15 := by omega
              have hbb : hasB kn k = true := by rw [← HBITS.out k hk15]; exact hbit
              exact (read_at (n0 := w5.heap.size) hz hSB hBR hbR hbB HSZC.out hnW hk15).mono fun e W' hq => .inl ⟨hq.1, hq.2.2.1, fun _ => lpm_read hbx2 H16.out HVAL.out hk15 hbb (by omega) (by omega) hq, fun e => absurd e (by omega)⟩)
          have NOT : Hid (F.testBit k = false → (k + 1 ≤ 15 → LpM S R B w5.heap.size kn s1 (k + 1) wr) ∧ (k + 1 = 16 → LpF S R B w5.heap.size kn s1 F ((genC may).rd s) wr)) := Lib.hid (fun hbit => ⟨fun h => HLM.out.no (by omega) (by rw [← HBITS.out k (by omega)]; exact hbit), fun h => by
            have h15 : k = 15 := by omega
            subst h15
            have hg := genC_ok HG2.out
            rw [HF.out, hbit] at hg
            exact HLM.out.last hg⟩)
          unfold acC fnV at hix
          generalize fnE k = e0 at hix
          generalize fnR k = r0 at hix
          generalize fnL k = l0 at hix
          generalize fnD k = d0 at hix CALL hcd
          generalize capR k (B + 1 + 1 + 2 * k) = cr at hix
          generalize B + 1 + 1 + 2 * k = b at hix CALL RZ hAC hbR hbB
          clear hAC hbx h16 hrd hval RZ HLM HVAL H16 HSZC hSB hbR hbB hBR hS5
          cases hbit : F.testBit k with
          | true =>
            have CALL2 := Lib.hid (CALL.out hbit)
            rw [hbit] at CBk
            clear hbit CALL NOT
            go_wp2_with (go_at_call 35; refine (CBk.out _).mono ?_; rintro e wA ⟨rfl, rfl⟩)
            refine (CALL2.out _ ((Below.refl _ wr).alloc (Nat.le_refl _) _)).mono ?_
            rintro e w6 hq
            rcases hq with ⟨rfl, hb6, hm1, hm2⟩ | ⟨n, h1, h2, rfl, h4⟩
            · have HB6 := Lib.hid (HLW.out.trans (((But.refl _ wr).alloc _).trans hb6))
              have HM1' := Lib.hid hm1
              have HM2' := Lib.hid hm2
              clear hb6 hm1 hm2
              go_wp2
              go_roundw
              case rel => exact ⟨k + 1, by omega, by go_num, HB6.out, HM1'.out, HM2'.out⟩
              case measure => simp [intOf]; omega
            · exact ⟨rfl, PAN.out n w6 h1 h2 (LOW.out w6 (HLW.out.trans (((But.refl _ wr).alloc _).trans h4)))⟩
          | false =>
            have NOT2 := Lib.hid (NOT.out hbit)
            rw [hbit] at CBk
            clear hbit CALL NOT hcd
            go_wp2_with (go_at_call 35; refine (CBk.out _).mono ?_; rintro e wA ⟨rfl, rfl⟩)
            go_roundw
            case rel => exact ⟨k + 1, by omega, by go_num, HLW.out.alloc _, fun h => (NOT2.out.1 h).below ((Below.refl _ wr).alloc (Nat.le_refl _) _), fun h => (NOT2.out.2 h).below ((Below.refl _ wr).alloc (Nat.le_refl _) _)⟩
            case measure => simp [intOf]; omega
        · obtain rfl : k = 16 := by omega
          obtain ⟨cur, l, sA, sn, sc, subs, g1, g2, g3, g4, g5, g5', g6, g7, g8⟩ := HM2.out rfl
          have hs := HBW5.out.size
          have hs2 := HLW.out.size
          have hs5 := HS5.out
          obtain ⟨y, y1, y2, y3, y4, y5, y6, y7⟩ := g1.cmd (by omega) g2 g3
          obtain rfl : cur = (cmC y.1).toArray := by rw [← y1]
          have HIt : Hid (wr.rangeAt B 0 (cmC y.1)) := Lib.hid (range_row g1.box)
          have HOLD : Hid (wr.heap[w.heap.size]? = some (.cells #[.int .i64 0, .int .i64 0, .int .i64 0, .int .i64 0, .string ⟨#[]⟩, .string ⟨#[]⟩, .string ⟨#[]⟩, .string ⟨#[]⟩, .string ⟨#[]⟩, .string ⟨#[]⟩, .string ⟨#[]⟩, .string ⟨#[]⟩, .slice none 0 0, .bool false, .int .u64 0, .int .u64 0, .slice none 0 0] TCm (0, 0))) := Lib.hid ((HLW.out.block w.heap.size (by omega) (by rintro (h | h) <;> omega)).trans HB15.out)
          subst y5 y6 y7
          have HB16 : Hid (But (fun k => k = w.heap.size) wr (wr.setRow w.heap.size #[.int .i64 y.1.kind, .int .i64 y.1.node, .int .i64 y.1.port, .int .i64 y.1.status, .string ⟨y.1.id.toArray⟩, .string ⟨y.1.name.toArray⟩, .string ⟨y.1.svc.toArray⟩, .string ⟨y.1.note.toArray⟩, .string ⟨y.1.key.toArray⟩, .string ⟨y.1.val.toArray⟩, .string ⟨y.1.src.toArray⟩, .string ⟨y.1.dst.toArray⟩, .slice y.1.tA y.1.tn y.1.tc, .bool y.1.allow, .int .u64 (y.1.old : Int), .int .u64 (y.1.ses : Int), .slice y.1.sA y.1.sn y.1.sc])) := Lib.hid (but_setRow _ _ _)
          have HNEW : Hid ((wr.setRow w.heap.size #[.int .i64 y.1.kind, .int .i64 y.1.node, .int .i64 y.1.port, .int .i64 y.1.status, .string ⟨y.1.id.toArray⟩, .string ⟨y.1.name.toArray⟩, .string ⟨y.1.svc.toArray⟩, .string ⟨y.1.note.toArray⟩, .string ⟨y.1.key.toArray⟩, .string ⟨y.1.val.toArray⟩, .string ⟨y.1.src.toArray⟩, .string ⟨y.1.dst.toArray⟩, .slice y.1.tA y.1.tn y.1.tc, .bool y.1.allow, .int .u64 (y.1.old : Int), .int .u64 (y.1.ses : Int), .slice y.1.sA y.1.sn y.1.sc]).heap[w.heap.size]? = some (.cells #[.int .i64 y.1.kind, .int .i64 y.1.node, .int .i64 y.1.port, .int .i64 y.1.status, .string ⟨y.1.id.toArray⟩, .string ⟨y.1.name.toArray⟩, .string ⟨y.1.svc.toArray⟩, .string ⟨y.1.note.toArray⟩, .string ⟨y.1.key.toArray⟩, .string ⟨y.1.val.toArray⟩, .string ⟨y.1.src.toArray⟩, .string ⟨y.1.dst.toArray⟩, .slice y.1.tA y.1.tn y.1.tc, .bool y.1.allow, .int .u64 (y.1.old : Int), .int .u64 (y.1.ses : Int), .slice y.1.sA y.1.sn y.1.sc] TCm (0, 0))) := Lib.hid (setRow_heap wr _ _ _ TCm (0, 0) HOLD.out)
          have HD : Hid (P (.returned (cmV y.1)) (wr.setRow w.heap.size #[.int .i64 y.1.kind, .int .i64 y.1.node, .int .i64 y.1.port, .int .i64 y.1.status, .string ⟨y.1.id.toArray⟩, .string ⟨y.1.name.toArray⟩, .string ⟨y.1.svc.toArray⟩, .string ⟨y.1.note.toArray⟩, .string ⟨y.1.key.toArray⟩, .string ⟨y.1.val.toArray⟩, .string ⟨y.1.src.toArray⟩, .string ⟨y.1.dst.toArray⟩, .slice y.1.tA y.1.tn y.1.tc, .bool y.1.allow, .int .u64 (y.1.old : Int), .int .u64 (y.1.ses : Int), .slice y.1.sA y.1.sn y.1.sc])) := Lib.hid (DONE.out _ y subs ((LOW.out wr HLW.out).then_ HB16.out (fun j hj hjl => by omega)) (g4.but HB16.out (fun j hj => HSN.out j (by omega)) (by omega)) ⟨⟨⟨y3.1.small, y3.1.row.but HB16.out (fun b off e hn hs => by have := y3.2 b off e hn; omega), y3.1.lens⟩, fun b off e hn => by have := y3.2 b off e hn; omega⟩, by omega, g5.but HB16.out (fun b off e hn hs => by have := g5' b off e hn; omega), (fun b off e hn => by have := g5' b off e hn; omega), (fun z hz => ⟨⟨⟨(g6 z hz).1.1.small, (g6 z hz).1.1.row.but HB16.out (fun b off e hn hs => by have := (g6 z hz).1.2 b off e hn; omega), (g6 z hz).1.1.lens⟩, fun b off e hn => by have := (g6 z hz).1.2 b off e hn; omega⟩, (g6 z hz).2⟩), (fun hbit => g7 (by rw [← HF.out, ← y4]; exact hbit)), (fun e0 => by rw [y4, Int.toNat_natCast, y2]; exact g8 e0)⟩)
          clear g1 g2 g4 g5 g5' g6 g7 g8 y1 y2 y3 y4 HAC ST0 LOW
          go_wp2_with (first | (refine wpList_load_mid rfl TCm (.tmp 5) rfl B 0 rfl (cmC y.1) _ HIt.out Try.underlying26 rfl (by kernel_rfl) ?_; unfold cmC strV) | (refine wpList_store_row rfl TCm (.tmp 4) (.tmp 37) rfl w.heap.size #[.int .i64 y.1.kind, .int .i64 y.1.node, .int .i64 y.1.port, .int .i64 y.1.status, .string ⟨y.1.id.toArray⟩, .string ⟨y.1.name.toArray⟩, .string ⟨y.1.svc.toArray⟩, .string ⟨y.1.note.toArray⟩, .string ⟨y.1.key.toArray⟩, .string ⟨y.1.val.toArray⟩, .string ⟨y.1.src.toArray⟩, .string ⟨y.1.dst.toArray⟩, .slice y.1.tA y.1.tn y.1.tc, .bool y.1.allow, .int .u64 (y.1.old : Int), .int .u64 (y.1.ses : Int), .slice y.1.sA y.1.sn y.1.sc] rfl rfl TCm #[.int .i64 0, .int .i64 0, .int .i64 0, .int .i64 0, .string ⟨#[]⟩, .string ⟨#[]⟩, .string ⟨#[]⟩, .string ⟨#[]⟩, .string ⟨#[]⟩, .string ⟨#[]⟩, .string ⟨#[]⟩, .string ⟨#[]⟩, .slice none 0 0, .bool false, .int .u64 0, .int .u64 0, .slice none 0 0] HOLD.out cm_info rfl (all_oneCell_toArray (cmC_one y.1)) ?_))
          exact bodyPost_ret (v := cmV y.1) (results_cell_row rfl _ _ _ TCm _ (0, 0) _ rfl HNEW.out Try.underlying26 rfl (by kernel_rfl)) rfl HD.out
  · have HG : Hid (((kindG may).rd s).2 = s1) := Lib.hid (by rw [HKG.out]; simp [he])
    have HE := Lib.hid he
    clear he
    go_wp2_with fail
    refine (need_bad _ HE.out _).mono ?_
    rintro e w5 ⟨rfl, rfl⟩
    exact ⟨rfl, PAN.out s1.e w3 HE.out (by rw [genC_err (by rw [HG.out]; exact HE.out), HG.out]) HBW3.out⟩
end Go.Proofs.Ytbhhalkpghcflaa
