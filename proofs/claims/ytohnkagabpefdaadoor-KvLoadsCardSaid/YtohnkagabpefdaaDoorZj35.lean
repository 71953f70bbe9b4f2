/-
  modify: an entry turned, if its checks hold, walked (layer 16).
-/
import Derived.Test.YtohnkagabpefdaaDoorZj33
import Derived.Test.YtohnkagabpefdaaDoorZj34
namespace Go.Proofs.YtohnkagabpefdaaDoor
open Go.RowKit Go.Rel Go.Shelf
set_option linter.unusedSimpArgs false
set_option linter.unusedVariables false

theorem ck_info : (Tryd.prog.info? TCk).map (fun i => (i.zero, i.size, i.bytes)) = some (some (.agg #[.nilFunc, .int .i64 0]), 2, 16) := by kernel_rfl
/-- The check of a key's name. -/
def nmC (fv : Value) (key : ByteArray) : Ck := ⟨fv, 10, fun _ => keyB key.data.toList⟩
theorem rowK.one {w : World} {base Z : Nat} {c : Ck} {cur : Array Value} (h : w.heap[Z]? = some (.cells cur TCk (0, 0))) (hc : cur.toList = ckC c) (hZ : base ≤ Z) : rowK ckC TCk 2 w base (.slice (some ⟨Z, 0, none⟩) [c].length [c].length) [c] := by
  have hs : cur.size = 2 := by rw [← Array.length_toList, hc]; rfl
  exact ⟨rfl, .inr ⟨Z, 1, cur, rfl, hZ, h, Nat.le_refl _, by unfold maxLen; simp, by rw [hs], by rw [hc]; rfl⟩⟩
theorem named_at (s : ByteArray) (w : World) :
    Calls Tryd.prog 58 #[.string s] w fun e w' => e = .returned (.agg #[.func (.func 72) #[] #[.pointer (some ⟨w.heap.size, 0, none⟩)], .int .i64 10]) ∧ w'.heap[w.heap.size]? = some (.cells #[.string s] 9 (0, 0)) ∧ Below w.heap.size w w' := by
  obtain ⟨W1, hW1⟩ : ∃ W1, (w.alloc (.cells #[.string s] 9)).alloc (.cells #[.func (.func 72) #[] #[.pointer (some ⟨w.heap.size, 0, none⟩)], .int .i64 10] TCk) = W1 := ⟨_, rfl⟩
  have HB : Hid (Below w.heap.size w W1) := Lib.hid (by rw [← hW1]; exact below2 _ _ _ _ _)
  have HK : Hid (W1.heap[w.heap.size]? = some (.cells #[.string s] 9 (0, 0))) := Lib.hid (by
    rw [← hW1]
    exact ((below1 (w.alloc (.cells #[.string s] 9)) _ _).block w.heap.size (by simp)).trans (heap_alloc_new w _))
  have HW1 := Lib.hid hW1
  clear hW1
  go_enter Tryd.func58, Tryd.ntmps58
  go_wp2
  rw [HW1.out]
  refine bodyPost_ret (v := .agg #[.func (.func 72) #[] #[.pointer (some ⟨w.heap.size, 0, none⟩)], .int .i64 10]) ?_ rfl ⟨rfl, HK.out, HB.out⟩
  rw [← HW1.out]
  simp [results, Tryd.results58, go_sem]
def modE (P7 : Nat) (key : ByteArray) (A : Option Addr) (n : Nat) (c : Nat) : Nat → Value
  | 0 => .string key
  | 3 => .pointer (some ⟨P7, 0, none⟩)
  | 4 => .slice A n c
  | _ => undef
/-- What an entry turns into. -/
def TurnsTo (key : ByteArray) (n : Option Kp) (e1 : En) : Prop := match n with
  | some v => e1.key = key ∧ e1.val = v
  | none => e1 = noEn
set_option maxHeartbeats 8000000 in
set_option maxRecDepth 100000 in
theorem modify_any {S : Nat → Prop} {w : World} {B Bt : Nat} {t : Tb Kp} (key : ByteArray) (i : Nat) (cs : List Ck) (A : Option Addr) (c : Nat) (tf : Value) (e1 : En) (nv : Option Kp) (h : KvAt S w B Bt t) (hM : MaxIs w) (hi : i < 18446744073709551616) (hk : key.size ≤ maxLen)
    (hc : SK ckC 2 w A cs.length cs) (hA : A = none → c = 0) (hA0 : cs.length = 0 → A = none) (hl : cs.length ≤ 10) (hcs : CkOk w cs (entO t key)) (ht : Does w tf { entO t key with key := key } (enV e1)) (he : TurnsTo key nv e1)
    (hok : KvOk (modK t key i (saidOf cs (entO t key)) nv).2) :
    Calls Tryd.prog 33 #[.pointer (some ⟨B, 0, none⟩), .string key, .int .u64 (i : Int), .agg #[.slice A cs.length c, tf]] w fun e w' => e = .returned (.int .i64 ((modK t key i (saidOf cs (entO t key)) nv).1 : Int)) ∧ KvAt (fun k => S k ∨ w.heap.size ≤ k) w' B Bt (modK t key i (saidOf cs (entO t key)) nv).2 ∧ But (· = Bt) w w' := by
  obtain ⟨g, lb, rfl, eg, hcall⟩ := ht
  obtain ⟨n, hn⟩ : ∃ n, cs.length = n := ⟨_, rfl⟩
  rw [hn]
  obtain ⟨P7, hP7⟩ : ∃ P7, w.heap.size = P7 := ⟨_, rfl⟩
  obtain ⟨W1, hW1⟩ : ∃ W1, w.alloc (.cells #[.slice A n c, .func (.func g) #[] lb] 82) = W1 := ⟨_, rfl⟩
  have hb1 : Below w.heap.size w W1 := by rw [← hW1]; exact below1 _ _ _
  have k7 : W1.heap[P7]? = some (.cells #[.slice A n c, .func (.func g) #[] lb] 82 (0, 0)) := by rw [← hW1, ← hP7]; exact heap_alloc_new w _
  have h1 := h.below hb1
  have HAt := Lib.hid h
  have HKv := Lib.hid h1
  have kB := h1.ptr
  have HTb := Lib.hid (table_is kB)
  have HKB := Lib.hid kB
  have HG := Lib.hid (kget_any key h1)
  obtain ⟨e0, he0⟩ : ∃ e0, entO t key = e0 := ⟨_, rfl⟩
  obtain ⟨is, his⟩ : ∃ is, isO t key = is := ⟨_, rfl⟩
  rw [he0, his] at HG
  rw [he0] at hcs hcall hok ⊢
  have HE0 := Lib.hid he0
  have HM := Lib.hid (hM.keep hb1)
  have HC := Lib.hid (hc.below hb1)
  have HCk := Lib.hid (hcs.below hb1)
  have HCall := Lib.hid (fun W (hw : Below W1.heap.size W1 W) => hcall W (hb1.trans (hw.mono hb1.size)))
  have HTo := Lib.hid he
  have HA := Lib.hid hA
  have HA0 := Lib.hid hA0
  have HN := Lib.hid hn
  have HL := Lib.hid hl
  have HKs := Lib.hid hk
  have HIx := Lib.hid hi
  have HOk := Lib.hid hok
  have HB1 := Lib.hid hb1
  have HW1 := Lib.hid hW1
  have HP7 := Lib.hid hP7
  have HK7 := Lib.hid k7
  have HOne : Hid (∀ y ∈ cs, ∀ u ∈ ckC y, u.oneCell' = true) := Lib.hid fun y hy u hu => by
    simp only [ckC, List.mem_cons, List.not_mem_nil, or_false] at hu
    rcases hu with rfl | rfl
    · exact (hcs y hy).2.2.2
    · rfl
  obtain ⟨i0, hi0, hz0, hz1, hz2⟩ := info_parts ck_info
  have HI := Lib.hid (And.intro hi0 (And.intro hz0 (And.intro hz1 hz2)))
  obtain ⟨md, hmd⟩ : ∃ md, modK t key i (saidOf cs e0) nv = md := ⟨_, rfl⟩
  rw [hmd]
  have HMd := Lib.hid hmd
  unfold enV Kt.trV at HG HCall
  clear h hM hi hk hc hA hA0 hl hcs hcall he hok hn hP7 hW1 hb1 k7 h1 kB he0 his hi0 hz0 hz1 hz2 hmd
  go_enter Tryd.func33, Tryd.ntmps33
  go_wp2_with fail
  rw [HW1.out, HP7.out]
  clear HW1
  refine HTb.out.mono ?_
  rintro e w' ⟨rfl, rfl⟩
  go_wp2_with fail
  refine HG.out.mono ?_
  rintro e w2 ⟨rfl, hb2⟩
  obtain ⟨Y, hY⟩ : ∃ Y, w2.heap.size = Y := ⟨_, rfl⟩
  obtain ⟨W3, hW3⟩ : ∃ W3, w2.alloc (.cells #[.string e0.key, .string e0.val.v, .int .u64 (e0.val.ses : Int), .int .u64 (e0.val.lck : Int), .int .u64 (e0.made : Int), .int .u64 (e0.ix : Int)] TEn) = W3 := ⟨_, rfl⟩
  have hb3 : Below w2.heap.size w2 W3 := by rw [← hW3]; exact below1 _ _ _
  have HKy : Hid (W3.heap[Y]? = some (.cells #[.string e0.key, .string e0.val.v, .int .u64 (e0.val.ses : Int), .int .u64 (e0.val.lck : Int), .int .u64 (e0.made : Int), .int .u64 (e0.ix : Int)] TEn (0, 0))) := Lib.hid (by rw [← hW3, ← hY]; exact heap_alloc_new w2 _)
  have HB3 := Lib.hid (hb2.trans (hb3.mono hb2.size))
  have HW3 := Lib.hid hW3
  have HY := Lib.hid hY
  have HYl : Hid (W1.heap.size ≤ Y) := Lib.hid (hY ▸ hb2.size)
  clear hb2 hb3 hW3 hY HG
  go_wp2_with fail
  rw [HW3.out, HY.out]
  clear HW3
  have HK7b := Lib.hid ((HB3.out.block P7 (block_lt HK7.out)).trans HK7.out)
  have HC3 := Lib.hid (HC.out.below HB3.out)
  have HNm := Lib.hid (fun W => named_at key W)
  have hre : ∀ w : World, ((fun a b : World => Below a.heap.size a b)) w w := (fun w => Below.refl _ w)
  have hrd : ∀ (f : Nat → Bool) w i, i ≠ 5 → (fun (_ : Nat → Bool) (w : World) => Below W3.heap.size W3 w) f w → (fun (_ : Nat → Bool) (w : World) => Below W3.heap.size W3 w) (Go.Rel.upd f i) w := (fun _ _ _ _ h => h)
  refine Go.Rel.wp_tab (by kernel_rfl) (by kernel_rfl) (fun (_ : Nat → Bool) (w : World) => Below W3.heap.size W3 w) ((fun a b : World => Below a.heap.size a b)) hre ((fun _ _ _ h k => h.trans (k.mono h.size))) ((⟨rfl, rfl, rfl, Nat.le_refl _, fun _ _ => rfl⟩)) ⟨rfl, rfl, rfl, Nat.le_refl _, fun _ _ => rfl⟩ (modE P7 key A n c) (fun | 1, v, w => ∃ P, v = .agg #[.func (.func 72) #[] #[.pointer (some ⟨P, 0, none⟩)], .int .i64 10] ∧ W3.heap.size ≤ P ∧ w.heap[P]? = some (.cells #[.string key] 9 (0, 0)) | 2, v, w => ∃ P Z, v = .slice (some ⟨Z, 0, none⟩) 1 1 ∧ W3.heap.size ≤ P ∧ W3.heap.size ≤ Z ∧ w.heap[P]? = some (.cells #[.string key] 9 (0, 0)) ∧ w.heap[Z]? = some (.cells #[.func (.func 72) #[] #[.pointer (some ⟨P, 0, none⟩)], .int .i64 10] TCk (0, 0)) | 5, v, w => ∃ P, W3.heap.size ≤ P ∧ w.heap[P]? = some (.cells #[.string key] 9 (0, 0)) ∧ rowK ckC TCk 2 w W3.heap.size v (nmC (.func (.func 72) #[] #[.pointer (some ⟨P, 0, none⟩)]) key :: cs) | 6, v, w => ∃ P, W3.heap.size ≤ P ∧ w.heap[P]? = some (.cells #[.string key] 9 (0, 0)) ∧ rowK ckC TCk 2 w W3.heap.size v (nmC (.func (.func 72) #[] #[.pointer (some ⟨P, 0, none⟩)]) key :: cs) | _, _, _ => True) (fun i => ([1, 2, 5, 6] : List Nat).contains i) (fun i => ([1, 2, 4, 5, 6] : List Nat).contains i) (by kernel_rfl) (fun i v w w' h g => by revert h; split <;> intro h <;> first | exact h | trivial | (obtain ⟨P, e, hp, k⟩ := h; exact ⟨P, e, hp, (g.block P (block_lt k)).trans k⟩) | (obtain ⟨P, Z, e, hp, hz, k, j⟩ := h; exact ⟨P, Z, e, hp, hz, (g.block P (block_lt k)).trans k, (g.block Z (block_lt j)).trans j⟩) | (obtain ⟨P, hp, k, h⟩ := h; exact ⟨P, hp, (g.block P (block_lt k)).trans k, h.below g⟩)) 5 rfl hrd ?_ (Go.Rel.AllOf.get ?_) ?_
  · repeat (refine .cons (by first | exact Go.Rel.pure_sp rfl | exact Go.Rel.pure_yes (by kernel_rfl) (fun _ => by kernel_rfl) | exact Go.Rel.pure_no (by kernel_rfl) rfl) ?_)
    exact .nil
  · refine ⟨?_, ?_, ?_, ?_, ?_, trivial⟩
    · refine SpecOk.call 58 #[.string key] rfl (by kernel_rfl) (fun _ => by kernel_rfl) fun _ w' hI _ _ _ _ => ?_
      refine (HNm.out w').mono ?_
      rintro e9 w9 ⟨rfl, k9, hb9⟩
      exact ⟨_, rfl, hb9, (hI.trans (hb9.mono hI.size)), ⟨_, rfl, hI.size, k9⟩⟩
    · refine SpecOk.gen (fun e => [(23, e 1)]) rfl rfl (fun _ => by kernel_rfl) fun f w' e hI hf hdesc hanc hle hX K hK => ?_
      obtain ⟨P1, e1, p1, k1⟩ := hX 1 rfl rfl
      simp only [e1]
      go_simp
      exact hK _ _ (below1 _ _ _) (hI.trans ((below1 w' _ _).mono hI.size)) ⟨P1, _, rfl, p1, hI.size, ((below1 w' _ _).block P1 (block_lt k1)).trans k1, heap_alloc_new w' _⟩
    · exact SpecOk.ld hrd hre (q := .pointer (some ⟨P7, 0, none⟩)) (h := fun _ w' hI _ _ _ _ => by have c7 := cellsN ((hI.block P7 (block_lt HK7b.out)).trans HK7b.out) 0 _ rfl; go_simp; rfl)
    · refine SpecOk.gen (fun e => [(24, e 2), (26, .slice A n c)]) rfl rfl (fun _ => by kernel_rfl) fun f w' e hI hf hdesc hanc hle hX K hK => ?_
      obtain ⟨P2, Z2, e2, p2, z2, k2, j2⟩ := hX 2 rfl rfl
      simp only [e2]
      obtain ⟨v3, w3, hr3, ho3, hb3⟩ := run_append_full (P := Tryd.prog) 53 53 i0 _ 16 Tryd.underlying53 HI.out.1 HI.out.2.1 HI.out.2.2.1 HI.out.2.2.2 rfl (by decide) ckC_len cs HOne.out W3.heap.size Z2 [nmC (.func (.func 72) #[] #[.pointer (some ⟨P2, 0, none⟩)]) key] (rowK.one j2 rfl z2) A c (HN.out ▸ HC3.out.below hI) HA.out (fun e => HA0.out (HN.out ▸ e)) (by have := HL.out; have := HN.out; unfold maxLen; simp; omega) (by have := HL.out; have := HN.out; simp; omega) hI.size
      rw [HN.out] at hr3
      exact runs_append (.tmp 24) (.tmp 26) 53 rfl rfl rfl hr3 (hK _ _ hb3 (hI.trans (hb3.mono hI.size)) ⟨P2, p2, (hb3.block P2 (block_lt k2)).trans k2, ho3⟩)
    · refine SpecOk.gen (fun e => [(27, e 5)]) rfl rfl (fun _ => by kernel_rfl) fun f w' e hI hf hdesc hanc hle hX K hK => ?_
      obtain ⟨P5, p5, k5, h5⟩ := hX 5 rfl rfl
      go_simp
      exact hK _ _ (hre _) hI ⟨P5, p5, k5, h5⟩
  · intro f w4 e hall hJ hle hv
    have HB4 := Lib.hid hJ
    obtain ⟨P6, p6, k6, h6⟩ := hv 6 rfl
    obtain ⟨A9, c9, e9, hsk9, -⟩ := SK.of_row ckC_len h6
    simp only [Go.Rel.finL, List.setIfInBounds_toArray, List.set_cons_succ, List.set_cons_zero]
    rw [e9]
    have hlen : (nmC (.func (.func 72) #[] #[.pointer (some ⟨P6, 0, none⟩)]) key :: cs).length = n + 1 := by rw [List.length_cons, HN.out]
    rw [hlen] at hsk9
    rw [hlen]
    obtain ⟨Z5, hZ5⟩ : ∃ Z5, w4.heap.size = Z5 := ⟨_, rfl⟩
    obtain ⟨W5, hW5⟩ : ∃ W5, w4.alloc (.cells #[.string e0.key, .string e0.val.v, .int .u64 (e0.val.ses : Int), .int .u64 (e0.val.lck : Int), .int .u64 (e0.made : Int), .int .u64 (e0.ix : Int)] TEn) = W5 := ⟨_, rfl⟩
    have hb5 : Below w4.heap.size w4 W5 := by rw [← hW5]; exact below1 _ _ _
    have hz5 : W5.heap[Z5]? = some (.cells #[.string e0.key, .string e0.val.v, .int .u64 (e0.val.ses : Int), .int .u64 (e0.val.lck : Int), .int .u64 (e0.made : Int), .int .u64 (e0.ix : Int)] TEn (0, 0)) := by rw [← hW5, ← hZ5]; exact heap_alloc_new w4 _
    have hky := (HB4.out.block Y (block_lt HKy.out)).trans HKy.out
    have k6' := (hb5.block P6 (block_lt k6)).trans k6
    have hb15 : Below W1.heap.size W1 W5 := HB3.out.trans ((HB4.out.trans (hb5.mono HB4.out.size)).mono HB3.out.size)
    have hck : CkOk W5 (nmC (.func (.func 72) #[] #[.pointer (some ⟨P6, 0, none⟩)]) key :: cs) e0 := by
      intro ck hm
      rcases List.mem_cons.1 hm with rfl | hm
      · exact ⟨Does.of (enters_of Tryd.func72 (by kernel_rfl) rfl) fun W hW => named1_any key P6 e0 W ((hW.block P6 (block_lt k6')).trans k6') ((HM.out.keep hb15).keep hW) HKs.out, by show 0 < 10; decide, by show 10 < 100; decide, rfl⟩
      · exact HCk.out.below hb15 ck hm
    have HF := Lib.hid (fault_any (nmC (.func (.func 72) #[] #[.pointer (some ⟨P6, 0, none⟩)]) key :: cs) [e0] A9 (some ⟨Z5, 0, none⟩) c9 1 W5 (by rw [hlen]; exact hsk9.below hb5) ⟨rfl, fun _ => ⟨Z5, 0, rfl, block_lt hz5, fun j hj => by
      obtain rfl : j = 0 := by simpa using hj
      intro k u hu
      simp only [Nat.zero_mul, Nat.zero_add]
      rw [cell_of_row _ _ _ _ _ _ hz5]
      simpa [enC, Kt.trC] using hu⟩⟩ (by rw [hlen]; have := HL.out; have := HN.out; omega) (by unfold maxLen; simp) (fun x hx => by
        rw [List.mem_singleton] at hx
        rw [hx]; exact hck))
    rw [hlen] at HF
    obtain ⟨r, hr⟩ : ∃ r, faultE (nmC (.func (.func 72) #[] #[.pointer (some ⟨P6, 0, none⟩)]) key :: cs) [e0] = r := ⟨_, rfl⟩
    rw [hr] at HF
    have HRes : Hid ((∃ x, firstE ((keyB key.data.toList, 10) :: saidOf cs e0) = some x ∧ r = x ∧ 0 < x) ∨ (firstE ((keyB key.data.toList, 10) :: saidOf cs e0) = none ∧ r = 0)) := Lib.hid (by
      have hs : saidOf (nmC (.func (.func 72) #[] #[.pointer (some ⟨P6, 0, none⟩)]) key :: cs) e0 = (keyB key.data.toList, 10) :: saidOf cs e0 := rfl
      unfold faultE at hr
      rw [List.findSome?_cons, hs, List.findSome?_nil] at hr
      cases hf : firstE ((keyB key.data.toList, 10) :: saidOf cs e0) with
      | none => rw [hf] at hr; exact .inr ⟨rfl, hr.symm⟩
      | some x =>
        rw [hf] at hr
        refine .inl ⟨x, rfl, hr.symm, ?_⟩
        unfold firstE at hf
        rw [← hs] at hf
        obtain ⟨y, hy, rfl⟩ := Option.map_eq_some_iff.1 hf
        obtain ⟨ck, hcm, rfl⟩ := List.mem_map.1 (List.mem_of_find?_eq_some hy)
        exact (hck ck hcm).2.1)
    have hr1 : ((r : Int) != 0) = (r != 0) := nat_bne0 r
    have HB15 := Lib.hid hb15
    have HKy5 := Lib.hid ((hb5.block Y (block_lt hky)).trans hky)
    have HW5 := Lib.hid hW5
    have HZ5 := Lib.hid hZ5
    obtain ⟨y0, y1, y2, y3, y4, y5⟩ := Kt.blk hky
    clear hall hJ hle hv k6 h6 e9 hsk9 hlen hZ5 hW5 hb5 hz5 hky k6' hb15 hck hr p6
    go_wp2_with fail
    rw [HW5.out, HZ5.out]
    clear HW5 HZ5 y0 y1 y2 y3 y4 y5
    refine HF.out.mono ?_
    rintro e' w6 ⟨rfl, hb6⟩
    have HB16 := Lib.hid (HB15.out.trans (hb6.mono HB15.out.size))
    have HKy6 := Lib.hid ((hb6.block Y (block_lt HKy5.out)).trans HKy5.out)
    clear hb6 HF
    rcases HRes.out with ⟨x, hx, rfl, hx0⟩ | ⟨hx, rfl⟩
    · have hb0 : (r != 0) = true := by simp; omega
      have HMe : Hid (md = (r, t)) := Lib.hid (by rw [← HMd.out]; exact modK_err hx)
      rw [hb0] at hr1
      clear hx hb0 hx0 HRes
      go_wp2
      go_ret
      rw [HMe.out]
      have hbw := HB1.out.trans (HB16.out.mono HB1.out.size)
      exact ⟨rfl, (HAt.out.below hbw).narrow fun k _ z => .inl z, But.of_below hbw⟩
    · have HKeyB : Hid (keyB key.data.toList = true) := Lib.hid (by
        rw [firstE_cons] at hx
        cases hk : keyB key.data.toList
        · rw [hk] at hx; cases hx
        · rfl)
      have HFn := Lib.hid hx
      have k7 := (HB16.out.block P7 (block_lt HK7.out)).trans HK7.out
      have c71 := cellsN k7 1 _ rfl
      have hky := HKy6.out
      obtain ⟨y0, y1, y2, y3, y4, y5⟩ := Kt.blk hky
      have z0 := blk_froz hky 0
      have hyl := block_lt hky
      obtain ⟨W7, hW7⟩ : ∃ W7, w6.setCell ⟨Y, 0, none⟩ (.string key) = W7 := ⟨_, rfl⟩
      have hky7 : W7.heap[Y]? = some (.cells #[.string key, .string e0.val.v, .int .u64 (e0.val.ses : Int), .int .u64 (e0.val.lck : Int), .int .u64 (e0.made : Int), .int .u64 (e0.ix : Int)] TEn (0, 0)) := by rw [← hW7]; exact block_set hky 0 _
      have hY3 : W1.heap.size ≤ Y := HYl.out
      have hb7 : Below W1.heap.size W1 W7 := by rw [← hW7]; exact HB16.out.setCell (p := ⟨Y, 0, none⟩) hY3 _
      have k77 := (hb7.block P7 (block_lt HK7.out)).trans HK7.out
      have HCl := Lib.hid (HCall.out W7 hb7)
      have HB17 := Lib.hid hb7
      have HKy7 := Lib.hid hky7
      have HW7 := Lib.hid hW7
      clear hx k7 hky hky7 hb7 hW7 HRes k77
      go_wp2_with fail
      rw [HW7.out]
      refine HCl.out.mono ?_
      rintro e' w8 ⟨rfl, hb8⟩
      have hky8 := (hb8.block Y (block_lt HKy7.out)).trans HKy7.out
      have hb18 := HB17.out.trans (hb8.mono HB17.out.size)
      have k9 := setL_all hky8 [.string e1.key, .string e1.val.v, .int .u64 (e1.val.ses : Int), .int .u64 (e1.val.lck : Int), .int .u64 (e1.made : Int), .int .u64 (e1.ix : Int)] rfl
      have hb19 : Below W1.heap.size W1 (setL Y 0 [.string e1.key, .string e1.val.v, .int .u64 (e1.val.ses : Int), .int .u64 (e1.val.lck : Int), .int .u64 (e1.made : Int), .int .u64 (e1.ix : Int)] w8) := hb18.trans ((but_setL Y [.string e1.key, .string e1.val.v, .int .u64 (e1.val.ses : Int), .int .u64 (e1.val.lck : Int), .int .u64 (e1.made : Int), .int .u64 (e1.ix : Int)] 0 w8).below hb18.size (fun k hk e => by have h1 : k = Y := e; have h2 := HYl.out; omega))
      have HTh := Lib.hid (there_any e1 (setL Y 0 [.string e1.key, .string e1.val.v, .int .u64 (e1.val.ses : Int), .int .u64 (e1.val.lck : Int), .int .u64 (e1.made : Int), .int .u64 (e1.ix : Int)] w8))
      have HKv9 := Lib.hid (HKv.out.below hb19)
      have HK9 := Lib.hid k9
      have HB19 := Lib.hid hb19
      obtain ⟨W9, hW9⟩ : ∃ W9, setL Y 0 [.string e1.key, .string e1.val.v, .int .u64 (e1.val.ses : Int), .int .u64 (e1.val.lck : Int), .int .u64 (e1.made : Int), .int .u64 (e1.ix : Int)] w8 = W9 := ⟨_, rfl⟩
      rw [hW9] at HTh HKv9 HK9 HB19
      have HW9 := Lib.hid hW9
      clear y0 y1 y2 y3 y4 y5 z0 hyl
      obtain ⟨y0, y1, y2, y3, y4, y5⟩ := Kt.blk hky8
      have z0 := blk_froz hky8 0
      have z1 := blk_froz hky8 1
      have z2 := blk_froz hky8 2
      have z3 := blk_froz hky8 3
      have z4 := blk_froz hky8 4
      have z5 := blk_froz hky8 5
      have hyl := block_lt hky8
      obtain ⟨q0, q1, q2, q3, q4, q5⟩ := Kt.blk k9
      simp only [setL] at q0 q1 q2 q3 q4 q5
      unfold enV Kt.trV at HTh
      clear hky8 hb18 k9 hb19 hW9 hb8 HCl HW7
      go_wp2_with fail
      have hW9' := HW9.out
      simp only [setL] at hW9'
      rw [hW9']
      refine HTh.out.mono ?_
      rintro e' w10 ⟨rfl, hb10⟩
      have HKv10 := Lib.hid (HKv9.out.below hb10)
      have HB110 := Lib.hid (HB19.out.trans (hb10.mono HB19.out.size))
      have hk10 := (hb10.block Y (block_lt HK9.out)).trans HK9.out
      clear y0 y1 y2 y3 y4 y5 z0 z1 z2 z3 z4 z5 hyl q0 q1 q2 q3 q4 q5 hW9' hb10 HTh
      cases nv with
      | some v =>
        obtain ⟨ek, ev⟩ := HTo.out
        have hne : eqE e1 noEn = false := eqE_ne fun e => by
          have h1 := key_some HKeyB.out
          rw [← ek, e] at h1
          exact absurd h1 (by decide)
        have HMe : Hid (md = putK t e1.key e1.val i) := Lib.hid (by rw [← HMd.out, modK_put HFn.out, ek, ev])
        have HLay := Lib.hid (lay_any e1 i HKv10.out HIx.out (by rw [ek]; exact HKs.out) (by rw [ek, ev, ← modK_put HFn.out]; exact HOk.out))
        rw [hne]
        obtain ⟨y0, y1, y2, y3, y4, y5⟩ := Kt.blk hk10
        unfold enV Kt.trV at HLay
        clear ek ev hne hk10
        go_wp2_with fail
        refine HLay.out.mono ?_
        rintro e' w11 ⟨rfl, hk11, hb11⟩
        have H11 := Lib.hid (And.intro hk11 hb11)
        clear hk11 hb11 HLay
        go_wp2
        go_ret
        rw [HMe.out]
        refine ⟨rfl, H11.out.1.narrow fun k _ z => ?_, (But.of_below (HB1.out.trans (HB110.out.mono HB1.out.size))).trans H11.out.2⟩
        rcases z with z | z
        · exact .inl z
        · have h1 := HB1.out.size
          have h2 := HB110.out.size
          exact .inr (by omega)
      | none =>
        have hne : eqE e1 noEn = true := (eqE_iff _ _).2 HTo.out
        have HMe : Hid (md = (0, t.dropT key i)) := Lib.hid (by rw [← HMd.out, modK_drop HFn.out])
        have kB := HKv10.out.ptr
        have HDr := Lib.hid (Kt.drop_any key i HKv10.out.tab HIx.out)
        have c0 := cellsN kB 0 _ rfl
        have HOk2 : Hid (KvOk (t.dropT key i)) := Lib.hid (by have := HOk.out; rw [HMd.out, HMe.out] at this; exact this)
        rw [hne]
        clear hne hk10 kB
        go_wp2_with fail
        refine HDr.out.mono ?_
        rintro e' w11 ⟨rfl, ht11, hb11⟩
        have H11 := Lib.hid (And.intro (HKv10.out.turned HOk2.out ht11 hb11) hb11)
        clear ht11 hb11 HDr
        go_wp2
        go_ret
        rw [HMe.out]
        refine ⟨rfl, H11.out.1.narrow fun k _ z => ?_, (But.of_below (HB1.out.trans (HB110.out.mono HB1.out.size))).trans H11.out.2⟩
        rcases z with z | z
        · exact .inl z
        · have h1 := HB1.out.size
          have h2 := HB110.out.size
          exact .inr (by omega)

end Go.Proofs.YtohnkagabpefdaaDoor
