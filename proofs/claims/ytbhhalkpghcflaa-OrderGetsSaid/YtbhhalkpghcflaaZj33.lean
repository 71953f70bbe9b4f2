/-
  The document's Put (layer 20).
-/
import Derived.Test.YtbhhalkpghcflaaZj20
import Derived.Test.YtbhhalkpghcflaaZj32
import Derived.Test.YtbhhalkpghcflaaZj14
import Derived.Test.YtbhhalkpghcflaaZj16
import Derived.Test.YtbhhalkpghcflaaZj28
namespace Go.Proofs.Ytbhhalkpghcflaa
open Go.RowKit Go.Rel
set_option linter.unusedSimpArgs false
set_option linter.unusedVariables false

/-- What has been done of the region that lays the head. -/
structure PuI (w1 : World) (ys zs : List UInt8) (f : Nat → Bool) (e : Nat → Value) (W : World) : Prop where
  low : Below w1.heap.size w1 W
  a : f 3 = true → f 8 = false → W.ownsRow w1.heap.size 5 1 (e 3) ys.length (ys.map byteV)
  b : f 7 = true → f 8 = false → W.ownsRow w1.heap.size 5 1 (e 7) zs.length (zs.map byteV)
  c : f 8 = true → W.ownsRow w1.heap.size 5 1 (e 8) (ys.length + zs.length) ((ys ++ zs).map byteV)
  d : f 9 = true → e 9 = e 8
section
variable {w1 W W2 : World} {ys zs : List UInt8} {f : Nat → Bool} {e e' : Nat → Value} {v : Value} {ops : Array Oper} {i : Nat}
theorem upd_ne (m : Nat) (h : ¬ i = m) : upd f i m = f m := by
  unfold upd
  rw [show (m == i) = false by simpa using fun e => h e.symm, Bool.false_or]
theorem upd_eq : upd f i i = true := by unfold upd; simp
theorem PuI.start : PuI w1 ys zs (fun _ => false) e { w1 with drawn := w1.drawn + 1 } := ⟨(Below.refl _ w1).drew, (fun h => by cases h), (fun h => by cases h), (fun h => by cases h), (fun h => by cases h)⟩
theorem PuI.keep (h : PuI w1 ys zs f e W) (hi : [3, 7, 8, 9].contains i = false) (hp : Put ops i e v e') : PuI w1 ys zs (upd f i) e' W := by
  simp only [List.contains_cons, List.contains_nil, Bool.or_false, Bool.or_eq_false_iff, beq_eq_false_iff_ne, ne_eq] at hi
  obtain ⟨h1, h2, h3, h4⟩ := hi
  have g : ∀ m, ¬ i = m → e' m = e m := fun m hm => hp.1 m (fun e => hm e.symm)
  refine ⟨h.low, ?_, ?_, ?_, ?_⟩
  · rw [upd_ne 3 h1, upd_ne 8 h3, g 3 h1]; exact h.a
  · rw [upd_ne 7 h2, upd_ne 8 h3, g 7 h2]; exact h.b
  · rw [upd_ne 8 h3, g 8 h3]; exact h.c
  · rw [upd_ne 9 h4, g 8 h3, g 9 h4]; exact h.d
theorem PuI.fst (h : PuI w1 ys zs f e W) (h8 : f 8 = false) (h9 : f 9 = false) (hb : Below W.heap.size W W2) (ho : W2.ownsRow W.heap.size 5 1 v ys.length (ys.map byteV)) (hp : Put ops 3 e v e') (hd : ((ops[3]?).bind (·.dst)).isSome = true) : PuI w1 ys zs (upd f 3) e' W2 := by
  have hv := hp.2 hd
  refine ⟨h.low.trans (hb.mono h.low.size), ?_, ?_, ?_, ?_⟩
  · intro _ _
    rw [hv]
    exact bown_base ho h.low.size
  · rw [upd_ne 7 (by decide), upd_ne 8 (by decide), hp.1 7 (by decide)]
    exact fun g1 g2 => bown_keep (h.b g1 g2) hb
  · rw [upd_ne 8 (by decide), h8]
    intro h; cases h
  · rw [upd_ne 9 (by decide), h9]
    intro h; cases h
theorem PuI.snd (h : PuI w1 ys zs f e W) (h8 : f 8 = false) (h9 : f 9 = false) (hb : Below W.heap.size W W2) (ho : W2.ownsRow W.heap.size 5 1 v zs.length (zs.map byteV)) (hp : Put ops 7 e v e') (hd : ((ops[7]?).bind (·.dst)).isSome = true) : PuI w1 ys zs (upd f 7) e' W2 := by
  have hv := hp.2 hd
  refine ⟨h.low.trans (hb.mono h.low.size), ?_, ?_, ?_, ?_⟩
  · rw [upd_ne 3 (by decide), upd_ne 8 (by decide), hp.1 3 (by decide)]
    exact fun g1 g2 => bown_keep (h.a g1 g2) hb
  · intro _ _
    rw [hv]
    exact bown_base ho h.low.size
  · rw [upd_ne 8 (by decide), h8]
    intro h; cases h
  · rw [upd_ne 9 (by decide), h9]
    intro h; cases h
theorem PuI.app (h : PuI w1 ys zs f e W) (h3 : f 3 = true) (h7 : f 7 = true) (h8 : f 8 = false) (h9 : f 9 = false) (hz : 0 < zs.length) (hl : ys.length + zs.length ≤ 1000000) (ty : TypeId) :
    ∃ v' W2, (Builtin.append_ #[32, 32] ty #[e 3, e 7]).run Try.prog W = .ok v' W2 ∧ ∀ {ops : Array Oper} e', Put ops 8 e v' e' → ((ops[8]?).bind (·.dst)).isSome = true → PuI w1 ys zs (upd f 8) e' W2 := by
  obtain ⟨A, c, ev, hr, k1, k2, k3⟩ := (bs_of_own (h.b h7 h8)).ex
  obtain ⟨i0, hi, hz0, hz1, hz2⟩ := info_parts u8_info
  obtain ⟨b, off, rfl, _, _⟩ := hr.2 hz
  have hown := h.a h3 h8
  obtain ⟨v', W2, hrun, h2, hg, h4, h5⟩ := run_append_own_at (P := Try.prog) W w1.heap.size 32 ty 5 i0 (.int .u8 0) 1 1 Try.underlying32 hi hz0 hz1 hz2 rfl (by decide) (e 3) ys.length (ys.map byteV) hown ⟨b, off, none⟩ zs.length c (zs.map byteV) (by simp) hr.news (by
    intro u hu
    simp only [List.mem_map] at hu
    obtain ⟨y, _, rfl⟩ := hu
    rfl) (by unfold maxLen; omega) (by omega) h.low.size
  refine ⟨v', W2, by rw [ev]; exact hrun, fun e' hp hd => ?_⟩
  have hv := hp.2 hd
  refine ⟨h.low.grown hg h.low.size (fun k hk => (hown.lt k hk).1), ?_, ?_, ?_, ?_⟩
  · rw [upd_eq]
    intro _ h; cases h
  · rw [upd_eq]
    intro _ h; cases h
  · intro _
    rw [hv, List.map_append]
    exact h2
  · rw [upd_ne 9 (by decide), h9]
    intro h; cases h
theorem PuI.set (h : PuI w1 ys zs f e W) (hp : Put ops 9 e (e 8) e') (hd : ((ops[9]?).bind (·.dst)).isSome = true) : PuI w1 ys zs (upd f 9) e' W := by
  have hv := hp.2 hd
  refine ⟨h.low, ?_, ?_, ?_, ?_⟩
  · rw [upd_ne 3 (by decide), upd_ne 8 (by decide), hp.1 3 (by decide)]; exact h.a
  · rw [upd_ne 7 (by decide), upd_ne 8 (by decide), hp.1 7 (by decide)]; exact h.b
  · rw [upd_ne 8 (by decide), hp.1 8 (by decide)]; exact h.c
  · intro _
    rw [hv, hp.1 8 (by decide)]
end
theorem wpList_append_ob {w : World} {ops : Array Oper} {rest : List Oper} {o : Oper} {a : Act} {Q : Exit → Act → World → Prop} (hgd : o.guard = none) (s x : Operand)
    (ho : o.op = .call { callee := .builtin .append, args := #[s, x], argTypes := #[32, 32] }) (base n : Nat) (v u : Value) (ys zs : List UInt8) (hs : a.eval s = v) (hx : a.eval x = u) (hv : w.ownsRow base 5 1 v n (ys.map byteV)) (hu : Bs w u zs) (hz : 0 < zs.length) (hl : n + zs.length ≤ 1000000) (hbase : base ≤ w.heap.size)
    (h : Hid (∀ v' w', w'.ownsRow base 5 1 v' (n + zs.length) ((ys ++ zs).map byteV) → Below base w w' → wpList Try.prog ops Q rest (a.put o.dst v') w')) : wpList Try.prog ops Q (o :: rest) a w := by
  obtain ⟨A, c, rfl, hr, h1, h2, h3⟩ := hu.ex
  obtain ⟨i0, hi, hz0, hz1, hz2⟩ := info_parts u8_info
  obtain ⟨b, off, rfl, _, _⟩ := hr.2 hz
  exact wpList_append_own_at w hgd s x 32 ho base 5 i0 (.int .u8 0) 1 1 Try.underlying32 hi hz0 hz1 hz2 rfl (by decide) v n (ys.map byteV) hs hv ⟨b, off, none⟩ zs.length c (zs.map byteV) hx (by simp) hr.news (by
    intro u hu
    simp only [List.mem_map] at hu
    obtain ⟨y, _, rfl⟩ := hu
    rfl) (by unfold maxLen; omega) (by omega) hbase (fun v' w' g1 g2 _ g4 => h.out v' w' (by rw [List.map_append]; exact g1) ((Below.refl _ w).grown g2 hbase (fun k hk => (hv.lt k hk).1)))
def puE (N : Nat) (cl : Int) (sq : Nat) : Nat → Value
  | 0 => .pointer (some ⟨N, 0, none⟩)
  | 1 => .int .i64 cl
  | 2 => .int .u64 (IntKind.u64.wrap cl)
  | 4 => .pointer (some ⟨N, 1, none⟩)
  | 5 => .int .u32 (sq : Int)
  | 6 => .int .u64 (IntKind.u64.wrap (sq : Int))
  | _ => undef
theorem preB_pos (x : CmW) (tags : List (List UInt8)) (sB : List UInt8) : ∀ k, 0 < (preB x tags sB k).length
  | 0 => by unfold preB; rw [numB_length]; omega
  | k + 1 => by
    have := preB_pos x tags sB k
    unfold preB
    split
    · simp
      omega
    · simpa using this
theorem subsB_le {l : List Sub} (h8 : l.length ≤ 8) (h : ∀ y ∈ l, (subB y).length ≤ 11000) : (subsB l).length ≤ 9 + 88000 := by
  have h1 := numB_le (n := l.length) (by omega)
  have h2 : (l.flatMap subB).length ≤ l.length * 11000 := by
    clear h8 h1
    induction l with
    | nil => simp
    | cons y l ih =>
      have := h y (List.mem_cons_self ..)
      have := ih (fun z hz => h z (List.mem_cons_of_mem _ hz))
      simp only [List.flatMap_cons, List.length_append, List.length_cons]
      omega
  unfold subsB
  rw [List.length_append]
  omega
theorem cmdB_le {w : World} {x : CmW} {tags : List (List UInt8)} {subs : List Sub} (h : Cm1 w x tags subs) (hok : cmdOk x tags subs = true) : (cmdB x tags subs).length ≤ 200000 := by
  unfold cmdOk at hok
  simp only [Bool.and_eq_true] at hok
  obtain ⟨⟨hk, hf⟩, hs⟩ := hok
  have hki := kind_of hk
  have h1 := preB_len (sB := subsB subs) h.top (fOk_all hf) (by omega) 15 (by omega)
  show (preB x tags (subsB subs) 16).length ≤ 200000
  unfold preB
  cases h15 : hasB x.kind.toNat 15 with
  | false =>
    simp
    omega
  | true =>
    rw [h15] at hs
    simp only [if_true, Bool.and_eq_true, decide_eq_true_eq, List.all_eq_true] at hs
    have h2 := h.row.1
    have h4 : (preB x tags (subsB subs) 15 ++ subsB subs).length ≤ 200000 := by
      have h3 := subsB_le (l := subs) (by
        have : subs.length = x.sn := by simpa using h2
        omega) (fun y hy => (sub_lays (h.each y hy) (hs.2 y hy)).1)
      rw [List.length_append]
      omega
    exact h4
theorem sub_bys {w : World} {y : Sub} (h : Cm0 w y.1 y.2) (hok : subOk y = true) : ByS w y.1 (subB y) := by
  have hl := (sub_lays h hok).1
  unfold subOk at hok
  simp only [Bool.and_eq_true, Bool.not_eq_true', decide_eq_false_iff_not, decide_eq_true_eq] at hok
  obtain ⟨⟨⟨hk, h18⟩, hf⟩, hsn⟩ := hok
  have h15 := not15 hk h18
  have hki := kind_of hk
  have e1 : cmdB y.1 y.2 [] = subB y := preB_any h15
  refine ⟨⟨?_, hl⟩, fun w' hb => ?_⟩
  · rw [← e1]
    exact preB_pos _ _ _ _
  · have h1 := rbytes_gen y.1 y.2 [] w' (h.below hb) (fOk_all hf) hki (fun e => by rw [h15] at e; cases e)
    rw [e1] at h1
    exact h1
theorem rBytes_ok {w : World} {x : CmW} {tags : List (List UInt8)} {subs : List Sub} (h : Cm1 w x tags subs) (hok : cmdOk x tags subs = true) : Calls Try.prog 22 #[cmV x] w (LaysT w (cmdB x tags subs)) := by
  unfold cmdOk at hok
  simp only [Bool.and_eq_true] at hok
  obtain ⟨⟨hk, hf⟩, hs⟩ := hok
  refine rbytes_gen x tags subs w h.top (fOk_all hf) (kind_of hk) (fun e => ?_)
  rw [e] at hs
  simp only [if_true, Bool.and_eq_true, decide_eq_true_eq, List.all_eq_true] at hs
  exact ⟨by omega, h.row, fun y hy => sub_bys (h.each y hy) (hs.2 y hy)⟩
set_option maxHeartbeats 2000000 in
theorem rPut_any (cl : Int) (sq : Nat) (x : CmW) (tags : List (List UInt8)) (subs : List Sub) (w : World) (h : Cm1 w x tags subs) (hcl : -9223372036854775808 ≤ cl ∧ cl ≤ 9223372036854775807) (hsq : sq < 4294967296) :
    Calls Try.prog 12 #[orV cl sq x] w (PutP w (ordOk cl x tags subs) (ordB cl sq x tags subs)) := by
  have hb0 := (Below.refl _ w).alloc (Nat.le_refl _) (.cells (orC cl sq x).toArray TOr)
  have C := Lib.hid (rRight_any x tags subs _ (h.below hb0))
  have HOB := Lib.hid (or_box w cl sq x)
  have HIt := Lib.hid (or_item (or_box w cl sq x))
  have HB := Lib.hid hb0
  have H := Lib.hid h
  unfold cmV strV at C
  unfold orC cmC strV at C
  cases hr : cmdOk x tags subs with
  | false =>
    have ho : ordOk cl x tags subs = false := by unfold ordOk; rw [hr]; rfl
    rw [ho]
    rw [hr] at C
    clear h hb0 ho hr
    unfold orV cmC strV
    go_enter Try.func12, Try.ntmps12
    go_wp2_with (first | (refine wpList_load_mid rfl TCm (.tmp 5) rfl w.heap.size 2 rfl (cmC x) _ HIt.out Try.underlying26 rfl (by kernel_rfl) ?_; unfold cmC strV) | (go_at_call 9; refine C.out.mono ?_; rintro e w6 ⟨rfl, hb6⟩; have HB6 := Lib.hid hb6; clear hb6))
    go_ret2
    exact ⟨HB.out.trans (HB6.out.mono (by simp)), fun _ => rfl, fun e => by cases e⟩
  | true =>
    have HOK := Lib.hid hr
    rw [hr] at C
    by_cases hc : 0 ≤ cl ∧ cl ≤ 15
    · have ho : ordOk cl x tags subs = true := by unfold ordOk; rw [hr, decide_eq_true hc.1, decide_eq_true hc.2]; rfl
      rw [ho]
      obtain ⟨CN, hCN⟩ : ∃ CN : Nat, cl = CN := ⟨cl.toNat, by omega⟩
      have hcn : CN ≤ 15 := by omega
      have e1 : IntKind.u64.wrap cl = cl := by unfold IntKind.wrap; simp [IntKind.signed, IntKind.bits]; omega
      have e2 : IntKind.u64.wrap (sq : Int) = (sq : Int) := by unfold IntKind.wrap; simp [IntKind.signed, IntKind.bits]; omega
      have C1 : Hid (∀ W, Calls Try.prog 21 #[.int .u64 (IntKind.u64.wrap cl)] W (Adds W W.heap.size (numB CN).length (numB CN))) := Lib.hid (fun W => by rw [e1, hCN]; exact rnum_any CN (by omega) W)
      have C2 : Hid (∀ W, Calls Try.prog 21 #[.int .u64 (IntKind.u64.wrap (sq : Int))] W (Adds W W.heap.size (numB sq).length (numB sq))) := Lib.hid (fun W => by rw [e2]; exact rnum_any sq (by omega) W)
      have HL : Hid (0 < (numB sq).length ∧ (numB CN).length + (numB sq).length ≤ 18 ∧ (numB CN).length + (numB sq).length + (cmdB x tags subs).length ≤ 1000000) := Lib.hid (by
        have h1 := numB_le (n := CN) (by omega)
        have h2 := numB_le (n := sq) (by omega)
        have h3 := cmdB_le h HOK.out
        exact ⟨by rw [numB_length]; omega, by omega, by omega⟩)
      have C3 := Lib.hid (fun W (hb : Below w.heap.size w W) => rBytes_ok (H.out.below hb) HOK.out)
      have EB := Lib.hid (show ordB cl sq x tags subs = numB CN ++ numB sq ++ cmdB x tags subs by unfold ordB; rw [hCN]; rfl)
      have n1 : ¬ cl < 0 := by omega
      have n2 : ¬ 15 < cl := by omega
      have n3 : 0 ≤ cl := by omega
      clear h hb0 ho hr hCN hcl hsq hc e1 e2
      unfold cmV strV at C3
      unfold orV cmC strV
      go_enter Try.func12, Try.ntmps12
      go_wp2_with (first | (refine wpList_load_mid rfl TCm (.tmp 5) rfl w.heap.size 2 rfl (cmC x) _ HIt.out Try.underlying26 rfl (by kernel_rfl) ?_; unfold cmC strV) | (go_at_call 9; refine C.out.mono ?_; rintro e w6 ⟨rfl, hb6⟩; have HB6 := Lib.hid (HB.out.trans (hb6.mono (by simp))); have HO6 := Lib.hid (range_below HOB.out hb6 (by simp)); have hc0 : w6.cell? ⟨w.heap.size, 0, none⟩ = some (.int .i64 cl) := HO6.out 0 _ rfl; clear hb6))
      have hc1 : w6.cell? ⟨w.heap.size, 1, none⟩ = some (.int .u32 (sq : Int)) := HO6.out 1 _ rfl
      have HC0 := Lib.hid hc0
      have HC1 := Lib.hid hc1
      clear hc0 hc1 n1 n2 n3
      refine Go.Rel.wp_tabeq (by kernel_rfl) (by kernel_rfl) (PuI w6 (numB CN) (numB sq)) (fun _ _ => True) (fun _ => trivial) (fun _ _ _ _ _ => trivial) trivial (fun e => PuI.start) (puE w.heap.size cl sq) (fun _ _ _ => True) (fun i => ([3, 7, 8, 9] : List Nat).contains i) (fun i => ([1, 3, 5, 7, 8, 9] : List Nat).contains i) (by kernel_rfl) (fun _ _ _ _ h _ => h) [3, 7, 8, 9] (by decide) (fun f e W i v e' hi hI hp => hI.keep hi hp) (fun _ _ => False) (fun _ _ _ _ h => h.elim) ?_ (Go.Rel.AllOf.get ?_) ?_
      · repeat (refine .cons (by first | exact Go.Rel.pure_sp rfl | exact Go.Rel.pure_yes (by kernel_rfl) (fun _ => by kernel_rfl)) ?_)
        exact .nil
      · refine ⟨?_, ?_, ?_, ?_, ?_, ?_, trivial⟩
        · exact SpecE.q _ <| SpecE.ld (T := 3) (fun f e W i v e' hi hI hp => hI.keep hi hp) (fun _ => trivial) (q := .pointer (some ⟨w.heap.size, 0, none⟩)) (h := fun f W e hI _ _ _ _ => by have hp := (hI.low.cell (p := ⟨w.heap.size, 0, none⟩) (World.block_lt_of_cell? _ _ HC0.out)).trans HC0.out; go_simp; rfl)
        · exact SpecEQ.call 21 #[.int .u64 (IntKind.u64.wrap cl)] rfl (by kernel_rfl) (fun _ => by kernel_rfl) fun f W e hI hf hd ha _ => (C1.out W).mono fun e9 W2 ⟨v, he, ho, hb⟩ => .inl ⟨v, he, trivial, fun e' hp => hI.fst (hd 3 8 (by kernel_rfl)) (hd 4 9 (by kernel_rfl)) hb ho hp rfl, trivial⟩
        · exact SpecE.q _ <| SpecE.ld (T := 29) (fun f e W i v e' hi hI hp => hI.keep hi hp) (fun _ => trivial) (q := .pointer (some ⟨w.heap.size, 1, none⟩)) (h := fun f W e hI _ _ _ _ => by have hp := (hI.low.cell (p := ⟨w.heap.size, 1, none⟩) (World.block_lt_of_cell? _ _ HC1.out)).trans HC1.out; go_simp; rfl)
        · exact SpecEQ.call 21 #[.int .u64 (IntKind.u64.wrap (sq : Int))] rfl (by kernel_rfl) (fun _ => by kernel_rfl) fun f W e hI hf hd ha _ => (C2.out W).mono fun e9 W2 ⟨v, he, ho, hb⟩ => .inl ⟨v, he, trivial, fun e' hp => hI.snd (hd 3 8 (by kernel_rfl)) (hd 4 9 (by kernel_rfl)) hb ho hp rfl, trivial⟩
        · exact SpecE.q _ <| SpecE.gen (fun e => [(22, e 3), (26, e 7)]) rfl rfl (fun _ => by kernel_rfl) fun f W e hI hf hd ha _ _ K hK => by
            obtain ⟨v', W2, hrun, hk2⟩ := hI.app (ha 3 3 (by kernel_rfl)) (ha 3 7 (by kernel_rfl)) hf (hd 3 9 (by kernel_rfl)) HL.out.1 (by have := HL.out.2.1; omega) 32
            exact runs_append (.tmp 22) (.tmp 26) 32 rfl rfl rfl hrun (hK v' W2 trivial (fun e' hp => hk2 e' hp rfl) trivial)
        · exact SpecE.q _ <| SpecE.gen (fun e => [(27, e 8)]) rfl rfl (fun _ => by kernel_rfl) fun f W e hI hf hd ha _ _ K hK => hK (e 8) W trivial (fun e' hp => hI.set hp rfl) trivial
      · intro f W e hall hI _ hv
        have h9 := hI.d (hall 9 (by decide))
        have HV := Lib.hid (hI.c (hall 8 (by decide)))
        have HB7 := Lib.hid (HB6.out.trans (hI.low.mono HB6.out.size))
        have HI8 := Lib.hid (or_item (range_below HO6.out hI.low (World.block_lt_of_cell? _ _ HC0.out)))
        have HW6 := Lib.hid hI.low.size
        simp only [Go.Rel.finL, List.setIfInBounds_toArray, List.set_cons_succ, List.set_cons_zero, h9]
        clear hv hI hall h9
        show Exit.then _ _ Exit.normal _ _
        unfold Exit.then
        go_wp2_with (refine wpList_load_mid rfl TCm (.tmp 29) rfl w.heap.size 2 rfl (cmC x) _ HI8.out Try.underlying26 rfl (by kernel_rfl) ?_; unfold cmC strV)
        refine (C3.out W HB7.out).mono ?_
        rintro e9 w9 ⟨v9, rfl, hv9, hb9⟩
        have HV9 := Lib.hid hv9
        have HO9 := Lib.hid (bown_keep HV.out hb9)
        have HB9 := Lib.hid (HB7.out.trans (hb9.mono HB7.out.size))
        have HS9 := Lib.hid (Nat.le_trans HW6.out hb9.size)
        have HP := Lib.hid (show 0 < (cmdB x tags subs).length from preB_pos _ _ _ _)
        clear hv9 hb9 C3
        go_wp2_with (at_builtin; refine wpList_append_ob rfl (.tmp 28) (.tmp 31) rfl w6.heap.size _ (e 8) v9 (numB CN ++ numB sq) (cmdB x tags subs) rfl rfl HO9.out HV9.out HP.out HL.out.2.2 HS9.out ?_)
        refine Lib.hid ?_
        intro v' w' ho' hb'
        have HO' := Lib.hid ho'
        have HB' := Lib.hid (HB9.out.trans (hb'.mono HB6.out.size))
        clear ho' hb'
        go_wp2
        go_ret2
        exact ⟨HB'.out, (fun e => by cases e), fun _ => ⟨v', rfl, by rw [EB.out]; exact bs_of_own (base := w6.heap.size) (by rw [List.map_append, List.map_append, List.append_assoc]; exact HO'.out)⟩⟩
    · have ho : ordOk cl x tags subs = false := by
        unfold ordOk
        rw [hr]
        simp
        omega
      rw [ho]
      clear h hb0 ho hr
      unfold orV cmC strV
      by_cases hneg : cl < 0
      · go_enter Try.func12, Try.ntmps12
        go_wp2_with (first | (refine wpList_load_mid rfl TCm (.tmp 5) rfl w.heap.size 2 rfl (cmC x) _ HIt.out Try.underlying26 rfl (by kernel_rfl) ?_; unfold cmC strV) | (go_at_call 9; refine C.out.mono ?_; rintro e w6 ⟨rfl, hb6⟩; have HB6 := Lib.hid hb6; have hc0 : w6.cell? ⟨w.heap.size, 0, none⟩ = some (.int .i64 cl) := range_below HOB.out hb6 (by simp) 0 _ rfl; clear hb6))
        go_ret2
        exact ⟨HB.out.trans (HB6.out.mono (by simp)), fun _ => rfl, fun e => by cases e⟩
      · have hbig : 15 < cl := by omega
        go_enter Try.func12, Try.ntmps12
        go_wp2_with (first | (refine wpList_load_mid rfl TCm (.tmp 5) rfl w.heap.size 2 rfl (cmC x) _ HIt.out Try.underlying26 rfl (by kernel_rfl) ?_; unfold cmC strV) | (go_at_call 9; refine C.out.mono ?_; rintro e w6 ⟨rfl, hb6⟩; have HB6 := Lib.hid hb6; have hc0 : w6.cell? ⟨w.heap.size, 0, none⟩ = some (.int .i64 cl) := range_below HOB.out hb6 (by simp) 0 _ rfl; clear hb6))
        go_ret2
        exact ⟨HB.out.trans (HB6.out.mono (by simp)), fun _ => rfl, fun e => by cases e⟩
end Go.Proofs.Ytbhhalkpghcflaa
