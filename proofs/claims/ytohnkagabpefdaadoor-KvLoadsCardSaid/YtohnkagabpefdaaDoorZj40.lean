/-
  Free: a session holds nothing any more, walked (layer 16).
-/
import Derived.Test.YtohnkagabpefdaaDoorZj37
import Derived.Test.YtohnkagabpefdaaDoorZj38
import Derived.Test.YtohnkagabpefdaaDoorZj39
namespace Go.Proofs.YtohnkagabpefdaaDoor
open Go.RowKit Go.Rel Go.Shelf
set_option linter.unusedSimpArgs false
set_option linter.unusedVariables false

def freeL (P : Nat) (Y : Nat) (y : En) (z : Nat) (b : Bool) : Nat → Value
  | 0 => .func (.func 45) #[] #[.pointer (some ⟨P, 0, none⟩)]
  | 1 | 3 => .agg #[.string y.key, .string y.val.v, .int .u64 (y.val.ses : Int), .int .u64 (y.val.lck : Int), .int .u64 (y.made : Int), .int .u64 (y.ix : Int)]
  | 2 => .agg #[.string y.key, .string y.val.v, .int .u64 (z : Int), .int .u64 (y.val.lck : Int), .int .u64 (y.made : Int), .int .u64 (y.ix : Int)]
  | 4 => .bool b
  | _ => undef
theorem MaxIs.but {S : Nat → Prop} {W W' : World} (h : MaxIs W) (hb : But S W W') (hs : ¬ S 0) : MaxIs W' := by
  obtain ⟨m, hm⟩ := h
  exact ⟨m, (World.cell?_of_block (a := ⟨0, 0, none⟩) (hb.block _ (World.block_lt_of_cell? W _ hm) hs)).trans hm⟩
def kyC (s : ByteArray) : List Value := [.string s]
abbrev kyRow (w : World) (base : Nat) (v : Value) (l : List ByteArray) : Prop := rowK kyC 9 1 w base v l
theorem kyC_len (s : ByteArray) : (kyC s).length = 1 := rfl
theorem kyC_one (s : ByteArray) : ∀ u ∈ kyC s, u.oneCell' = true := fun u hu => by
  rw [kyC, List.mem_singleton] at hu
  rw [hu]; rfl
theorem ky_info : (Tryd.prog.info? 9).map (fun i => (i.zero, i.size, i.bytes)) = some (some (.string ⟨#[]⟩), 1, 16) := by kernel_rfl
/-- append of a key to a row of the call's own, and where the row lies now. -/
theorem wpList_append_ky {w : World} {ops : Array Oper} {rest : List Oper} {o : Oper} {a : Act} {Q : Exit → Act → World → Prop} (hgd : o.guard = none) (s x : Operand)
    (ho : o.op = .call { callee := .builtin .append, args := #[s, x], argTypes := #[47, 47] })
    (base : Nat) (v : Value) (l : List ByteArray) (hs : a.eval s = v) (hown : kyRow w base v l) (X : Nat) (y : ByteArray) (hx : a.eval x = .slice (some ⟨X, 0, none⟩) 1 1) (hc : ItAt kyC w X 0 y)
    (hl : l.length ≤ 1000) (hbase : base ≤ w.heap.size)
    (h : Hid (∀ v' w', kyRow w' base v' (l ++ [y]) → w.grownBy w' v.ownBlock → (v'.ownBlock = v.ownBlock ∨ ∀ r, v'.ownBlock = some r → w.heap.size ≤ r) → wpList Tryd.prog ops Q rest (a.put o.dst v') w')) : wpList Tryd.prog ops Q (o :: rest) a w := by
  obtain ⟨i0, hi, hz0, hz1, hz2⟩ := info_parts ky_info
  exact wpList_append_kw hgd s x _ ho i0 _ 16 Tryd.underlying47 hi hz0 hz1 hz2 rfl (by decide) kyC_len kyC_one base v l hs hown X y hx hc (by unfold maxLen; omega) (by omega) hbase h
/-- What Free has done: the store, and the keys told, which lie apart from it. -/
structure FrSt (S0 : Nat → Prop) (g0 : Nat) (W2 wr : World) (B Bt : Nat) (T : Tb Kp) (v : Value) (ks : List ByteArray) (S' : Nat → Prop) : Prop where
  kv : KvAt S' wr B Bt T
  sub : ∀ j, S' j → j < wr.heap.size ∧ (S0 j ∨ g0 ≤ j)
  but : But (· = Bt) W2 wr
  mine : S0 Bt
  row : kyRow wr g0 v ks
  sep : ∀ j, v.ownBlock = some j → ¬ S' j
/-- One more entry, where nobody's is freed. -/
theorem FrSt.below {S0 S' : Nat → Prop} {g0 B Bt : Nat} {W2 wr w' : World} {T : Tb Kp} {v : Value} {ks : List ByteArray} (h : FrSt S0 g0 W2 wr B Bt T v ks S') (hb : Below wr.heap.size wr w') : FrSt S0 g0 W2 w' B Bt T v ks S' :=
  ⟨h.kv.below hb, fun j hj => ⟨Nat.lt_of_lt_of_le (h.sub j hj).1 hb.size, (h.sub j hj).2⟩, h.but.trans (But.of_below hb), h.mine, h.row.below hb, h.sep⟩
/-- One more, where it is. -/
theorem FrSt.more {S0 S' : Nat → Prop} {g0 B Bt : Nat} {W2 wr w5 w6 : World} {T T' : Tb Kp} {v v' : Value} {ks : List ByteArray} {x : ByteArray} {o : Obj} (h : FrSt S0 g0 W2 wr B Bt T v ks S') (hg : W2.heap.size = g0) (hb5 : But (· = Bt) wr w5) (hk5 : KvAt (fun k => S' k ∨ wr.heap.size ≤ k) w5 B Bt T')
    (hg6 : (w5.alloc o).grownBy w6 v.ownBlock) (hr : kyRow w6 g0 v' (ks ++ [x])) (hw : v'.ownBlock = v.ownBlock ∨ ∀ r, v'.ownBlock = some r → w5.heap.size + 1 ≤ r) :
    FrSt S0 g0 W2 w6 B Bt T' v' (ks ++ [x]) (fun k => (S' k ∨ wr.heap.size ≤ k) ∧ k < w5.heap.size) := by
  have hown : ∀ r, v.ownBlock = some r → r < wr.heap.size ∧ ¬ S' r := fun r hr => ⟨(h.row.from r hr).2, h.sep r hr⟩
  have ha : Below w5.heap.size w5 (w5.alloc o) := (Below.refl _ _).alloc (Nat.le_refl _) _
  have hb6 : But (fun j => v.ownBlock = some j) (w5.alloc o) w6 := But.of_grown hg6 fun r e _ => e
  have hs5 := hb5.size
  have hs6 := hg6.size
  have hs2 := h.but.size
  refine ⟨((hk5.narrow fun k hk z => ⟨z, hk⟩).below ha).but hb6 fun j e z => ?_, fun j hj => ⟨?_, ?_⟩, ?_, h.mine, hr, fun j e z => ?_⟩
  · have := hown j e
    rcases z.1 with z | z
    · exact this.2 z
    · omega
  · have := hj.2
    simp at hs6
    omega
  · rcases hj.1 with z | z
    · exact (h.sub j z).2
    · exact .inr (by omega)
  · refine ⟨?_, ?_, ?_, ?_, fun k hk hn => ?_⟩
    · exact hb6.os.trans (ha.os.trans (hb5.os.trans h.but.os))
    · exact hb6.tape.trans (ha.tape.trans (hb5.tape.trans h.but.tape))
    · exact hb6.output.trans (ha.output.trans (hb5.output.trans h.but.output))
    · simp at hs6; omega
    · have h2 : v.ownBlock ≠ some k := fun e => by
        have := (h.row.from k e).1
        omega
      exact (hb6.block k (by simp; omega) h2).trans ((ha.block k (by omega)).trans ((hb5.block k (by omega) hn).trans (h.but.block k hk hn)))
  · rcases hw with hw | hw
    · rw [hw] at e
      rcases z.1 with z | z
      · exact (hown j e).2 z
      · have := (hown j e).1
        omega
    · have h1 := hw j e
      have := z.2
      omega
theorem y_self (y : En) : ({ y with key := y.key } : En) = y := rfl
set_option maxHeartbeats 8000000 in
set_option maxRecDepth 100000 in
theorem kfree_any {S : Nat → Prop} {w : World} {B Bt : Nat} {t : Tb Kp} (s i : Nat) (h : KvAt S w B Bt t) (hM : MaxIs w) (hMS : ¬ 0 = Bt) (hi : i < 18446744073709551616) :
    Calls Tryd.prog 18 #[.pointer (some ⟨B, 0, none⟩), .int .u64 (s : Int), .int .u64 (i : Int)] w fun e w' => ∃ A c, e = .returned (.slice A (heldBy t s).length c) ∧ SK kyC 1 w' A (heldBy t s).length (heldBy t s) ∧ (∀ b off, A = some ⟨b, off, none⟩ → w.heap.size ≤ b ∧ b < w'.heap.size) ∧ ∃ S', KvAt S' w' B Bt (kFree t s i) ∧ (∀ k, S' k → (S k ∨ w.heap.size ≤ k) ∧ k < w'.heap.size) ∧ (∀ b off, A = some ⟨b, off, none⟩ → ¬ S' b) ∧ But (· = Bt) w w' := by
  obtain ⟨P, hP⟩ : ∃ P, w.heap.size = P := ⟨_, rfl⟩
  obtain ⟨W1, hW1⟩ : ∃ W1, w.alloc (.cells #[.int .u64 (s : Int)] 23) = W1 := ⟨_, rfl⟩
  have hb1 : Below w.heap.size w W1 := by rw [← hW1]; exact below1 _ _ _
  have hs1 : W1.heap.size = P + 1 := by rw [← hW1, ← hP]; simp
  have kP : W1.heap[P]? = some (.cells #[.int .u64 (s : Int)] 23 (0, 0)) := by rw [← hW1, ← hP]; exact heap_alloc_new w _
  obtain ⟨S0, hS0⟩ : ∃ S0 : Nat → Prop, S0 = fun k => S k ∧ k < w.heap.size := ⟨_, rfl⟩
  have h0 : KvAt S0 w B Bt t := h.narrow fun k hk z => by rw [hS0]; exact ⟨z, hk⟩
  have h1 := h0.below hb1
  have HLs := Lib.hid (klist_any ⟨#[]⟩ h1 (by decide))
  rw [und_all] at HLs
  have HAt := Lib.hid h1
  have HS0 : Hid (∀ k, S0 k → S k ∧ k < P) := Lib.hid fun k hk => by rw [hS0] at hk; rw [← hP]; exact hk
  have HM := Lib.hid (hM.keep hb1)
  have HMS := Lib.hid hMS
  have HTm := Lib.hid h0.tmine.1
  have HTl : Hid (Bt < P) := Lib.hid (HS0.out Bt h0.tmine.1).2
  have HIx := Lib.hid hi
  have HOk := Lib.hid h.ok
  have HB1 := Lib.hid hb1
  have HW1 := Lib.hid hW1
  have HP := Lib.hid hP
  have HKp := Lib.hid kP
  have HS1 := Lib.hid hs1
  obtain ⟨L, hL⟩ : ∃ L, t.l.length = L := ⟨_, rfl⟩
  have hm : L ≤ 64 := by rw [← hL]; exact Nat.le_trans h.ok.ok.len h.ok.ok.most.2
  have HL := Lib.hid hL
  clear h hM hMS hi hP hW1 hb1 hs1 kP hS0 h0 h1 hL
  go_enter Tryd.func18, Tryd.ntmps18
  go_wp2_with fail
  rw [HW1.out, HP.out]
  clear HW1
  refine HLs.out.mono ?_
  rintro e W2 ⟨A, c, rfl, hsk, hlc, hcm, hAb, hb2⟩
  obtain ⟨g0, hg0⟩ : ∃ g0, W2.heap.size = g0 := ⟨_, rfl⟩
  have HG0 := Lib.hid hg0
  have hlt0 : W1.heap.size ≤ g0 := by rw [← hg0]; exact hb2.size
  have HSk := Lib.hid hsk
  have HAb := Lib.hid hAb
  have HB2 := Lib.hid hb2
  have HL0 := Lib.hid hlt0
  have HSt0 : Hid (FrSt S0 g0 W2 W2 B Bt ((heldL (t.l.take 0) s).foldl (unheld i) t) (.slice none 0 0) (heldL (t.l.take 0) s) S0) := Lib.hid
    ⟨(HAt.out.below hb2), fun j hj => ⟨by have h1 := (HS0.out j hj).2; have h2 := HS1.out; have h3 := hb2.size; omega, .inl hj⟩, But.refl _ _, HTm.out, rowK.nil _ _, fun j e => by cases e⟩
  rw [HL.out] at hlc
  rw [HL.out]
  clear hsk hAb hb2 hg0 hlt0 HLs HAt
  go_wp2_with fail
  go_loopw [8, 15] (fun vv iv wr => ∃ k S', k ≤ L ∧ iv = .int .i64 (k : Int) ∧ Hid (FrSt S0 g0 W2 wr B Bt ((heldL (t.l.take k) s).foldl (unheld i) t) vv (heldL (t.l.take k) s) S')) (fun _ iv _ => L - (intOf iv).toNat)
  case atStart => exact ⟨0, S0, Nat.zero_le _, rfl, HSt0⟩
  case round =>
    obtain ⟨k, S', hk, rfl, hst⟩ := hrel
    have hgs : g0 ≤ wr.heap.size := by have := hst.out.but.size; have := HG0.out; omega
    by_cases hlt : k < L
    · have hkl : k < t.l.length := by rw [HL.out]; exact hlt
      have hsk := HSk.out.but hst.out.but fun b off e _ z => by have h1 := HAb.out b off e; have h2 := HTl.out; have h3 := HS1.out; omega
      obtain ⟨b, off, rfl, hbl, hit⟩ := hsk.at_ hkl hkl
      have hstep := heldL_step hkl s
      have hfa := free_at HOk.out HIx.out s hkl
      have hyk : t.l[k].key.size ≤ maxLen := HOk.out.ok.key _ (List.getElem_mem hkl)
      obtain ⟨y, hy⟩ : ∃ y, t.l[k] = y := ⟨_, rfl⟩
      rw [hy] at hit hstep hfa hyk
      obtain ⟨T, hT⟩ : ∃ T, (heldL (t.l.take k) s).foldl (unheld i) t = T := ⟨_, rfl⟩
      have hT' : (heldL (t.l.take (k + 1)) s).foldl (unheld i) t = if (s != 0 && y.val.ses == s) = true then unheld i T y.key else T := by
        rw [hstep, List.foldl_append, hT]
        split <;> rfl
      rw [hT] at hst hfa
      have HFa := Lib.hid hfa
      have HStep := Lib.hid hstep
      have HT' := Lib.hid hT'
      have HYk := Lib.hid hyk
      obtain ⟨e0, e1, e2, e3, e4, e5⟩ := Kt.tr_cells hit
      obtain ⟨Y, hY⟩ : ∃ Y, wr.heap.size = Y := ⟨_, rfl⟩
      obtain ⟨W3, hW3⟩ : ∃ W3, wr.alloc (.cells #[.string y.key, .string y.val.v, .int .u64 (y.val.ses : Int), .int .u64 (y.val.lck : Int), .int .u64 (y.made : Int), .int .u64 (y.ix : Int)] TEn) = W3 := ⟨_, rfl⟩
      have hb3 : Below wr.heap.size wr W3 := by rw [← hW3]; exact below1 _ _ _
      have HKy : Hid (W3.heap[Y]? = some (.cells #[.string y.key, .string y.val.v, .int .u64 (y.val.ses : Int), .int .u64 (y.val.lck : Int), .int .u64 (y.made : Int), .int .u64 (y.ix : Int)] TEn (0, 0))) := Lib.hid (by rw [← hW3, ← hY]; exact heap_alloc_new wr _)
      have kp3 : W3.heap[P]? = some (.cells #[.int .u64 (s : Int)] 23 (0, 0)) := by
        have hp2 := (HB2.out.block P (block_lt HKp.out)).trans HKp.out
        exact (hb3.block P (by have := HS1.out; have := HL0.out; omega)).trans ((hst.out.but.block P (block_lt hp2) fun z => by have := HTl.out; omega).trans hp2)
      have HLv := Lib.hid (fun W (hw : Below W3.heap.size W3 W) => free1_any s ⟨#[]⟩ P y W ((hw.block P (block_lt kp3)).trans kp3))
      have HDo : Hid (∀ w', Below W3.heap.size W3 w' → Does w' (.func (.func 45) #[] #[.pointer (some ⟨P, 0, none⟩)]) y (enV { y with val := { y.val with ses := if y.val.ses == s then 0 else y.val.ses } })) := Lib.hid fun w' hw' =>
        Does.of (enters_of Tryd.func45 (by kernel_rfl) rfl) fun W hW => free1_any s ⟨#[]⟩ P y W ((hW.block P (block_lt ((hw'.block P (block_lt kp3)).trans kp3))).trans ((hw'.block P (block_lt kp3)).trans kp3))
      have HSt := Lib.hid (hst.out.below hb3)
      have HSub : Hid (∀ k, S' k → k < Y) := Lib.hid fun k z => hY ▸ (hst.out.sub k z).1
      have HSz : Hid (g0 ≤ W3.heap.size) := Lib.hid (Nat.le_trans hgs hb3.size)
      have HW3 := Lib.hid hW3
      have HY := Lib.hid hY
      obtain ⟨z, hz⟩ : ∃ z, (if y.val.ses == s then 0 else y.val.ses) = z := ⟨_, rfl⟩
      rw [hz] at HLv HDo
      have HZ := Lib.hid hz
      have HEqE : Hid (eqE ⟨y.key, { y.val with ses := z }, y.made, y.ix⟩ y = !(s != 0 && y.val.ses == s)) := Lib.hid (by
        rw [← hz, Bool.eq_iff_iff, eqE_iff, En.eq_iff]
        by_cases e : y.val.ses = s
        · subst e
          simp
          exact eq_comm
        · simp [e])
      obtain ⟨b0, hb0⟩ : ∃ b0, (s != 0 && y.val.ses == s) = b0 := ⟨_, rfl⟩
      rw [hb0] at HEqE HT' HStep
      have HEq : Hid (∀ w, (Op.equalIn 10000 TEn (.agg #[.string y.key, .string y.val.v, .int .u64 (z : Int), .int .u64 (y.val.lck : Int), .int .u64 (y.made : Int), .int .u64 (y.ix : Int)]) (.agg #[.string y.key, .string y.val.v, .int .u64 (y.val.ses : Int), .int .u64 (y.val.lck : Int), .int .u64 (y.made : Int), .int .u64 (y.ix : Int)])).run Tryd.prog w = .ok (!b0) w) := Lib.hid fun w => by
        have := en_eq ⟨y.key, { y.val with ses := z }, y.made, y.ix⟩ y w
        rw [HEqE.out] at this
        exact this
      have HB0 := Lib.hid hb0
      unfold enV Kt.trV at HLv
      clear hst hsk hit hy hstep hfa hyk hT hT' hb3 kp3 hW3 hY hz hb0 HEqE
      go_wp2_with fail
      rw [HW3.out, HY.out]
      clear HW3 e0 e1 e2 e3 e4 e5
      have hre : ∀ w : World, (But (fun _ => False)) w w := (fun w => But.refl _ w)
      have hrd : ∀ (f : Nat → Bool) w i, i ≠ 2 → (fun (_ : Nat → Bool) (w : World) => Below W3.heap.size W3 w) f w → (fun (_ : Nat → Bool) (w : World) => Below W3.heap.size W3 w) (Go.Rel.upd f i) w := (fun _ _ _ _ h => h)
      refine Go.Rel.wp_tab (by kernel_rfl) (by kernel_rfl) (fun (_ : Nat → Bool) (w : World) => Below W3.heap.size W3 w) (But (fun _ => False)) hre ((fun _ _ _ h k => h.trans k)) ((But.refl _ _).drew) ⟨rfl, rfl, rfl, Nat.le_refl _, fun _ _ => rfl⟩ (freeL P Y y z b0) (fun _ _ _ => True) (fun i => ([] : List Nat).contains i) (fun i => ([1, 2, 3, 4] : List Nat).contains i) (by kernel_rfl) (fun _ _ _ _ h _ => h) 2 rfl hrd ?_ (Go.Rel.AllOf.get ?_) ?_
      · repeat (refine .cons (by first | exact Go.Rel.pure_sp rfl | exact Go.Rel.pure_yes (by kernel_rfl) (fun _ => by kernel_rfl) | exact Go.Rel.pure_no (by kernel_rfl) rfl) ?_)
        exact .nil
      · refine ⟨?_, ?_, ?_, ?_, trivial⟩
        · exact SpecOk.ld hrd hre (q := .pointer (some ⟨Y, 0, none⟩)) (h := fun _ w' hI _ _ _ _ => by obtain ⟨y0, y1, y2, y3, y4, y5⟩ := Kt.blk ((hI.block Y (block_lt HKy.out)).trans HKy.out); go_simp; rfl)
        · refine SpecOk.gen (fun e => [(19, .func (.func 45) #[] #[.pointer (some ⟨P, 0, none⟩)]), (20, .agg #[.string y.key, .string y.val.v, .int .u64 (y.val.ses : Int), .int .u64 (y.val.lck : Int), .int .u64 (y.made : Int), .int .u64 (y.ix : Int)])]) rfl rfl (fun _ => by kernel_rfl) fun f w' e hI hf hdesc hanc hle hX K hK => ?_
          go_simp
          refine (HLv.out w' hI).mono ?_
          rintro e2 w2 ⟨rfl, hb2⟩
          exact hK _ _ (But.of_below hb2) (hI.trans (hb2.mono hI.size)) rfl
        · exact SpecOk.ld hrd hre (q := .pointer (some ⟨Y, 0, none⟩)) (h := fun _ w' hI _ _ _ _ => by obtain ⟨y0, y1, y2, y3, y4, y5⟩ := Kt.blk ((hI.block Y (block_lt HKy.out)).trans HKy.out); go_simp; rfl)
        · refine SpecOk.gen (fun e => [(21, .agg #[.string y.key, .string y.val.v, .int .u64 (z : Int), .int .u64 (y.val.lck : Int), .int .u64 (y.made : Int), .int .u64 (y.ix : Int)]), (22, .agg #[.string y.key, .string y.val.v, .int .u64 (y.val.ses : Int), .int .u64 (y.val.lck : Int), .int .u64 (y.made : Int), .int .u64 (y.ix : Int)])]) rfl rfl (fun _ => by kernel_rfl) fun f w' e hI hf hdesc hanc hle hX K hK => ?_
          have ue := HEq.out
          have ug := en_guard
          go_simp
          exact hK _ _ (hre _) (hrd f w' 4 (by decide) hI) rfl
      · intro f w4 e hall hJ hle hv
        have HB4 := Lib.hid hJ
        have v4 := hv 4 rfl
        simp only [Go.Rel.finL, List.setIfInBounds_toArray, List.set_cons_succ, List.set_cons_zero]
        rw [show e 4 = .bool b0 from v4]
        clear hv hall hle hJ v4
        cases b0 with
        | false =>
          have HR := Lib.hid (HSt.out.below HB4.out)
          rw [if_neg Bool.false_ne_true] at HT'
          rw [if_neg Bool.false_ne_true, List.append_nil] at HStep
          rw [← HStep.out] at HR
          have HR2 : Hid (FrSt S0 g0 W2 w4 B Bt ((heldL (t.l.take (k + 1)) s).foldl (unheld i) t) u8 (heldL (t.l.take (k + 1)) s) S') := Lib.hid (by rw [HT'.out]; exact HR.out)
          clear HR
          go_wp2
          go_roundw
          case rel => exact ⟨k + 1, S', by omega, by go_num, HR2⟩
          case measure => simp [intOf]; omega
        | true =>
          rw [if_pos rfl] at HT' HStep
          have hzy : z = 0 := by
            have h1 := HB0.out
            have h2 := HZ.out
            rw [Bool.and_eq_true] at h1
            rw [← h2, if_pos h1.2]
          have HSt4 := Lib.hid (HSt.out.below HB4.out)
          have hen : entO T y.key = y := by unfold entO; rw [HFa.out.2]; rfl
          have hmu := mod_unheld HFa.out.1 HIx.out HFa.out.2
          have hun := (unheld_one HFa.out.1 HIx.out (k := y.key) (by unfold isO; rw [HFa.out.2]; rfl)).1
          have HM4 : Hid (MaxIs w4) := Lib.hid ((HM.out.keep HB2.out).but HSt4.out.but HMS.out)
          have HMod := Lib.hid (modify_any (w := w4) y.key i [] none 0 (.func (.func 45) #[] #[.pointer (some ⟨P, 0, none⟩)]) ⟨y.key, { y.val with ses := 0 }, y.made, y.ix⟩ (some { y.val with ses := 0 }) HSt4.out.kv HM4.out HIx.out HYk.out SK.zero (fun _ => rfl) (fun _ => rfl) (by simp) (by intro c hc; cases hc)
            (by rw [hen]; have := HDo.out w4 HB4.out; rw [hzy] at this; exact this) ⟨rfl, rfl⟩ (by
              show KvOk (modK T y.key i [] (some { y.val with ses := 0 })).2
              rw [hmu]; exact hun))
          rw [show saidOf [] (entO T y.key) = [] from rfl, hmu] at HMod
          have HMod2 : Hid (Calls Tryd.prog 33 #[.pointer (some ⟨B, 0, none⟩), .string y.key, .int .u64 (i : Int), .agg #[.slice none 0 0, .func (.func 45) #[] #[.pointer (some ⟨P, 0, none⟩)]]] w4 fun e w' => e = .returned (.int .i64 0) ∧ KvAt (fun k => S' k ∨ w4.heap.size ≤ k) w' B Bt (unheld i T y.key) ∧ But (· = Bt) w4 w') := HMod
          have ky4 := (HB4.out.block Y (block_lt HKy.out)).trans HKy.out
          obtain ⟨d0, d1, d2, d3, d4, d5⟩ := Kt.blk ky4
          have HYl := Lib.hid ky4
          have hyl := block_lt ky4
          have HS'y : Hid (¬ Y = Bt) := Lib.hid fun z => by have := HSub.out Bt HSt.out.kv.tmine.1; omega
          clear hmu hun hen HMod HDo HLv HEq ky4 hzy
          go_wp2_with fail
          refine HMod2.out.mono ?_
          rintro e' w5 ⟨rfl, hk5, hb5⟩
          have HK5 := Lib.hid hk5
          have HB5 := Lib.hid hb5
          obtain ⟨d0', d1', d2', d3', d4', d5'⟩ := Kt.blk ((hb5.block Y hyl HS'y.out).trans HYl.out)
          clear hk5 hb5 HMod2 d0 d1 d2 d3 d4 d5
          have hle : (heldL (t.l.take k) s).length ≤ 1000 := by
            have := heldL_length (t.l.take k) s
            rw [List.length_take] at this
            omega
          have hown4 := HSt4.out.row
          have hrow5 : kyRow w5 g0 u8 (heldL (t.l.take k) s) := hown4.but HB5.out fun j e z => HSt4.out.sep j e (by rw [show j = Bt from z]; exact HSt4.out.kv.tmine.1)
          have HRow5 := Lib.hid hrow5
          have HS5 : Hid (g0 ≤ w5.heap.size) := Lib.hid (by have := HSz.out; have := HB4.out.size; have := HB5.out.size; omega)
          clear hown4 hrow5
          go_wp2_with (at_builtin; refine wpList_append_ky rfl (.tmp 31) (.tmp 34) rfl g0 _ _ rfl ?qa w5.heap.size y.key rfl ?qb hle ?qc ?_)
          case qa => exact HRow5.out.below (below1 _ _ _)
          case qb => exact ItAt.of_new (enc := kyC) y.key _ rfl _
          case qc => have := HS5.out; simp; omega
          refine Lib.hid ?_
          intro v' w6 hown hgr hwh
          have hfr := HSt4.out.more HG0.out HB5.out HK5.out hgr hown hwh
          rw [← HStep.out, ← HT'.out] at hfr
          have HFr := Lib.hid hfr
          clear hfr hown hgr hwh
          go_wp2
          go_roundw
          case rel => exact ⟨k + 1, _, by omega, by go_num, HFr⟩
          case measure => simp [intOf]; omega
    · have hke : t.l.take k = t.l := List.take_of_length_le (by rw [HL.out]; omega)
      rw [hke, ← heldBy_eq] at hst
      obtain ⟨A2, c2, rfl, hSK, hnc, hmc, hge⟩ := SK.of_row kyC_len hst.out.row
      have HX := Lib.hid (And.intro hSK hge)
      clear hke hSK hnc hmc hge
      go_wp2
      go_ret
      have h1 := HL0.out
      have h2 := HS1.out
      have h3 := HB2.out.size
      refine ⟨A2, c2, rfl, HX.out.1, fun b off e => ⟨by have := HX.out.2 b off e; have := HP.out; omega, (hst.out.row.from b (by rw [e]; rfl)).2⟩, S', hst.out.kv, fun k z => ⟨?_, (hst.out.sub k z).1⟩, fun b off e => hst.out.sep b (by rw [e]; rfl), ?_⟩
      · rcases (hst.out.sub k z).2 with z | z
        · exact .inl (HS0.out k z).1
        · exact .inr (by have := HP.out; omega)
      · exact (But.of_below (HB1.out.trans (HB2.out.mono HB1.out.size))).trans hst.out.but
end Go.Proofs.YtohnkagabpefdaaDoor
