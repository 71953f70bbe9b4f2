/-
  Check, walked (layer 19).
-/
import Derived.Test.YtilkbfmaofmjoaaGreatDoorZj42
import Derived.Test.YtilkbfmaofmjoaaGreatDoorZj43
namespace Go.Proofs.YtilkbfmaofmjoaaGreatDoor
open Go.RowKit Go.Rel
set_option linter.unusedSimpArgs false
set_option linter.unusedVariables false

theorem noT_list : noT.toList = [] := by rw [Lib.toList_data]
theorem put_cA {T : Tb CkW} {k : ByteArray} {v : CkW} {i : Nat} : cA (T.putT k v i) = (cA T).putT k v.a i := (Tb.putT_map _ T k v i).symm
theorem has_map {α β : Type} (f : α → β) (T : Tb α) (k : ByteArray) : (getR (T.map f).l k).isSome = (getR T.l k).isSome := by
  show (getR (T.l.map (rwMap f)) k).isSome = _
  rw [getR_map, Option.isSome_map]
theorem chk_bad {d : Ro} {x : CkA} {i e : Nat} (h : d.wrongC x = e) (he : e ≠ 0) : d.check x i = (e, d) := by
  unfold Ro.check
  rw [h, if_pos he]
structure CkIn (x : Rw CkA) : Prop where
  node : -9223372036854775808 ≤ x.val.node ∧ x.val.node ≤ 9223372036854775807
  status : -9223372036854775808 ≤ x.val.status ∧ x.val.status ≤ 9223372036854775807
  id : x.val.id.size ≤ maxLen
  svc : x.val.svc.size ≤ maxLen
  note : x.val.note.size ≤ maxLen
theorem right_sz {s : ByteArray} (h : rightB s.data.toList = true) : s.size ≤ 140737488355328 := by
  have := (right_len h).2
  rw [data_len] at this
  omega
def rckNE (B : Nat) (B1 : Nat) (B2 : Nat) (X : Nat) (x : Rw CkA) (k0 : ByteArray) : Nat → Value
  | 0 | 1 | 2 => .pointer (some ⟨B, 0, none⟩)
  | 3 => .pointer (some ⟨B1, 0, none⟩)
  | 4 => .func (.func 52) #[.int .i64 x.val.node] #[]
  | 5 => .string k0
  | 6 => .bool false
  | 7 | 8 | 24 | 25 => .bool true
  | _ => undef
def rckME (B : Nat) (B1 : Nat) (B2 : Nat) (X : Nat) (x : Rw CkA) (k0 : ByteArray) : Nat → Value
  | 0 | 1 | 2 => .pointer (some ⟨B, 0, none⟩)
  | 3 => .pointer (some ⟨B1, 0, none⟩)
  | 4 => .func (.func 52) #[.int .i64 x.val.node] #[]
  | 5 => .string k0
  | 6 => .bool true
  | 7 | 8 | 11 | 12 | 23 | 24 | 25 => .bool false
  | 9 => .pointer (some ⟨X, 2, none⟩)
  | 10 => .string x.val.svc
  | _ => undef
def rckSE (B : Nat) (B1 : Nat) (B2 : Nat) (X : Nat) (x : Rw CkA) (k0 : ByteArray) (k1 : ByteArray) (b : Bool) : Nat → Value
  | 0 | 1 | 2 | 13 | 14 => .pointer (some ⟨B, 0, none⟩)
  | 3 => .pointer (some ⟨B1, 0, none⟩)
  | 4 | 17 => .func (.func 52) #[.int .i64 x.val.node] #[]
  | 5 => .string k0
  | 6 | 11 | 12 => .bool true
  | 7 | 8 => .bool false
  | 9 | 18 => .pointer (some ⟨X, 2, none⟩)
  | 10 | 19 => .string x.val.svc
  | 15 => .pointer (some ⟨B, 1, none⟩)
  | 16 => .pointer (some ⟨B2, 0, none⟩)
  | 20 => .string k1
  | 21 => .bool b
  | 22 | 23 | 24 | 25 => .bool (!b)
  | _ => undef
def rclE (B : Nat) (B3 : Nat) (X : Nat) (x : Rw CkA) (i : Nat) (k : ByteArray) (er : Nat) : Nat → Value
  | 0 | 1 => .pointer (some ⟨B, 0, none⟩)
  | 2 => .pointer (some ⟨B, 2, none⟩)
  | 3 => .pointer (some ⟨B3, 0, none⟩)
  | 4 => .agg #[.func (.func 96) #[] #[], .func (.func 97) #[] #[]]
  | 5 => .func (.func 97) #[] #[]
  | 6 => .agg #[.int .i64 x.val.node, .string x.val.id, .string x.val.svc, .string x.val.note, .int .i64 x.val.status, .int .u64 (x.made : Int), .int .u64 (x.ix : Int)]
  | 7 => .agg #[.string k, .int .i64 x.val.node, .string x.val.id, .string x.val.svc, .string x.val.note, .int .i64 x.val.status, .int .u64 (x.made : Int), .int .u64 (x.ix : Int), .int .u64 (x.made : Int), .int .u64 (x.ix : Int)]
  | 8 => .int .u64 (i : Int)
  | 9 | 10 => .int .i64 (er : Int)
  | _ => undef
set_option maxHeartbeats 8000000 in
set_option maxRecDepth 100000 in
theorem rcheck_any {S : Nat → Prop} {w : World} {B B1 B2 B3 m : Nat} {d : Ro} (x : Rw CkA) (i : Nat) (h : RoAt S w B B1 B2 B3 m d) (hx : CkIn x) (hi : i < 18446744073709551616) : Calls Tryz.prog 20 #[.pointer (some ⟨B, 0, none⟩), ckV x, .int .u64 (i : Int)] w fun e w' => e = .returned (.int .i64 ((d.check x.val i).1 : Int)) ∧ RoAt (fun k => S k ∨ w.heap.size ≤ k) w' B B1 B2 B3 m (d.check x.val i).2 ∧ But (Ch3 B1 B2 B3) w w' := by
  have HAt := Lib.hid h
  obtain ⟨hok, T1, T2, T3, h, e1, e2, e3⟩ := h
  obtain ⟨X, hX⟩ : ∃ X, w.heap.size = X := ⟨_, rfl⟩
  have b0 := below1 w #[.int .i64 x.val.node, .string x.val.id, .string x.val.svc, .string x.val.note, .int .i64 x.val.status, .int .u64 (x.made : Int), .int .u64 (x.ix : Int)] TCk
  have k0 := heap_alloc_new w (.cells #[.int .i64 x.val.node, .string x.val.id, .string x.val.svc, .string x.val.note, .int .i64 x.val.status, .int .u64 (x.made : Int), .int .u64 (x.ix : Int)] TCk)
  obtain ⟨w1, hw1⟩ : ∃ w1, w.alloc (.cells #[.int .i64 x.val.node, .string x.val.id, .string x.val.svc, .string x.val.note, .int .i64 x.val.status, .int .u64 (x.made : Int), .int .u64 (x.ix : Int)] TCk) = w1 := ⟨_, rfl⟩
  rw [hw1] at b0 k0
  rw [hX] at k0
  have HX0 := Lib.hid hX
  have HW1 := Lib.hid hw1
  have HB1 := Lib.hid b0
  have HIs := Lib.hid (h.below b0)
  have HMd := Lib.hid (made_is (h.below b0).ptr)
  have HKx0 := Lib.hid k0
  have HE := Lib.hid (And.intro e1 (And.intro e2 e3))
  have HOk := Lib.hid hok
  have HI := Lib.hid hi
  have HIn := Lib.hid hx
  have HRt := Lib.hid (fun W => right_is x.val.node W hx.node)
  have HNm := Lib.hid (fun W => right_any x.val.id W hx.id)
  have HNs := Lib.hid (fun W => right_any x.val.svc W hx.svc)
  have HSh := Lib.hid (fun W => short_is x.val.note W hx.note)
  have hs1 := hx.status
  unfold ckV
  clear h e1 e2 e3 hok hi hX hw1 b0 k0 hx
  cases hb : nodeB x.val.node with
  | false =>
    have hd : d.check x.val i = (2, d) := chk_bad (by
      unfold Ro.wrongC
      rw [if_pos (.inl hb)]) (by decide)
    rw [hd]
    clear hd
    rw [hb] at HRt
    clear hb
    go_enter Tryz.func20, Tryz.ntmps20
    go_wp2_with fail
    rw [HW1.out, HX0.out]
    refine HMd.out.mono ?_
    rintro e W0 ⟨rfl, hb⟩
    have HB := Lib.hid hb
    have hkx := (hb.block X (block_lt HKx0.out)).trans HKx0.out
    have dx := ck_blk hkx
    have lx := block_lt hkx
    clear hb
    go_wp2_with fail
    refine (HRt.out _).mono ?_
    rintro e w2 ⟨rfl, rfl⟩
    go_wp2
    go_ret
    exact ⟨rfl, HAt.out.wide (HB1.out.trans (HB.out.mono HB1.out.size)), But.of_below (HB1.out.trans (HB.out.mono HB1.out.size))⟩
  | true =>
    rw [hb] at HRt
    by_cases hs2 : x.val.status < 0
    · have hw := hs2
      have hd : d.check x.val i = (2, d) := chk_bad (by
        unfold Ro.wrongC
        rw [if_pos (.inr (.inl hs2))]) (by decide)
      rw [hd]
      clear hd
      clear hb hw
      go_enter Tryz.func20, Tryz.ntmps20
      go_wp2_with fail
      rw [HW1.out, HX0.out]
      refine HMd.out.mono ?_
      rintro e W0 ⟨rfl, hb⟩
      have HB := Lib.hid hb
      have hkx := (hb.block X (block_lt HKx0.out)).trans HKx0.out
      have dx := ck_blk hkx
      have lx := block_lt hkx
      clear hb
      go_wp2_with fail
      refine (HRt.out _).mono ?_
      rintro e w2 ⟨rfl, rfl⟩
      go_wp2
      go_ret
      exact ⟨rfl, HAt.out.wide (HB1.out.trans (HB.out.mono HB1.out.size)), But.of_below (HB1.out.trans (HB.out.mono HB1.out.size))⟩
    · by_cases hs3 : 3 < x.val.status
      · have hw := hs3
        have hd : d.check x.val i = (2, d) := chk_bad (by
          unfold Ro.wrongC
          rw [if_pos (.inr (.inr hs3))]) (by decide)
        rw [hd]
        clear hd
        clear hb hw
        go_enter Tryz.func20, Tryz.ntmps20
        go_wp2_with fail
        rw [HW1.out, HX0.out]
        refine HMd.out.mono ?_
        rintro e W0 ⟨rfl, hb⟩
        have HB := Lib.hid hb
        have hkx := (hb.block X (block_lt HKx0.out)).trans HKx0.out
        have dx := ck_blk hkx
        have lx := block_lt hkx
        clear hb
        go_wp2_with fail
        refine (HRt.out _).mono ?_
        rintro e w2 ⟨rfl, rfl⟩
        go_wp2
        go_ret
        exact ⟨rfl, HAt.out.wide (HB1.out.trans (HB.out.mono HB1.out.size)), But.of_below (HB1.out.trans (HB.out.mono HB1.out.size))⟩
      · have ds2 : decide (x.val.status < 0) = false := decide_eq_false hs2
        have ds3 : decide (3 < x.val.status) = false := decide_eq_false hs3
        have h1 : ¬ (nodeB x.val.node = false ∨ x.val.status < 0 ∨ 3 < x.val.status) := by rw [hb]; simp; omega
        cases hid : rightB x.val.id.data.toList with
        | false =>
          have hd : d.check x.val i = (10, d) := chk_bad (by
            unfold Ro.wrongC
            rw [if_neg h1, if_pos (.inl hid)]) (by decide)
          rw [hd]
          clear hd
          rw [hid] at HNm
          clear hb h1 hid
          go_enter Tryz.func20, Tryz.ntmps20
          go_wp2_with fail
          rw [HW1.out, HX0.out]
          refine HMd.out.mono ?_
          rintro e W0 ⟨rfl, hb⟩
          have HB := Lib.hid hb
          have hkx := (hb.block X (block_lt HKx0.out)).trans HKx0.out
          have dx := ck_blk hkx
          have lx := block_lt hkx
          clear hb
          go_wp2_with fail
          refine (HRt.out _).mono ?_
          rintro e w2 ⟨rfl, rfl⟩
          go_wp2_with fail
          refine (HNm.out _).mono ?_
          rintro e w2 ⟨rfl, rfl⟩
          go_wp2
          go_ret
          exact ⟨rfl, HAt.out.wide (HB1.out.trans (HB.out.mono HB1.out.size)), But.of_below (HB1.out.trans (HB.out.mono HB1.out.size))⟩
        | true =>
          have hidl := right_sz hid
          rw [hid] at HNm
          cases hq : (x.val.svc.toList == noT.toList) with
          | true =>
            have hse : x.val.svc = noT := text_same.1 hq
            have hqe : x.val.svc.toList = [] := by rw [hse]; exact noT_list
            have h2 : ¬ (rightB x.val.id.data.toList = false ∨ (x.val.svc ≠ noT ∧ rightB x.val.svc.data.toList = false)) := by rw [hid]; simp [hse]
            by_cases hl : x.val.note.size ≤ 32
            case neg =>
              have hd : d.check x.val i = (3, d) := chk_bad (by
                unfold Ro.wrongC
                rw [if_neg h1, if_neg h2, if_pos (by omega)]) (by decide)
              rw [hd]
              clear hd
              rw [decide_eq_false hl] at HSh
              clear hb h1 h2 hid hl hse
              go_enter Tryz.func20, Tryz.ntmps20
              go_wp2_with fail
              rw [HW1.out, HX0.out]
              refine HMd.out.mono ?_
              rintro e W0 ⟨rfl, hb⟩
              have HB := Lib.hid hb
              have hkx := (hb.block X (block_lt HKx0.out)).trans HKx0.out
              have dx := ck_blk hkx
              have lx := block_lt hkx
              clear hb
              go_wp2_with fail
              refine (HRt.out _).mono ?_
              rintro e w2 ⟨rfl, rfl⟩
              go_wp2_with fail
              refine (HNm.out _).mono ?_
              rintro e w2 ⟨rfl, rfl⟩
              go_wp2_with fail
              refine (HSh.out _).mono ?_
              rintro e w2 ⟨rfl, rfl⟩
              go_wp2
              go_ret
              exact ⟨rfl, HAt.out.wide (HB1.out.trans (HB.out.mono HB1.out.size)), But.of_below (HB1.out.trans (HB.out.mono HB1.out.size))⟩
            case pos =>
              rw [decide_eq_true hl] at HSh
              have h3 : ¬ 32 < x.val.note.size := by omega
              obtain ⟨k0, hk0⟩ : ∃ k0, keyO x.val.node noT = k0 := ⟨_, rfl⟩
              have HSv : Hid (x.val.svc.toList = []) := Lib.hid hqe
              cases hth : d.there x.val.node with
              | false =>
                have hd : d.check x.val i = (4, d) := chk_bad (by
                  unfold Ro.wrongC
                  rw [if_neg h1, if_neg h2, if_neg h3, if_pos (.inl hth)]) (by decide)
                rw [hd]
                clear hd
                have HTh : Hid ((getR T1.l k0).isSome = false) := Lib.hid (by rw [← has_map (fun v : NdW => v.a) T1]; show (getR (nA T1).l k0).isSome = _; rw [HE.out.1, ← hk0]; exact hth)
                have HHk0 := Lib.hid hk0
                clear hb h1 h2 h3 hid hl hse hth hk0
                go_enter Tryz.func20, Tryz.ntmps20
                go_wp2_with fail
                rw [HW1.out, HX0.out]
                refine HMd.out.mono ?_
                rintro e W0 ⟨rfl, hb⟩
                have HB := Lib.hid hb
                have hkx := (hb.block X (block_lt HKx0.out)).trans HKx0.out
                have dx := ck_blk hkx
                have lx := block_lt hkx
                clear hb
                go_wp2_with fail
                refine (HRt.out _).mono ?_
                rintro e w2 ⟨rfl, rfl⟩
                go_wp2_with fail
                refine (HNm.out _).mono ?_
                rintro e w2 ⟨rfl, rfl⟩
                go_wp2_with fail
                refine (HSh.out _).mono ?_
                rintro e w2 ⟨rfl, rfl⟩
                have hA := HIs.out.below HB.out
                have HA := Lib.hid hA
                have HKb := Lib.hid hA.ptr
                have HLb := Lib.hid hA.lt
                have HKx := Lib.hid hkx
                have HLx := Lib.hid lx
                have HK0 := Lib.hid (fun W (hW : Below W0.heap.size W0 W) => (by
                  have := rkey_any x.val.node noT W HIn.out.node (by decide) (hA.pw.below hW)
                  rw [HHk0.out] at this
                  exact this : Calls Tryz.prog 52 #[.int .i64 x.val.node, .string noT] W fun e w' => e = .returned (.string k0) ∧ Below W.heap.size W w'))
                have HH0 := Lib.hid (fun W (hW : Below W0.heap.size W0 W) => (by
                  have := hasNode_any k0 (hA.t1.below hW)
                  rw [HTh.out] at this
                  exact this : Calls Tryz.prog 59 #[.pointer (some ⟨B1, 0, none⟩), .string k0] W fun e w' => e = .returned (.bool false) ∧ Below W.heap.size W w'))
                clear hA hkx dx lx HMd HRt HNm HNs HSh HIs
                go_wp2_with fail
                have hre : ∀ w : World, ((fun a b : World => Below a.heap.size a b)) w w := (fun w => Below.refl _ w)
                have hrd : ∀ (f : Nat → Bool) w i, i ≠ 5 → (fun (_ : Nat → Bool) (w : World) => Below W0.heap.size W0 w) f w → (fun (_ : Nat → Bool) (w : World) => Below W0.heap.size W0 w) (Go.Rel.upd f i) w := (fun _ _ _ _ h => h)
                refine Go.Rel.wp_tab (by kernel_rfl) (by kernel_rfl) (fun (_ : Nat → Bool) (w : World) => Below W0.heap.size W0 w) ((fun a b : World => Below a.heap.size a b)) hre ((fun _ _ _ h k => h.trans (k.mono h.size))) ((⟨rfl, rfl, rfl, Nat.le_refl _, fun _ _ => rfl⟩)) ⟨rfl, rfl, rfl, Nat.le_refl _, fun _ _ => rfl⟩ (rckNE B B1 B2 X x k0) (fun _ _ _ => True) (fun i => ([] : List Nat).contains i) (fun i => ([3, 5, 6] : List Nat).contains i) (by kernel_rfl) (fun _ _ _ _ h _ => h) 5 rfl hrd ?_ (Go.Rel.AllOf.get ?_) ?_
                · iterate 3 refine .cons (Go.Rel.pure_yes (by kernel_rfl) (fun _ => by kernel_rfl)) ?_
                  iterate 1 refine .cons (Go.Rel.pure_sp rfl) ?_
                  iterate 1 refine .cons (Go.Rel.pure_yes (by kernel_rfl) (fun _ => by kernel_rfl)) ?_
                  iterate 2 refine .cons (Go.Rel.pure_sp rfl) ?_
                  iterate 2 refine .cons (Go.Rel.pure_yes (by kernel_rfl) (fun _ => by kernel_rfl)) ?_
                  iterate 15 refine .cons (Go.Rel.pure_no (by kernel_rfl) rfl) ?_
                  iterate 2 refine .cons (Go.Rel.pure_yes (by kernel_rfl) (fun _ => by kernel_rfl)) ?_
                  exact .nil
                · refine ⟨?_, ?_, ?_, trivial⟩
                  · exact SpecOk.ld hrd hre (q := .pointer (some ⟨B, 0, none⟩)) (h := fun _ w' hI _ _ _ _ => by have cb := ro_ptrs ((hI.block B HLb.out).trans HKb.out); go_simp; rfl)
                  · refine SpecOk.gen (fun e => [(56, .func (.func 52) #[.int .i64 x.val.node] #[])]) rfl rfl (fun _ => by kernel_rfl) fun f w' e hI hf hdesc hanc hle hX K hK => ?_
                    go_simp
                    refine (HK0.out w' hI).mono ?_
                    rintro e w2 ⟨rfl, hb9⟩
                    exact hK _ _ hb9 (hI.trans (hb9.mono hI.size)) rfl
                  · refine SpecOk.call 59 #[.pointer (some ⟨B1, 0, none⟩), .string k0] rfl (by kernel_rfl) (fun _ => by kernel_rfl) fun _ w' hI _ _ _ _ => ?_
                    refine (HH0.out w' hI).mono ?_
                    rintro e w2 ⟨rfl, hb9⟩
                    exact ⟨_, rfl, hb9, (hI.trans (hb9.mono hI.size)), rfl⟩
                · intro f W2 e hall hJ hle hv
                  have v9 := hv 25 rfl
                  simp only [Go.Rel.finL, List.setIfInBounds_toArray, List.set_cons_succ, List.set_cons_zero]
                  rw [show e 25 = .bool true from v9]
                  have HJ : Hid (Below w.heap.size w W2) := Lib.hid (HB1.out.trans ((HB.out.trans (hJ.mono HB.out.size)).mono HB1.out.size))
                  have HJ0 := Lib.hid hJ
                  clear hv hall hle hJ v9
                  go_wp2
                  go_ret
                  exact ⟨rfl, HAt.out.wide HJ.out, But.of_below HJ.out⟩
              | true =>
                have h4 : ¬ (d.there x.val.node = false ∨ (x.val.svc ≠ noT ∧ d.has x.val.node x.val.svc = false)) := by rw [hth]; simp [hse]
                have HTh : Hid ((getR T1.l k0).isSome = true) := Lib.hid (by rw [← has_map (fun v : NdW => v.a) T1]; show (getR (nA T1).l k0).isSome = _; rw [HE.out.1, ← hk0]; exact hth)
                have HHk0 := Lib.hid hk0
                have HIl := Lib.hid hidl
                have hw : d.wrongC x.val = 0 := by
                  unfold Ro.wrongC
                  rw [if_neg h1, if_neg h2, if_neg h3, if_neg h4]
                have hok1 := wrongC_ok.1 hw
                obtain ⟨k, hk⟩ : ∃ k, keyO x.val.node x.val.id = k := ⟨_, rfl⟩
                have hks : k.size ≤ maxLen := by rw [← hk]; exact hok1.1.key
                obtain ⟨er, her⟩ : ∃ er, layE T3 k = er := ⟨_, rfl⟩
                obtain ⟨T3', hT3⟩ : ∃ T3', T3.putT k ⟨x.val, x.made, x.ix⟩ i = T3' := ⟨_, rfl⟩
                have hd : d.check x.val i = (er, { d with c := cA T3' }) := by
                  unfold Ro.check CkA.key
                  rw [hw, if_neg (by simp), ← HE.out.2.2, hk, layE_map, her, ← hT3, put_cA]
                have hok2 := HOk.out.check (x := x.val) HI.out
                rw [hd] at hok2 ⊢
                have HOk2 := Lib.hid hok2
                have HKs := Lib.hid hks
                have HHk := Lib.hid hk
                have HEr := Lib.hid her
                have HT3 := Lib.hid hT3
                clear hw hok1 hk hks her hT3 hd hok2
                clear hb h1 h2 h3 h4 hid hl hse hth hk0 hidl
                go_enter Tryz.func20, Tryz.ntmps20
                go_wp2_with fail
                rw [HW1.out, HX0.out]
                refine HMd.out.mono ?_
                rintro e W0 ⟨rfl, hb⟩
                have HB := Lib.hid hb
                have hkx := (hb.block X (block_lt HKx0.out)).trans HKx0.out
                have dx := ck_blk hkx
                have lx := block_lt hkx
                clear hb
                go_wp2_with fail
                refine (HRt.out _).mono ?_
                rintro e w2 ⟨rfl, rfl⟩
                go_wp2_with fail
                refine (HNm.out _).mono ?_
                rintro e w2 ⟨rfl, rfl⟩
                go_wp2_with fail
                refine (HSh.out _).mono ?_
                rintro e w2 ⟨rfl, rfl⟩
                have hA := HIs.out.below HB.out
                have HA := Lib.hid hA
                have HKb := Lib.hid hA.ptr
                have HLb := Lib.hid hA.lt
                have HKx := Lib.hid hkx
                have HLx := Lib.hid lx
                have HK0 := Lib.hid (fun W (hW : Below W0.heap.size W0 W) => (by
                  have := rkey_any x.val.node noT W HIn.out.node (by decide) (hA.pw.below hW)
                  rw [HHk0.out] at this
                  exact this : Calls Tryz.prog 52 #[.int .i64 x.val.node, .string noT] W fun e w' => e = .returned (.string k0) ∧ Below W.heap.size W w'))
                have HH0 := Lib.hid (fun W (hW : Below W0.heap.size W0 W) => (by
                  have := hasNode_any k0 (hA.t1.below hW)
                  rw [HTh.out] at this
                  exact this : Calls Tryz.prog 59 #[.pointer (some ⟨B1, 0, none⟩), .string k0] W fun e w' => e = .returned (.bool true) ∧ Below W.heap.size W w'))
                clear hA hkx dx lx HMd HRt HNm HNs HSh HIs
                go_wp2_with fail
                have hre : ∀ w : World, ((fun a b : World => Below a.heap.size a b)) w w := (fun w => Below.refl _ w)
                have hrd : ∀ (f : Nat → Bool) w i, i ≠ 5 → (fun (_ : Nat → Bool) (w : World) => Below W0.heap.size W0 w) f w → (fun (_ : Nat → Bool) (w : World) => Below W0.heap.size W0 w) (Go.Rel.upd f i) w := (fun _ _ _ _ h => h)
                refine Go.Rel.wp_tab (by kernel_rfl) (by kernel_rfl) (fun (_ : Nat → Bool) (w : World) => Below W0.heap.size W0 w) ((fun a b : World => Below a.heap.size a b)) hre ((fun _ _ _ h k => h.trans (k.mono h.size))) ((⟨rfl, rfl, rfl, Nat.le_refl _, fun _ _ => rfl⟩)) ⟨rfl, rfl, rfl, Nat.le_refl _, fun _ _ => rfl⟩ (rckME B B1 B2 X x k0) (fun _ _ _ => True) (fun i => ([] : List Nat).contains i) (fun i => ([3, 5, 6, 10, 11] : List Nat).contains i) (by kernel_rfl) (fun _ _ _ _ h _ => h) 5 rfl hrd ?_ (Go.Rel.AllOf.get ?_) ?_
                · iterate 3 refine .cons (Go.Rel.pure_yes (by kernel_rfl) (fun _ => by kernel_rfl)) ?_
                  iterate 1 refine .cons (Go.Rel.pure_sp rfl) ?_
                  iterate 1 refine .cons (Go.Rel.pure_yes (by kernel_rfl) (fun _ => by kernel_rfl)) ?_
                  iterate 2 refine .cons (Go.Rel.pure_sp rfl) ?_
                  iterate 3 refine .cons (Go.Rel.pure_yes (by kernel_rfl) (fun _ => by kernel_rfl)) ?_
                  iterate 2 refine .cons (Go.Rel.pure_sp rfl) ?_
                  iterate 1 refine .cons (Go.Rel.pure_yes (by kernel_rfl) (fun _ => by kernel_rfl)) ?_
                  iterate 10 refine .cons (Go.Rel.pure_no (by kernel_rfl) rfl) ?_
                  iterate 3 refine .cons (Go.Rel.pure_yes (by kernel_rfl) (fun _ => by kernel_rfl)) ?_
                  exact .nil
                · refine ⟨?_, ?_, ?_, ?_, ?_, trivial⟩
                  · exact SpecOk.ld hrd hre (q := .pointer (some ⟨B, 0, none⟩)) (h := fun _ w' hI _ _ _ _ => by have cb := ro_ptrs ((hI.block B HLb.out).trans HKb.out); go_simp; rfl)
                  · refine SpecOk.gen (fun e => [(56, .func (.func 52) #[.int .i64 x.val.node] #[])]) rfl rfl (fun _ => by kernel_rfl) fun f w' e hI hf hdesc hanc hle hX K hK => ?_
                    go_simp
                    refine (HK0.out w' hI).mono ?_
                    rintro e w2 ⟨rfl, hb9⟩
                    exact hK _ _ hb9 (hI.trans (hb9.mono hI.size)) rfl
                  · refine SpecOk.call 59 #[.pointer (some ⟨B1, 0, none⟩), .string k0] rfl (by kernel_rfl) (fun _ => by kernel_rfl) fun _ w' hI _ _ _ _ => ?_
                    refine (HH0.out w' hI).mono ?_
                    rintro e w2 ⟨rfl, hb9⟩
                    exact ⟨_, rfl, hb9, (hI.trans (hb9.mono hI.size)), rfl⟩
                  · exact SpecOk.ld hrd hre (q := .pointer (some ⟨X, 2, none⟩)) (h := fun _ w' hI _ _ _ _ => by have cc := ck_blk ((hI.block X HLx.out).trans HKx.out); go_simp; rfl)
                  · refine SpecOk.gen (fun e => [(62, .string x.val.svc)]) rfl rfl (fun _ => by kernel_rfl) fun f w' e hI hf hdesc hanc hle hX K hK => ?_
                    have hs := HSv.out
                    go_simp
                    exact hK _ _ (hre _) (hrd f w' 11 (by decide) hI) rfl
                · intro f W2 e hall hJ hle hv
                  have v9 := hv 25 rfl
                  simp only [Go.Rel.finL, List.setIfInBounds_toArray, List.set_cons_succ, List.set_cons_zero]
                  rw [show e 25 = .bool false from v9]
                  have HJ : Hid (Below w.heap.size w W2) := Lib.hid (HB1.out.trans ((HB.out.trans (hJ.mono HB.out.size)).mono HB1.out.size))
                  have HJ0 := Lib.hid hJ
                  clear hv hall hle hJ v9
                  have hA := (HA.out.below HJ0.out)
                  have HA := Lib.hid hA
                  have HKb := Lib.hid hA.ptr
                  have HLb := Lib.hid hA.lt
                  have hkx := (HJ0.out.block X HLx.out).trans HKx.out
                  have HKx := Lib.hid hkx
                  have HLx := Lib.hid (block_lt hkx)
                  have HM3 : Hid (∀ k, k = B3 → k < W2.heap.size) := Lib.hid fun k e => by rw [e]; exact hA.lts.2.2
                  have HOf := Lib.hid ofCheck_any
                  have HRw := Lib.hid (fun W (hW : Below W2.heap.size W2 W) => (by
                    have := rowCheck_any x W HIn.out.node HIl.out (hA.pw.below hW)
                    unfold ckV Ct.trV CkA.key at this
                    rw [HHk.out] at this
                    exact this : Calls Tryz.prog 97 #[.agg #[.int .i64 x.val.node, .string x.val.id, .string x.val.svc, .string x.val.note, .int .i64 x.val.status, .int .u64 (x.made : Int), .int .u64 (x.ix : Int)]] W fun e w' => e = .returned (.agg #[.string k, .int .i64 x.val.node, .string x.val.id, .string x.val.svc, .string x.val.note, .int .i64 x.val.status, .int .u64 (x.made : Int), .int .u64 (x.ix : Int), .int .u64 (x.made : Int), .int .u64 (x.ix : Int)]) ∧ Below W.heap.size W w'))
                  have HLay := Lib.hid (fun W (hW : Below W2.heap.size W2 W) => (by
                    have := layCheck_any ⟨k, ⟨x.val, x.made, x.ix⟩, x.made, x.ix⟩ i (hA.t3.below hW) HI.out HKs.out
                    unfold Ct.trV at this
                    rw [HEr.out, HT3.out] at this
                    exact this : Calls Tryz.prog 61 #[.pointer (some ⟨B3, 0, none⟩), .agg #[.string k, .int .i64 x.val.node, .string x.val.id, .string x.val.svc, .string x.val.note, .int .i64 x.val.status, .int .u64 (x.made : Int), .int .u64 (x.ix : Int), .int .u64 (x.made : Int), .int .u64 (x.ix : Int)], .int .u64 (i : Int)] W fun e w' => e = .returned (.int .i64 (er : Int)) ∧ Ct.TAt (fun k => Sub S B B1 B2 k ∨ W.heap.size ≤ k) w' B3 T3' ∧ But (· = B3) W w'))
                  clear hA hkx HK0 HH0
                  go_wp2_with fail
                  have hre : ∀ w : World, (But (OldB W2)) w w := (fun w => But.refl _ w)
                  have hrd : ∀ (f : Nat → Bool) w i, i ≠ 9 → (TI 9 W2 (fun w => Ct.TAt (fun k => Sub S B B1 B2 k ∨ W2.heap.size ≤ k) w B3 T3' ∧ But (· = B3) W2 w)) f w → (TI 9 W2 (fun w => Ct.TAt (fun k => Sub S B B1 B2 k ∨ W2.heap.size ≤ k) w B3 T3' ∧ But (· = B3) W2 w)) (Go.Rel.upd f i) w := (fun _ _ _ hi h => h.read hi)
                  refine Go.Rel.wp_tab (by kernel_rfl) (by kernel_rfl) (TI 9 W2 (fun w => Ct.TAt (fun k => Sub S B B1 B2 k ∨ W2.heap.size ≤ k) w B3 T3' ∧ But (· = B3) W2 w)) (But (OldB W2)) hre ((fun _ _ _ h k => h.trans k)) (OldB.drew) TI.start (rclE B B3 X x i k er) (fun _ _ _ => True) (fun i => ([] : List Nat).contains i) (fun i => ([3, 4, 6, 7, 9] : List Nat).contains i) (by kernel_rfl) (fun _ _ _ _ h _ => h) 9 rfl hrd ?_ (Go.Rel.AllOf.get ?_) ?_
                  · repeat (refine .cons (by first | exact Go.Rel.pure_sp rfl | exact Go.Rel.pure_yes (by kernel_rfl) (fun _ => by kernel_rfl) | exact Go.Rel.pure_no (by kernel_rfl) rfl) ?_)
                    exact .nil
                  · refine ⟨?_, ?_, ?_, ?_, ?_, trivial⟩
                    · exact SpecOk.ld hrd hre (q := .pointer (some ⟨B, 2, none⟩)) (h := fun _ w' hI _ hdesc _ _ => by have cb := ro_ptrs (((hI.ahead (hdesc 60 9 (by kernel_rfl))).block B HLb.out).trans HKb.out); go_simp; rfl)
                    · refine SpecOk.gen (fun e => []) rfl rfl (fun _ => by kernel_rfl) fun f w' e hI hf hdesc hanc hle hX K hK => ?_
                      go_simp
                      have zL : f 9 = false := hdesc 60 9 (by kernel_rfl)
                      refine (HOf.out w').mono ?_
                      rintro e w2 ⟨rfl, hb9⟩
                      exact hK _ _ (But.of_below hb9) (hI.below zL hb9 (by decide)) rfl
                    · exact SpecOk.ld hrd hre (q := .pointer (some ⟨X, 0, none⟩)) (h := fun _ w' hI _ hdesc _ _ => by have cc := ck_blk (((hI.ahead (hdesc 60 9 (by kernel_rfl))).block X HLx.out).trans HKx.out); go_simp; rfl)
                    · refine SpecOk.gen (fun e => [(82, .func (.func 97) #[] #[]), (83, .agg #[.int .i64 x.val.node, .string x.val.id, .string x.val.svc, .string x.val.note, .int .i64 x.val.status, .int .u64 (x.made : Int), .int .u64 (x.ix : Int)])]) rfl rfl (fun _ => by kernel_rfl) fun f w' e hI hf hdesc hanc hle hX K hK => ?_
                      go_simp
                      have zL : f 9 = false := hdesc 60 9 (by kernel_rfl)
                      refine (HRw.out w' (hI.ahead zL)).mono ?_
                      rintro e w2 ⟨rfl, hb9⟩
                      exact hK _ _ (But.of_below hb9) (hI.below zL hb9 (by decide)) rfl
                    · refine SpecOk.call 61 #[.pointer (some ⟨B3, 0, none⟩), .agg #[.string k, .int .i64 x.val.node, .string x.val.id, .string x.val.svc, .string x.val.note, .int .i64 x.val.status, .int .u64 (x.made : Int), .int .u64 (x.ix : Int), .int .u64 (x.made : Int), .int .u64 (x.ix : Int)], .int .u64 (i : Int)] rfl (by kernel_rfl) (fun _ => by kernel_rfl) fun _ w' hI hf _ _ _ => ?_
                      refine (HLay.out w' (hI.ahead hf)).mono ?_
                      rintro e9 w9 ⟨rfl, h9, hb9⟩
                      exact ⟨_, rfl, (But.oldB hb9 HM3.out), (TI.last ⟨h9.narrow fun k _ z => z.imp (fun z => z) fun z => Nat.le_trans (hI.ahead hf).size z, (But.of_below (hI.ahead hf)).trans hb9⟩), rfl⟩
                  · intro f w3 e hall hJ hle hv
                    have HJ2 := Lib.hid (hJ.done_ (hall 9 (by decide)))
                    have v9 := hv 10 rfl
                    simp only [Go.Rel.finL, List.setIfInBounds_toArray, List.set_cons_succ, List.set_cons_zero]
                    rw [show e 10 = .int .i64 (er : Int) from v9]
                    clear hv hall hle hJ v9
                    go_wp2
                    go_ret
                    exact ⟨rfl, ⟨HOk2.out, _, _, _, (HA.out.turn3 HJ2.out.1 HJ2.out.2).narrow fun k _ z => z.imp (fun z => z) (Nat.le_trans HJ.out.size), HE.out.1, HE.out.2.1, rfl⟩, (But.of_below HJ.out).trans (but3 HJ2.out.2)⟩
          | false =>
            have hse : x.val.svc ≠ noT := text_other.1 hq
            have hqe : ¬ x.val.svc.toList = [] := fun e => hse (text_same.1 (by rw [e, noT_list]; rfl))
            have hqi : x.val.svc.toList.isEmpty = false := by rw [Bool.eq_false_iff]; exact fun e => hqe (by simpa using e)
            cases hsv : rightB x.val.svc.data.toList with
            | false =>
              have hd : d.check x.val i = (10, d) := chk_bad (by
                unfold Ro.wrongC
                rw [if_neg h1, if_pos (.inr ⟨hse, hsv⟩)]) (by decide)
              rw [hd]
              clear hd
              rw [hsv] at HNs
              clear hb h1 hid hsv hse
              go_enter Tryz.func20, Tryz.ntmps20
              go_wp2_with fail
              rw [HW1.out, HX0.out]
              refine HMd.out.mono ?_
              rintro e W0 ⟨rfl, hb⟩
              have HB := Lib.hid hb
              have hkx := (hb.block X (block_lt HKx0.out)).trans HKx0.out
              have dx := ck_blk hkx
              have lx := block_lt hkx
              clear hb
              go_wp2_with fail
              refine (HRt.out _).mono ?_
              rintro e w2 ⟨rfl, rfl⟩
              go_wp2_with fail
              refine (HNm.out _).mono ?_
              rintro e w2 ⟨rfl, rfl⟩
              go_wp2_with fail
              refine (HNs.out _).mono ?_
              rintro e w2 ⟨rfl, rfl⟩
              go_wp2
              go_ret
              exact ⟨rfl, HAt.out.wide (HB1.out.trans (HB.out.mono HB1.out.size)), But.of_below (HB1.out.trans (HB.out.mono HB1.out.size))⟩
            | true =>
              have hsvl := right_sz hsv
              rw [hsv] at HNs
              have h2 : ¬ (rightB x.val.id.data.toList = false ∨ (x.val.svc ≠ noT ∧ rightB x.val.svc.data.toList = false)) := by rw [hid, hsv]; simp
              by_cases hl : x.val.note.size ≤ 32
              case neg =>
                have hd : d.check x.val i = (3, d) := chk_bad (by
                  unfold Ro.wrongC
                  rw [if_neg h1, if_neg h2, if_pos (by omega)]) (by decide)
                rw [hd]
                clear hd
                rw [decide_eq_false hl] at HSh
                clear hb h1 h2 hid hl hse hsv
                go_enter Tryz.func20, Tryz.ntmps20
                go_wp2_with fail
                rw [HW1.out, HX0.out]
                refine HMd.out.mono ?_
                rintro e W0 ⟨rfl, hb⟩
                have HB := Lib.hid hb
                have hkx := (hb.block X (block_lt HKx0.out)).trans HKx0.out
                have dx := ck_blk hkx
                have lx := block_lt hkx
                clear hb
                go_wp2_with fail
                refine (HRt.out _).mono ?_
                rintro e w2 ⟨rfl, rfl⟩
                go_wp2_with fail
                refine (HNm.out _).mono ?_
                rintro e w2 ⟨rfl, rfl⟩
                go_wp2_with fail
                refine (HNs.out _).mono ?_
                rintro e w2 ⟨rfl, rfl⟩
                go_wp2_with fail
                refine (HSh.out _).mono ?_
                rintro e w2 ⟨rfl, rfl⟩
                go_wp2
                go_ret
                exact ⟨rfl, HAt.out.wide (HB1.out.trans (HB.out.mono HB1.out.size)), But.of_below (HB1.out.trans (HB.out.mono HB1.out.size))⟩
              case pos =>
                rw [decide_eq_true hl] at HSh
                have h3 : ¬ 32 < x.val.note.size := by omega
                obtain ⟨k0, hk0⟩ : ∃ k0, keyO x.val.node noT = k0 := ⟨_, rfl⟩
                have HSv : Hid (¬ x.val.svc.toList = [] ∧ x.val.svc.toList.isEmpty = false) := Lib.hid ⟨hqe, hqi⟩
                cases hth : d.there x.val.node with
                | false =>
                  have hd : d.check x.val i = (4, d) := chk_bad (by
                    unfold Ro.wrongC
                    rw [if_neg h1, if_neg h2, if_neg h3, if_pos (.inl hth)]) (by decide)
                  rw [hd]
                  clear hd
                  have HTh : Hid ((getR T1.l k0).isSome = false) := Lib.hid (by rw [← has_map (fun v : NdW => v.a) T1]; show (getR (nA T1).l k0).isSome = _; rw [HE.out.1, ← hk0]; exact hth)
                  have HHk0 := Lib.hid hk0
                  clear hb h1 h2 h3 hid hl hse hth hk0 hsv
                  go_enter Tryz.func20, Tryz.ntmps20
                  go_wp2_with fail
                  rw [HW1.out, HX0.out]
                  refine HMd.out.mono ?_
                  rintro e W0 ⟨rfl, hb⟩
                  have HB := Lib.hid hb
                  have hkx := (hb.block X (block_lt HKx0.out)).trans HKx0.out
                  have dx := ck_blk hkx
                  have lx := block_lt hkx
                  clear hb
                  go_wp2_with fail
                  refine (HRt.out _).mono ?_
                  rintro e w2 ⟨rfl, rfl⟩
                  go_wp2_with fail
                  refine (HNm.out _).mono ?_
                  rintro e w2 ⟨rfl, rfl⟩
                  go_wp2_with fail
                  refine (HNs.out _).mono ?_
                  rintro e w2 ⟨rfl, rfl⟩
                  go_wp2_with fail
                  refine (HSh.out _).mono ?_
                  rintro e w2 ⟨rfl, rfl⟩
                  have hA := HIs.out.below HB.out
                  have HA := Lib.hid hA
                  have HKb := Lib.hid hA.ptr
                  have HLb := Lib.hid hA.lt
                  have HKx := Lib.hid hkx
                  have HLx := Lib.hid lx
                  have HK0 := Lib.hid (fun W (hW : Below W0.heap.size W0 W) => (by
                    have := rkey_any x.val.node noT W HIn.out.node (by decide) (hA.pw.below hW)
                    rw [HHk0.out] at this
                    exact this : Calls Tryz.prog 52 #[.int .i64 x.val.node, .string noT] W fun e w' => e = .returned (.string k0) ∧ Below W.heap.size W w'))
                  have HH0 := Lib.hid (fun W (hW : Below W0.heap.size W0 W) => (by
                    have := hasNode_any k0 (hA.t1.below hW)
                    rw [HTh.out] at this
                    exact this : Calls Tryz.prog 59 #[.pointer (some ⟨B1, 0, none⟩), .string k0] W fun e w' => e = .returned (.bool false) ∧ Below W.heap.size W w'))
                  clear hA hkx dx lx HMd HRt HNm HNs HSh HIs
                  go_wp2_with fail
                  have hre : ∀ w : World, ((fun a b : World => Below a.heap.size a b)) w w := (fun w => Below.refl _ w)
                  have hrd : ∀ (f : Nat → Bool) w i, i ≠ 5 → (fun (_ : Nat → Bool) (w : World) => Below W0.heap.size W0 w) f w → (fun (_ : Nat → Bool) (w : World) => Below W0.heap.size W0 w) (Go.Rel.upd f i) w := (fun _ _ _ _ h => h)
                  refine Go.Rel.wp_tab (by kernel_rfl) (by kernel_rfl) (fun (_ : Nat → Bool) (w : World) => Below W0.heap.size W0 w) ((fun a b : World => Below a.heap.size a b)) hre ((fun _ _ _ h k => h.trans (k.mono h.size))) ((⟨rfl, rfl, rfl, Nat.le_refl _, fun _ _ => rfl⟩)) ⟨rfl, rfl, rfl, Nat.le_refl _, fun _ _ => rfl⟩ (rckNE B B1 B2 X x k0) (fun _ _ _ => True) (fun i => ([] : List Nat).contains i) (fun i => ([3, 5, 6] : List Nat).contains i) (by kernel_rfl) (fun _ _ _ _ h _ => h) 5 rfl hrd ?_ (Go.Rel.AllOf.get ?_) ?_
                  · iterate 3 refine .cons (Go.Rel.pure_yes (by kernel_rfl) (fun _ => by kernel_rfl)) ?_
                    iterate 1 refine .cons (Go.Rel.pure_sp rfl) ?_
                    iterate 1 refine .cons (Go.Rel.pure_yes (by kernel_rfl) (fun _ => by kernel_rfl)) ?_
                    iterate 2 refine .cons (Go.Rel.pure_sp rfl) ?_
                    iterate 2 refine .cons (Go.Rel.pure_yes (by kernel_rfl) (fun _ => by kernel_rfl)) ?_
                    iterate 15 refine .cons (Go.Rel.pure_no (by kernel_rfl) rfl) ?_
                    iterate 2 refine .cons (Go.Rel.pure_yes (by kernel_rfl) (fun _ => by kernel_rfl)) ?_
                    exact .nil
                  · refine ⟨?_, ?_, ?_, trivial⟩
                    · exact SpecOk.ld hrd hre (q := .pointer (some ⟨B, 0, none⟩)) (h := fun _ w' hI _ _ _ _ => by have cb := ro_ptrs ((hI.block B HLb.out).trans HKb.out); go_simp; rfl)
                    · refine SpecOk.gen (fun e => [(56, .func (.func 52) #[.int .i64 x.val.node] #[])]) rfl rfl (fun _ => by kernel_rfl) fun f w' e hI hf hdesc hanc hle hX K hK => ?_
                      go_simp
                      refine (HK0.out w' hI).mono ?_
                      rintro e w2 ⟨rfl, hb9⟩
                      exact hK _ _ hb9 (hI.trans (hb9.mono hI.size)) rfl
                    · refine SpecOk.call 59 #[.pointer (some ⟨B1, 0, none⟩), .string k0] rfl (by kernel_rfl) (fun _ => by kernel_rfl) fun _ w' hI _ _ _ _ => ?_
                      refine (HH0.out w' hI).mono ?_
                      rintro e w2 ⟨rfl, hb9⟩
                      exact ⟨_, rfl, hb9, (hI.trans (hb9.mono hI.size)), rfl⟩
                  · intro f W2 e hall hJ hle hv
                    have v9 := hv 25 rfl
                    simp only [Go.Rel.finL, List.setIfInBounds_toArray, List.set_cons_succ, List.set_cons_zero]
                    rw [show e 25 = .bool true from v9]
                    have HJ : Hid (Below w.heap.size w W2) := Lib.hid (HB1.out.trans ((HB.out.trans (hJ.mono HB.out.size)).mono HB1.out.size))
                    have HJ0 := Lib.hid hJ
                    clear hv hall hle hJ v9
                    go_wp2
                    go_ret
                    exact ⟨rfl, HAt.out.wide HJ.out, But.of_below HJ.out⟩
                | true =>
                  obtain ⟨k1, hk1⟩ : ∃ k1, keyO x.val.node x.val.svc = k1 := ⟨_, rfl⟩
                  have HHk1 := Lib.hid hk1
                  have HSl := Lib.hid hsvl
                  have HTh : Hid ((getR T1.l k0).isSome = true) := Lib.hid (by rw [← has_map (fun v : NdW => v.a) T1]; show (getR (nA T1).l k0).isSome = _; rw [HE.out.1, ← hk0]; exact hth)
                  have HHk0 := Lib.hid hk0
                  have HIl := Lib.hid hidl
                  cases hha : d.has x.val.node x.val.svc with
                  | false =>
                    have hd : d.check x.val i = (4, d) := chk_bad (by
                      unfold Ro.wrongC
                      rw [if_neg h1, if_neg h2, if_neg h3, if_pos (.inr ⟨hse, hha⟩)]) (by decide)
                    rw [hd]
                    clear hd
                    have HHs : Hid ((getR T2.l k1).isSome = false) := Lib.hid (by rw [← has_map (fun v : SvW => v.a) T2]; show (getR (sA T2).l k1).isSome = _; rw [HE.out.2.1, ← hk1]; exact hha)
                    clear hb h1 h2 h3 hid hl hse hth hk0 hk1 hsv hsvl hha hidl
                    go_enter Tryz.func20, Tryz.ntmps20
                    go_wp2_with fail
                    rw [HW1.out, HX0.out]
                    refine HMd.out.mono ?_
                    rintro e W0 ⟨rfl, hb⟩
                    have HB := Lib.hid hb
                    have hkx := (hb.block X (block_lt HKx0.out)).trans HKx0.out
                    have dx := ck_blk hkx
                    have lx := block_lt hkx
                    clear hb
                    go_wp2_with fail
                    refine (HRt.out _).mono ?_
                    rintro e w2 ⟨rfl, rfl⟩
                    go_wp2_with fail
                    refine (HNm.out _).mono ?_
                    rintro e w2 ⟨rfl, rfl⟩
                    go_wp2_with fail
                    refine (HNs.out _).mono ?_
                    rintro e w2 ⟨rfl, rfl⟩
                    go_wp2_with fail
                    refine (HSh.out _).mono ?_
                    rintro e w2 ⟨rfl, rfl⟩
                    have hA := HIs.out.below HB.out
                    have HA := Lib.hid hA
                    have HKb := Lib.hid hA.ptr
                    have HLb := Lib.hid hA.lt
                    have HKx := Lib.hid hkx
                    have HLx := Lib.hid lx
                    have HK0 := Lib.hid (fun W (hW : Below W0.heap.size W0 W) => (by
                      have := rkey_any x.val.node noT W HIn.out.node (by decide) (hA.pw.below hW)
                      rw [HHk0.out] at this
                      exact this : Calls Tryz.prog 52 #[.int .i64 x.val.node, .string noT] W fun e w' => e = .returned (.string k0) ∧ Below W.heap.size W w'))
                    have HH0 := Lib.hid (fun W (hW : Below W0.heap.size W0 W) => (by
                      have := hasNode_any k0 (hA.t1.below hW)
                      rw [HTh.out] at this
                      exact this : Calls Tryz.prog 59 #[.pointer (some ⟨B1, 0, none⟩), .string k0] W fun e w' => e = .returned (.bool true) ∧ Below W.heap.size W w'))
                    have HK1 := Lib.hid (fun W (hW : Below W0.heap.size W0 W) => (by
                      have := rkey_any x.val.node x.val.svc W HIn.out.node HSl.out (hA.pw.below hW)
                      rw [HHk1.out] at this
                      exact this : Calls Tryz.prog 52 #[.int .i64 x.val.node, .string x.val.svc] W fun e w' => e = .returned (.string k1) ∧ Below W.heap.size W w'))
                    have HH1 := Lib.hid (fun W (hW : Below W0.heap.size W0 W) => (by
                      have := hasService_any k1 (hA.t2.below hW)
                      rw [HHs.out] at this
                      exact this : Calls Tryz.prog 60 #[.pointer (some ⟨B2, 0, none⟩), .string k1] W fun e w' => e = .returned (.bool false) ∧ Below W.heap.size W w'))
                    clear hA hkx dx lx HMd HRt HNm HNs HSh HIs
                    go_wp2_with fail
                    have hre : ∀ w : World, ((fun a b : World => Below a.heap.size a b)) w w := (fun w => Below.refl _ w)
                    have hrd : ∀ (f : Nat → Bool) w i, i ≠ 5 → (fun (_ : Nat → Bool) (w : World) => Below W0.heap.size W0 w) f w → (fun (_ : Nat → Bool) (w : World) => Below W0.heap.size W0 w) (Go.Rel.upd f i) w := (fun _ _ _ _ h => h)
                    refine Go.Rel.wp_tab (by kernel_rfl) (by kernel_rfl) (fun (_ : Nat → Bool) (w : World) => Below W0.heap.size W0 w) ((fun a b : World => Below a.heap.size a b)) hre ((fun _ _ _ h k => h.trans (k.mono h.size))) ((⟨rfl, rfl, rfl, Nat.le_refl _, fun _ _ => rfl⟩)) ⟨rfl, rfl, rfl, Nat.le_refl _, fun _ _ => rfl⟩ (rckSE B B1 B2 X x k0 k1 false) (fun _ _ _ => True) (fun i => ([] : List Nat).contains i) (fun i => ([3, 5, 6, 10, 11, 16, 19, 20, 21] : List Nat).contains i) (by kernel_rfl) (fun _ _ _ _ h _ => h) 5 rfl hrd ?_ (Go.Rel.AllOf.get ?_) ?_
                    · repeat (refine .cons (by first | exact Go.Rel.pure_sp rfl | exact Go.Rel.pure_yes (by kernel_rfl) (fun _ => by kernel_rfl) | exact Go.Rel.pure_no (by kernel_rfl) rfl) ?_)
                      exact .nil
                    · refine ⟨?_, ?_, ?_, ?_, ?_, ?_, ?_, ?_, ?_, trivial⟩
                      · exact SpecOk.ld hrd hre (q := .pointer (some ⟨B, 0, none⟩)) (h := fun _ w' hI _ _ _ _ => by have cb := ro_ptrs ((hI.block B HLb.out).trans HKb.out); go_simp; rfl)
                      · refine SpecOk.gen (fun e => [(56, .func (.func 52) #[.int .i64 x.val.node] #[])]) rfl rfl (fun _ => by kernel_rfl) fun f w' e hI hf hdesc hanc hle hX K hK => ?_
                        go_simp
                        refine (HK0.out w' hI).mono ?_
                        rintro e w2 ⟨rfl, hb9⟩
                        exact hK _ _ hb9 (hI.trans (hb9.mono hI.size)) rfl
                      · refine SpecOk.call 59 #[.pointer (some ⟨B1, 0, none⟩), .string k0] rfl (by kernel_rfl) (fun _ => by kernel_rfl) fun _ w' hI _ _ _ _ => ?_
                        refine (HH0.out w' hI).mono ?_
                        rintro e w2 ⟨rfl, hb9⟩
                        exact ⟨_, rfl, hb9, (hI.trans (hb9.mono hI.size)), rfl⟩
                      · exact SpecOk.ld hrd hre (q := .pointer (some ⟨X, 2, none⟩)) (h := fun _ w' hI _ _ _ _ => by have cc := ck_blk ((hI.block X HLx.out).trans HKx.out); go_simp; rfl)
                      · refine SpecOk.gen (fun e => [(62, .string x.val.svc)]) rfl rfl (fun _ => by kernel_rfl) fun f w' e hI hf hdesc hanc hle hX K hK => ?_
                        have hs := HSv.out
                        go_simp
                        exact hK _ _ (hre _) (hrd f w' 11 (by decide) hI) rfl
                      · exact SpecOk.ld hrd hre (q := .pointer (some ⟨B, 1, none⟩)) (h := fun _ w' hI _ _ _ _ => by have cb := ro_ptrs ((hI.block B HLb.out).trans HKb.out); go_simp; rfl)
                      · exact SpecOk.ld hrd hre (q := .pointer (some ⟨X, 2, none⟩)) (h := fun _ w' hI _ _ _ _ => by have cc := ck_blk ((hI.block X HLx.out).trans HKx.out); go_simp; rfl)
                      · refine SpecOk.gen (fun e => [(69, .func (.func 52) #[.int .i64 x.val.node] #[]), (71, .string x.val.svc)]) rfl rfl (fun _ => by kernel_rfl) fun f w' e hI hf hdesc hanc hle hX K hK => ?_
                        go_simp
                        refine (HK1.out w' hI).mono ?_
                        rintro e w2 ⟨rfl, hb9⟩
                        exact hK _ _ hb9 (hI.trans (hb9.mono hI.size)) rfl
                      · refine SpecOk.call 60 #[.pointer (some ⟨B2, 0, none⟩), .string k1] rfl (by kernel_rfl) (fun _ => by kernel_rfl) fun _ w' hI _ _ _ _ => ?_
                        refine (HH1.out w' hI).mono ?_
                        rintro e w2 ⟨rfl, hb9⟩
                        exact ⟨_, rfl, hb9, (hI.trans (hb9.mono hI.size)), rfl⟩
                    · intro f W2 e hall hJ hle hv
                      have v9 := hv 25 rfl
                      simp only [Go.Rel.finL, List.setIfInBounds_toArray, List.set_cons_succ, List.set_cons_zero]
                      rw [show e 25 = .bool true from v9]
                      have HJ : Hid (Below w.heap.size w W2) := Lib.hid (HB1.out.trans ((HB.out.trans (hJ.mono HB.out.size)).mono HB1.out.size))
                      have HJ0 := Lib.hid hJ
                      clear hv hall hle hJ v9
                      go_wp2
                      go_ret
                      exact ⟨rfl, HAt.out.wide HJ.out, But.of_below HJ.out⟩
                  | true =>
                    have h4 : ¬ (d.there x.val.node = false ∨ (x.val.svc ≠ noT ∧ d.has x.val.node x.val.svc = false)) := by rw [hth, hha]; simp
                    have hw : d.wrongC x.val = 0 := by
                      unfold Ro.wrongC
                      rw [if_neg h1, if_neg h2, if_neg h3, if_neg h4]
                    have hok1 := wrongC_ok.1 hw
                    obtain ⟨k, hk⟩ : ∃ k, keyO x.val.node x.val.id = k := ⟨_, rfl⟩
                    have hks : k.size ≤ maxLen := by rw [← hk]; exact hok1.1.key
                    obtain ⟨er, her⟩ : ∃ er, layE T3 k = er := ⟨_, rfl⟩
                    obtain ⟨T3', hT3⟩ : ∃ T3', T3.putT k ⟨x.val, x.made, x.ix⟩ i = T3' := ⟨_, rfl⟩
                    have hd : d.check x.val i = (er, { d with c := cA T3' }) := by
                      unfold Ro.check CkA.key
                      rw [hw, if_neg (by simp), ← HE.out.2.2, hk, layE_map, her, ← hT3, put_cA]
                    have hok2 := HOk.out.check (x := x.val) HI.out
                    rw [hd] at hok2 ⊢
                    have HOk2 := Lib.hid hok2
                    have HKs := Lib.hid hks
                    have HHk := Lib.hid hk
                    have HEr := Lib.hid her
                    have HT3 := Lib.hid hT3
                    clear hw hok1 hk hks her hT3 hd hok2
                    have HHs : Hid ((getR T2.l k1).isSome = true) := Lib.hid (by rw [← has_map (fun v : SvW => v.a) T2]; show (getR (sA T2).l k1).isSome = _; rw [HE.out.2.1, ← hk1]; exact hha)
                    clear hb h1 h2 h3 h4 hid hl hse hth hk0 hk1 hsv hsvl hha hidl
                    go_enter Tryz.func20, Tryz.ntmps20
                    go_wp2_with fail
                    rw [HW1.out, HX0.out]
                    refine HMd.out.mono ?_
                    rintro e W0 ⟨rfl, hb⟩
                    have HB := Lib.hid hb
                    have hkx := (hb.block X (block_lt HKx0.out)).trans HKx0.out
                    have dx := ck_blk hkx
                    have lx := block_lt hkx
                    clear hb
                    go_wp2_with fail
                    refine (HRt.out _).mono ?_
                    rintro e w2 ⟨rfl, rfl⟩
                    go_wp2_with fail
                    refine (HNm.out _).mono ?_
                    rintro e w2 ⟨rfl, rfl⟩
                    go_wp2_with fail
                    refine (HNs.out _).mono ?_
                    rintro e w2 ⟨rfl, rfl⟩
                    go_wp2_with fail
                    refine (HSh.out _).mono ?_
                    rintro e w2 ⟨rfl, rfl⟩
                    have hA := HIs.out.below HB.out
                    have HA := Lib.hid hA
                    have HKb := Lib.hid hA.ptr
                    have HLb := Lib.hid hA.lt
                    have HKx := Lib.hid hkx
                    have HLx := Lib.hid lx
                    have HK0 := Lib.hid (fun W (hW : Below W0.heap.size W0 W) => (by
                      have := rkey_any x.val.node noT W HIn.out.node (by decide) (hA.pw.below hW)
                      rw [HHk0.out] at this
                      exact this : Calls Tryz.prog 52 #[.int .i64 x.val.node, .string noT] W fun e w' => e = .returned (.string k0) ∧ Below W.heap.size W w'))
                    have HH0 := Lib.hid (fun W (hW : Below W0.heap.size W0 W) => (by
                      have := hasNode_any k0 (hA.t1.below hW)
                      rw [HTh.out] at this
                      exact this : Calls Tryz.prog 59 #[.pointer (some ⟨B1, 0, none⟩), .string k0] W fun e w' => e = .returned (.bool true) ∧ Below W.heap.size W w'))
                    have HK1 := Lib.hid (fun W (hW : Below W0.heap.size W0 W) => (by
                      have := rkey_any x.val.node x.val.svc W HIn.out.node HSl.out (hA.pw.below hW)
                      rw [HHk1.out] at this
                      exact this : Calls Tryz.prog 52 #[.int .i64 x.val.node, .string x.val.svc] W fun e w' => e = .returned (.string k1) ∧ Below W.heap.size W w'))
                    have HH1 := Lib.hid (fun W (hW : Below W0.heap.size W0 W) => (by
                      have := hasService_any k1 (hA.t2.below hW)
                      rw [HHs.out] at this
                      exact this : Calls Tryz.prog 60 #[.pointer (some ⟨B2, 0, none⟩), .string k1] W fun e w' => e = .returned (.bool true) ∧ Below W.heap.size W w'))
                    clear hA hkx dx lx HMd HRt HNm HNs HSh HIs
                    go_wp2_with fail
                    have hre : ∀ w : World, ((fun a b : World => Below a.heap.size a b)) w w := (fun w => Below.refl _ w)
                    have hrd : ∀ (f : Nat → Bool) w i, i ≠ 5 → (fun (_ : Nat → Bool) (w : World) => Below W0.heap.size W0 w) f w → (fun (_ : Nat → Bool) (w : World) => Below W0.heap.size W0 w) (Go.Rel.upd f i) w := (fun _ _ _ _ h => h)
                    refine Go.Rel.wp_tab (by kernel_rfl) (by kernel_rfl) (fun (_ : Nat → Bool) (w : World) => Below W0.heap.size W0 w) ((fun a b : World => Below a.heap.size a b)) hre ((fun _ _ _ h k => h.trans (k.mono h.size))) ((⟨rfl, rfl, rfl, Nat.le_refl _, fun _ _ => rfl⟩)) ⟨rfl, rfl, rfl, Nat.le_refl _, fun _ _ => rfl⟩ (rckSE B B1 B2 X x k0 k1 true) (fun _ _ _ => True) (fun i => ([] : List Nat).contains i) (fun i => ([3, 5, 6, 10, 11, 16, 19, 20, 21] : List Nat).contains i) (by kernel_rfl) (fun _ _ _ _ h _ => h) 5 rfl hrd ?_ (Go.Rel.AllOf.get ?_) ?_
                    · repeat (refine .cons (by first | exact Go.Rel.pure_sp rfl | exact Go.Rel.pure_yes (by kernel_rfl) (fun _ => by kernel_rfl) | exact Go.Rel.pure_no (by kernel_rfl) rfl) ?_)
                      exact .nil
                    · refine ⟨?_, ?_, ?_, ?_, ?_, ?_, ?_, ?_, ?_, trivial⟩
                      · exact SpecOk.ld hrd hre (q := .pointer (some ⟨B, 0, none⟩)) (h := fun _ w' hI _ _ _ _ => by have cb := ro_ptrs ((hI.block B HLb.out).trans HKb.out); go_simp; rfl)
                      · refine SpecOk.gen (fun e => [(56, .func (.func 52) #[.int .i64 x.val.node] #[])]) rfl rfl (fun _ => by kernel_rfl) fun f w' e hI hf hdesc hanc hle hX K hK => ?_
                        go_simp
                        refine (HK0.out w' hI).mono ?_
                        rintro e w2 ⟨rfl, hb9⟩
                        exact hK _ _ hb9 (hI.trans (hb9.mono hI.size)) rfl
                      · refine SpecOk.call 59 #[.pointer (some ⟨B1, 0, none⟩), .string k0] rfl (by kernel_rfl) (fun _ => by kernel_rfl) fun _ w' hI _ _ _ _ => ?_
                        refine (HH0.out w' hI).mono ?_
                        rintro e w2 ⟨rfl, hb9⟩
                        exact ⟨_, rfl, hb9, (hI.trans (hb9.mono hI.size)), rfl⟩
                      · exact SpecOk.ld hrd hre (q := .pointer (some ⟨X, 2, none⟩)) (h := fun _ w' hI _ _ _ _ => by have cc := ck_blk ((hI.block X HLx.out).trans HKx.out); go_simp; rfl)
                      · refine SpecOk.gen (fun e => [(62, .string x.val.svc)]) rfl rfl (fun _ => by kernel_rfl) fun f w' e hI hf hdesc hanc hle hX K hK => ?_
                        have hs := HSv.out
                        go_simp
                        exact hK _ _ (hre _) (hrd f w' 11 (by decide) hI) rfl
                      · exact SpecOk.ld hrd hre (q := .pointer (some ⟨B, 1, none⟩)) (h := fun _ w' hI _ _ _ _ => by have cb := ro_ptrs ((hI.block B HLb.out).trans HKb.out); go_simp; rfl)
                      · exact SpecOk.ld hrd hre (q := .pointer (some ⟨X, 2, none⟩)) (h := fun _ w' hI _ _ _ _ => by have cc := ck_blk ((hI.block X HLx.out).trans HKx.out); go_simp; rfl)
                      · refine SpecOk.gen (fun e => [(69, .func (.func 52) #[.int .i64 x.val.node] #[]), (71, .string x.val.svc)]) rfl rfl (fun _ => by kernel_rfl) fun f w' e hI hf hdesc hanc hle hX K hK => ?_
                        go_simp
                        refine (HK1.out w' hI).mono ?_
                        rintro e w2 ⟨rfl, hb9⟩
                        exact hK _ _ hb9 (hI.trans (hb9.mono hI.size)) rfl
                      · refine SpecOk.call 60 #[.pointer (some ⟨B2, 0, none⟩), .string k1] rfl (by kernel_rfl) (fun _ => by kernel_rfl) fun _ w' hI _ _ _ _ => ?_
                        refine (HH1.out w' hI).mono ?_
                        rintro e w2 ⟨rfl, hb9⟩
                        exact ⟨_, rfl, hb9, (hI.trans (hb9.mono hI.size)), rfl⟩
                    · intro f W2 e hall hJ hle hv
                      have v9 := hv 25 rfl
                      simp only [Go.Rel.finL, List.setIfInBounds_toArray, List.set_cons_succ, List.set_cons_zero]
                      rw [show e 25 = .bool false from v9]
                      have HJ : Hid (Below w.heap.size w W2) := Lib.hid (HB1.out.trans ((HB.out.trans (hJ.mono HB.out.size)).mono HB1.out.size))
                      have HJ0 := Lib.hid hJ
                      clear hv hall hle hJ v9
                      have hA := (HA.out.below HJ0.out)
                      have HA := Lib.hid hA
                      have HKb := Lib.hid hA.ptr
                      have HLb := Lib.hid hA.lt
                      have hkx := (HJ0.out.block X HLx.out).trans HKx.out
                      have HKx := Lib.hid hkx
                      have HLx := Lib.hid (block_lt hkx)
                      have HM3 : Hid (∀ k, k = B3 → k < W2.heap.size) := Lib.hid fun k e => by rw [e]; exact hA.lts.2.2
                      have HOf := Lib.hid ofCheck_any
                      have HRw := Lib.hid (fun W (hW : Below W2.heap.size W2 W) => (by
                        have := rowCheck_any x W HIn.out.node HIl.out (hA.pw.below hW)
                        unfold ckV Ct.trV CkA.key at this
                        rw [HHk.out] at this
                        exact this : Calls Tryz.prog 97 #[.agg #[.int .i64 x.val.node, .string x.val.id, .string x.val.svc, .string x.val.note, .int .i64 x.val.status, .int .u64 (x.made : Int), .int .u64 (x.ix : Int)]] W fun e w' => e = .returned (.agg #[.string k, .int .i64 x.val.node, .string x.val.id, .string x.val.svc, .string x.val.note, .int .i64 x.val.status, .int .u64 (x.made : Int), .int .u64 (x.ix : Int), .int .u64 (x.made : Int), .int .u64 (x.ix : Int)]) ∧ Below W.heap.size W w'))
                      have HLay := Lib.hid (fun W (hW : Below W2.heap.size W2 W) => (by
                        have := layCheck_any ⟨k, ⟨x.val, x.made, x.ix⟩, x.made, x.ix⟩ i (hA.t3.below hW) HI.out HKs.out
                        unfold Ct.trV at this
                        rw [HEr.out, HT3.out] at this
                        exact this : Calls Tryz.prog 61 #[.pointer (some ⟨B3, 0, none⟩), .agg #[.string k, .int .i64 x.val.node, .string x.val.id, .string x.val.svc, .string x.val.note, .int .i64 x.val.status, .int .u64 (x.made : Int), .int .u64 (x.ix : Int), .int .u64 (x.made : Int), .int .u64 (x.ix : Int)], .int .u64 (i : Int)] W fun e w' => e = .returned (.int .i64 (er : Int)) ∧ Ct.TAt (fun k => Sub S B B1 B2 k ∨ W.heap.size ≤ k) w' B3 T3' ∧ But (· = B3) W w'))
                      clear hA hkx HK0 HH0
                      go_wp2_with fail
                      have hre : ∀ w : World, (But (OldB W2)) w w := (fun w => But.refl _ w)
                      have hrd : ∀ (f : Nat → Bool) w i, i ≠ 9 → (TI 9 W2 (fun w => Ct.TAt (fun k => Sub S B B1 B2 k ∨ W2.heap.size ≤ k) w B3 T3' ∧ But (· = B3) W2 w)) f w → (TI 9 W2 (fun w => Ct.TAt (fun k => Sub S B B1 B2 k ∨ W2.heap.size ≤ k) w B3 T3' ∧ But (· = B3) W2 w)) (Go.Rel.upd f i) w := (fun _ _ _ hi h => h.read hi)
                      refine Go.Rel.wp_tab (by kernel_rfl) (by kernel_rfl) (TI 9 W2 (fun w => Ct.TAt (fun k => Sub S B B1 B2 k ∨ W2.heap.size ≤ k) w B3 T3' ∧ But (· = B3) W2 w)) (But (OldB W2)) hre ((fun _ _ _ h k => h.trans k)) (OldB.drew) TI.start (rclE B B3 X x i k er) (fun _ _ _ => True) (fun i => ([] : List Nat).contains i) (fun i => ([3, 4, 6, 7, 9] : List Nat).contains i) (by kernel_rfl) (fun _ _ _ _ h _ => h) 9 rfl hrd ?_ (Go.Rel.AllOf.get ?_) ?_
                      · repeat (refine .cons (by first | exact Go.Rel.pure_sp rfl | exact Go.Rel.pure_yes (by kernel_rfl) (fun _ => by kernel_rfl) | exact Go.Rel.pure_no (by kernel_rfl) rfl) ?_)
                        exact .nil
                      · refine ⟨?_, ?_, ?_, ?_, ?_, trivial⟩
                        · exact SpecOk.ld hrd hre (q := .pointer (some ⟨B, 2, none⟩)) (h := fun _ w' hI _ hdesc _ _ => by have cb := ro_ptrs (((hI.ahead (hdesc 60 9 (by kernel_rfl))).block B HLb.out).trans HKb.out); go_simp; rfl)
                        · refine SpecOk.gen (fun e => []) rfl rfl (fun _ => by kernel_rfl) fun f w' e hI hf hdesc hanc hle hX K hK => ?_
                          go_simp
                          have zL : f 9 = false := hdesc 60 9 (by kernel_rfl)
                          refine (HOf.out w').mono ?_
                          rintro e w2 ⟨rfl, hb9⟩
                          exact hK _ _ (But.of_below hb9) (hI.below zL hb9 (by decide)) rfl
                        · exact SpecOk.ld hrd hre (q := .pointer (some ⟨X, 0, none⟩)) (h := fun _ w' hI _ hdesc _ _ => by have cc := ck_blk (((hI.ahead (hdesc 60 9 (by kernel_rfl))).block X HLx.out).trans HKx.out); go_simp; rfl)
                        · refine SpecOk.gen (fun e => [(82, .func (.func 97) #[] #[]), (83, .agg #[.int .i64 x.val.node, .string x.val.id, .string x.val.svc, .string x.val.note, .int .i64 x.val.status, .int .u64 (x.made : Int), .int .u64 (x.ix : Int)])]) rfl rfl (fun _ => by kernel_rfl) fun f w' e hI hf hdesc hanc hle hX K hK => ?_
                          go_simp
                          have zL : f 9 = false := hdesc 60 9 (by kernel_rfl)
                          refine (HRw.out w' (hI.ahead zL)).mono ?_
                          rintro e w2 ⟨rfl, hb9⟩
                          exact hK _ _ (But.of_below hb9) (hI.below zL hb9 (by decide)) rfl
                        · refine SpecOk.call 61 #[.pointer (some ⟨B3, 0, none⟩), .agg #[.string k, .int .i64 x.val.node, .string x.val.id, .string x.val.svc, .string x.val.note, .int .i64 x.val.status, .int .u64 (x.made : Int), .int .u64 (x.ix : Int), .int .u64 (x.made : Int), .int .u64 (x.ix : Int)], .int .u64 (i : Int)] rfl (by kernel_rfl) (fun _ => by kernel_rfl) fun _ w' hI hf _ _ _ => ?_
                          refine (HLay.out w' (hI.ahead hf)).mono ?_
                          rintro e9 w9 ⟨rfl, h9, hb9⟩
                          exact ⟨_, rfl, (But.oldB hb9 HM3.out), (TI.last ⟨h9.narrow fun k _ z => z.imp (fun z => z) fun z => Nat.le_trans (hI.ahead hf).size z, (But.of_below (hI.ahead hf)).trans hb9⟩), rfl⟩
                      · intro f w3 e hall hJ hle hv
                        have HJ2 := Lib.hid (hJ.done_ (hall 9 (by decide)))
                        have v9 := hv 10 rfl
                        simp only [Go.Rel.finL, List.setIfInBounds_toArray, List.set_cons_succ, List.set_cons_zero]
                        rw [show e 10 = .int .i64 (er : Int) from v9]
                        clear hv hall hle hJ v9
                        go_wp2
                        go_ret
                        exact ⟨rfl, ⟨HOk2.out, _, _, _, (HA.out.turn3 HJ2.out.1 HJ2.out.2).narrow fun k _ z => z.imp (fun z => z) (Nat.le_trans HJ.out.size), HE.out.1, HE.out.2.1, rfl⟩, (But.of_below HJ.out).trans (but3 HJ2.out.2)⟩
end Go.Proofs.YtilkbfmaofmjoaaGreatDoor
